/- The law DrawWithin answers true for every key and all numbers, wherever quar.rounds reads as its text says; nothing that was there is turned. -/
import Derived.Test.YtpnkbdceaocbmaaDoorDAwake
import Derived.Test.YtpnkbdceaocbmaaDoorAppendK
namespace Go.Proofs.YtpnkbdceaocbmaaDoor
open Go.RowKit

theorem Src.keep {w w' : World} {g n : Nat} {key : List Int} (h : Src w g (.strm key) n) (hb : w'.heap[g]? = w.heap[g]?) : Src w' g (.strm key) n := by
  obtain ⟨h0, h1, h2, h4⟩ := h
  exact ⟨h0, h1, h2, hb.trans h4⟩
theorem Tryd.info_int : (Tryd.prog.info? 3).map (fun i => (i.zero, i.size, i.bytes)) = some (some (.int .i64 0), 1, 8) := by kernel_rfl

/-- The first k draws from n on, among p leaves. -/
def drawsL (key : List Int) (n : Nat) (p : Int) (k : Nat) : List Int := (List.range k).map fun j => among (streamD key ((n + j) % 18446744073709551616)) p
theorem drawsL_succ (key : List Int) (n : Nat) (p : Int) (k : Nat) : drawsL key n p (k + 1) = drawsL key n p k ++ [among (streamD key ((n + k) % 18446744073709551616)) p] := by
  simp [drawsL, List.range_succ]
theorem drawsL_getD (key : List Int) (n : Nat) (p : Int) (k j : Nat) (h : j < k) : (drawsL key n p k).getD j 0 = among (streamD key ((n + j) % 18446744073709551616)) p := by
  simp [drawsL, List.getD, h]
theorem among_in (x : BitVec 32) (q : Nat) (hq : q ≤ 16) : 0 ≤ among x ((2 ^ q : Nat) : Int) ∧ among x ((2 ^ q : Nat) : Int) < ((2 ^ q : Nat) : Int) := by
  rw [among_pow x q hq]
  have : x.toNat % 2 ^ q < 2 ^ q := Nat.mod_lt _ (Nat.pow_pos (by decide))
  omega

set_option maxRecDepth 100000 in
set_option maxHeartbeats 4000000 in
theorem drawWithin_walk (key : List Int) (fr bt m : Int) (w : World) (hk : IsBytes key) (hkl : key.length = 32) (hf : 0 ≤ fr ∧ fr < 18446744073709551616) (hg : Glob w) :
    Calls Tryd.prog 7 #[.agg (bV key), .int .u64 fr, .int .i64 bt, .int .i64 m] w fun e w' => e = .returned (.bool true) ∧ Below w.heap.size w w' := by
  have h0 := hg.lt
  obtain ⟨n, rfl⟩ := Int.eq_ofNat_of_zero_le hf.1
  have hn : n < 18446744073709551616 := by omega
  obtain ⟨q, hq⟩ : ∃ q : Nat, bt % 256 % 17 = (q : Int) := ⟨(bt % 256 % 17).toNat, by omega⟩
  have hq17 : q < 17 := by omega
  have e1 := i64_and255 bt
  obtain ⟨N, hN⟩ : ∃ N : Nat, m % 2 ^ 5 = (N : Int) := ⟨(m % 2 ^ 5).toNat, by omega⟩
  have hN32 : N < 32 := by omega
  have e2 := i64_mask m 5 (by decide) 31 (by decide)
  rw [hN] at e2
  clear hN hf
  have hpw := wrap_pow q (by omega)
  have hin : ∀ x, Hid (0 ≤ among x ((2 ^ q : Nat) : Int) ∧ among x ((2 ^ q : Nat) : Int) < ((2 ^ q : Nat) : Int)) := fun x => among_in x q (by omega)
  have hpl : 2 ^ q ≤ 2 ^ 16 := Nat.pow_le_pow_right (by decide) (by omega)
  generalize (2 : Nat) ^ q = p at *
  have n1 := heap_alloc_new w (Obj.cells (bV key) 22)
  have hb0 := below_alloc (Below.refl w.heap.size w) (Obj.cells (bV key) 22)
  have hg0 := hg.below hb0 h0
  go_enter Tryd.func7, Tryd.ntmps7
  go_wp2_with (refine wpList_loadA arrT32 (by rfl) _ (by rfl) w.heap.size (by rfl) (bV key) n1 (by rw [bV_size, hkl]) ?_)
  generalize (w.alloc (Obj.cells (bV key) 22)) = W0 at *
  refine (stream_any key n W0 hk hkl hn).mono ?_
  rintro e w1 ⟨g, rfl, hgl, hS1, hb1⟩
  have hb1' := hb0.trans (hb1.mono hb0.size)
  have hG1 := hg0.below hb1 hg0.lt
  have hgw : w.heap.size ≤ g := by have := hb0.size; omega
  have hglt := hS1.lt
  clear n1 hb0 hg0 hb1 hgl
  go_wp2_with fail
  obtain ⟨base, hbase⟩ : ∃ base, w1.heap.size = base := ⟨_, rfl⟩
  rw [hbase] at hglt
  have hwb : w.heap.size ≤ base := by omega
  go_loopw [11, 12] (fun v i wr => ∃ (k : Nat) (a : Option Addr) (cap : Nat), k ≤ N ∧ i = .int .i64 k ∧ v = .slice a k cap ∧ Src wr g (.strm key) ((n + k) % 18446744073709551616) ∧ Glob wr ∧ Below w.heap.size w wr ∧ OwnK .i64 3 base wr a k cap (drawsL key n p k) ∧ base ≤ wr.heap.size) (fun _ i _ => N - (intOf i).toNat)
  case atStart => exact ⟨0, none, 0, Nat.zero_le _, rfl, rfl, by rw [Nat.add_zero, Nat.mod_eq_of_lt hn]; exact hS1, hG1, hb1', OwnK.nil _ _ _ _, by omega⟩
  case round =>
    obtain ⟨k, a, cap, hkN, rfl, rfl, hS, hG, hB, hO, hbs⟩ := hrel
    clear hS1 hG1 hb1'
    by_cases hlt : k < N
    · go_wp2_with fail
      refine (next_strm (p : Int) wr hS hG (by omega) (by omega)).mono ?_
      rintro e w2 ⟨rfl, hS2, hG2, hB2⟩
      rw [show ((n + k) % 18446744073709551616 + 1) % 18446744073709551616 = (n + (k + 1)) % 18446744073709551616 by omega] at hS2
      have hb2 := hB2.below hB hgw hB.size
      have hO2 := hO.but hB2 hglt
      have hbs2 := Nat.le_trans hbs hB2.size
      have hX := (hin (streamD key ((n + k) % 18446744073709551616))).out
      obtain ⟨X, HX⟩ : ∃ X, Hid (among (streamD key ((n + k) % 18446744073709551616)) (p : Int) = X) := ⟨_, rfl⟩
      rw [HX.out] at hX ⊢
      obtain ⟨a3, c3, w3, hr3, hO3, hb3, hbs3⟩ := run_append_num (P := Tryd.prog) .i64 8 Tryd.underlying37 Tryd.info_int (by decide) 37 base w2 w2 a k cap _ X hO2 (by simp [Lit.wf, IntKind.min, IntKind.max, IntKind.signed, IntKind.bits]; omega) (by omega) hbs2 (Below.refl _ _)
      rw [show drawsL key n (p : Int) k ++ [X] = drawsL key n (p : Int) (k + 1) by rw [drawsL_succ, HX.out]] at hO3
      have hS3 := hS2.keep (hb3.block g hglt)
      have hG3 : Glob w3 := rangeAt_keep hG2 (hb3.block 0 (by omega))
      have hb3' := hb2.trans (hb3.mono hwb)
      clear hS hG hB hO hB2 hO2 hS2 hG2 hb2 hb3 HX
      go_wp2_with (at_builtin; refine wpList_append_run (by rfl) (.tmp 41) (.tmp 43) 37 (by rfl) _ _ _ _ (by rfl) (by rfl) hr3 ?_)
      go_roundw
      case rel => exact ⟨k + 1, a3, c3, by omega, by go_num, rfl, hS3, hG3, hb3', hO3, hbs3⟩
      case measure => simp [intOf]; omega
    · obtain rfl : k = N := by omega
      go_wp2_with fail
      refine (seek_any n wr hS hn).mono ?_
      rintro e w2 ⟨rfl, hS2, hB2⟩
      have hb2 := hB2.below hB hgw hB.size
      have hO2 := hO.but hB2 hglt
      have hG2 : Glob w2 := rangeAt_keep hG (hB2.block 0 hG.lt (by omega))
      clear hS hG hB hO hB2 hbs
      go_wp2_with fail
      go_loopw [14] (fun v wr => ∃ (j : Nat), j ≤ k ∧ v = .int .i64 j ∧ Src wr g (.strm key) ((n + j) % 18446744073709551616) ∧ Glob wr ∧ Below w.heap.size w wr ∧ OwnK .i64 3 base wr a k cap (drawsL key n p k)) (fun v _ => k - (intOf v).toNat)
      case atStart => exact ⟨0, Nat.zero_le _, rfl, by rw [Nat.add_zero, Nat.mod_eq_of_lt hn]; exact hS2, hG2, hb2, hO2⟩
      case round =>
        obtain ⟨j, hjk, rfl, hS, hG, hB, hO⟩ := hrel
        clear hS2 hG2 hb2 hO2
        by_cases hlt2 : j < k
        · obtain ⟨ga, rfl, hga1, hga2⟩ := hO.form (by omega)
          have hcell := hO.cell j hlt2
          rw [drawsL_getD _ _ _ _ _ hlt2] at hcell
          obtain ⟨X, HX⟩ : ∃ X, Hid (among (streamD key ((n + j) % 18446744073709551616)) (p : Int) = X) := ⟨_, rfl⟩
          rw [HX.out] at hcell
          go_wp2_with fail
          refine wp_region_ord 1000 [0, 1, 3, 4, 5, 6, 2, 7] (fun w' => w'.cell? ⟨ga, j, none⟩ = some (.int .i64 X)) (fun _ => True) (by kernel_rfl) (by kernel_rfl) (by kernel_rfl) hcell trivial (fun _ _ => ?_)
          replace hS := hS.drew
          replace hG : Glob wr.drew := hG
          replace hB := hB.drew
          replace hO := hO.drew
          generalize wr.drew = W1 at *
          repeat' (refine wpOrd_quiet (v := ?_) rfl rfl (fun _ _ _ h => h) (by rfl) ?_ ?_
                   rotate_left
                   · (intro w' hT' _; go_simp; try rfl)
                   simp only [Act.put, List.setIfInBounds_toArray, List.set_cons_zero, List.set_cons_succ])
          refine wpOrd_step rfl rfl (by rfl) (fun K' hK => ?_)
          go_simp
          refine (next_strm (p : Int) W1 hS hG (by omega) (by omega)).mono ?_
          rintro e w3 ⟨rfl, hS3, hG3, hB3⟩
          rw [show ((n + j) % 18446744073709551616 + 1) % 18446744073709551616 = (n + (j + 1)) % 18446744073709551616 by omega] at hS3
          have hb3 := hB3.below hB hgw hB.size
          have hO3 := hO.but hB3 hglt
          have hcell3 := hO3.cell j hlt2
          rw [drawsL_getD _ _ _ _ _ hlt2, HX.out] at hcell3
          rw [HX.out]
          refine hK.out _ _ hcell3 (fun h => absurd h (by decide)) (fun _ => ?_)
          clear hK K' hS hG hB hO hB3 hcell
          try simp only [Act.put, List.setIfInBounds_toArray, List.set_cons_zero, List.set_cons_succ]
          repeat' (refine wpOrd_quiet (v := ?_) rfl rfl (fun _ _ _ h => h) (by rfl) ?_ ?_
                   rotate_left
                   · (intro w' hT' _; go_simp; try rfl)
                   simp only [Act.put, List.setIfInBounds_toArray, List.set_cons_zero, List.set_cons_succ])
          refine wpOrd_nil ?_
          go_wp2_with fail
          go_roundw
          case rel => exact ⟨j + 1, by omega, by go_num, hS3, hG3, hb3, hO3⟩
          case measure => simp [intOf]; omega
        · obtain rfl : j = k := by omega
          have hu : IntKind.u64.wrap ((n : Int) + (j : Int)) = (((n + j) % 18446744073709551616 : Nat) : Int) := by rw [wrap_u64]; omega
          obtain ⟨M, hM⟩ : ∃ M, (n + j) % 18446744073709551616 = M := ⟨_, rfl⟩
          rw [hM] at hS hu
          clear hM
          go_wp2_with fail
          refine (used_any wr hS).mono ?_
          rintro e w3 ⟨rfl, rfl⟩
          go_wp2_with fail
          refine (next_strm 1 wr hS hG (by omega) (by decide)).mono ?_
          rintro e w3 ⟨rfl, hS3, hG3, hB3⟩
          have hb3 := hB3.below hB hgw hB.size
          rw [show among (streamD key M) 1 = 0 by
            have := among_pow (streamD key M) 0 (by decide)
            simpa [Nat.mod_one] using this]
          go_wp2_with fail
          refine (awake_any w3 hG3).mono ?_
          rintro e w4 ⟨rfl, hb4⟩
          have hb4' := hb3.trans (hb4.mono hb3.size)
          go_wp2_with fail
          go_ret
          exact ⟨rfl, hb4'⟩
#print axioms drawWithin_walk
end Go.Proofs.YtpnkbdceaocbmaaDoor
