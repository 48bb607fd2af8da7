/- The law DrawTells answers true for every tape, key, number and rows that can be read, wherever quar.rounds reads as its text says; nothing that was there is turned. -/
import Derived.Test.YtpnkbdceaocbmaaDoorDAwake
import Derived.Test.YtpnkbdceaocbmaaDoorDRef
namespace Go.Proofs.YtpnkbdceaocbmaaDoor
open Go.RowKit

/-- Both Sources, and the key, in memory. -/
structure TS (w W : World) (g1 g2 bt : Nat) (key l : List Int) (A B : Nat) : Prop where
  s1 : Src W g1 (.tape bt l) A
  s2 : Src W g2 (.strm key) B
  kk : OwnB 22 W w.heap.size key
  gl : Glob W
  bel : Below w.heap.size w W
theorem TS.drew {w W : World} {g1 g2 bt A B : Nat} {key l : List Int} (h : TS w W g1 g2 bt key l A B) : TS w W.drew g1 g2 bt key l A B := ⟨h.s1, h.s2, h.kk, h.gl, h.bel.drew⟩
theorem TS.later {w W W' : World} {g1 g2 bt A B : Nat} {key l : List Int} (h : TS w W g1 g2 bt key l A B) (hb : Below W.heap.size W W') : TS w W' g1 g2 bt key l A B :=
  ⟨h.s1.below hb, h.s2.below hb, h.kk.below hb, h.gl.below hb h.gl.lt, h.bel.trans (hb.mono h.bel.size)⟩
theorem TS.one {w W W' : World} {g1 g2 bt A B A' : Nat} {key l : List Int} (h : TS w W g1 g2 bt key l A B) (hb : But g1 W W') (hs : Src W' g1 (.tape bt l) A') (hg : Glob W') (h1 : w.heap.size < g1) (h2 : g1 < g2) : TS w W' g1 g2 bt key l A' B :=
  ⟨hs, h.s2.but hb (by omega) trivial, hb.heap h.kk (by omega), hg, hb.below h.bel (by omega) h.bel.size⟩
theorem TS.two {w W W' : World} {g1 g2 bt A B B' : Nat} {key l : List Int} (h : TS w W g1 g2 bt key l A B) (hb : But g2 W W') (hs : Src W' g2 (.strm key) B') (hg : Glob W') (h1 : w.heap.size < g1) (h2 : g1 < g2) (h3 : bt < g2) : TS w W' g1 g2 bt key l A B' :=
  ⟨h.s1.but hb (by omega) (show bt ≠ g2 by omega), hs, hb.heap h.kk (by omega), hg, hb.below h.bel (by omega) h.bel.size⟩

theorem u64_mask (n k : Nat) (hn : n < 18446744073709551616) (hk : k < 64) (m : Int) (hm : m = 2 ^ k - 1) : bits .and .u64 (n : Int) m = ((n % 2 ^ k : Nat) : Int) := by
  have hp : (2 : Nat) ^ k < 2 ^ 64 := Nat.pow_lt_pow_right (by decide) hk
  have hp0 : 0 < (2 : Nat) ^ k := Nat.pow_pos (by decide)
  have hc : ((2 ^ k : Nat) : Int) = (2 : Int) ^ k := Int.natCast_pow 2 k
  have hm' : m = ((2 ^ k - 1 : Nat) : Int) := by omega
  rw [hm', u64_and_nat _ _ hn (by omega), Nat.and_two_pow_sub_one_eq_mod]

set_option maxRecDepth 100000 in
set_option maxHeartbeats 8000000 in
theorem drawTells_walk (key : List Int) (fr : Int) (a : Option Addr) (len cap : Nat) (l : List Int) (a3 : Option Addr) (len3 cap3 : Nat) (l3 : List Int) (a4 : Option Addr) (len4 cap4 : Nat) (l4 : List Int) (w : World)
    (hk : IsBytes key) (hkl : key.length = 32) (hf : 0 ≤ fr ∧ fr < 18446744073709551616) (hl : Ns .u32 w a len cap l) (hl3 : Ns .i64 w a3 len3 cap3 l3) (hl4 : Ns .u64 w a4 len4 cap4 l4) (hg : Glob w) :
    Calls Tryd.prog 6 #[.slice a len cap, .agg (bV key), .int .u64 fr, .slice a3 len3 cap3, .slice a4 len4 cap4] w fun e w' => e = .returned (.bool true) ∧ Below w.heap.size w w' := by
  have h0 := hg.lt
  obtain ⟨n, rfl⟩ := Int.eq_ofNat_of_zero_le hf.1
  have hn : n < 18446744073709551616 := by omega
  clear hf
  have hll := hl.length
  have hlen := Nat.le_trans hl.le_cap hl.cap_le
  have n1 := heap_alloc_new w (Obj.cells (bV key) 22)
  have hb0 := below_alloc (Below.refl w.heap.size w) (Obj.cells (bV key) 22)
  have hg0 := hg.below hb0 h0
  have hlW := hl.below hb0
  by_cases hbig : 100 < len
  · go_enter Tryd.func6, Tryd.ntmps6
    go_wp2_with fail
    refine (awake_any _ hg0).mono ?_
    rintro e w1 ⟨rfl, hb1⟩
    have hb1' := hb0.trans (hb1.mono hb0.size)
    go_wp2_with fail
    go_ret
    exact ⟨rfl, hb1'⟩
  go_enter Tryd.func6, Tryd.ntmps6
  go_wp2_with fail
  generalize (w.alloc (Obj.cells (bV key) 22)) = W0 at *
  replace n1 : OwnB 22 W0 w.heap.size key := n1
  refine wp_region_ord 1000 [0, 2, 3, 1, 4, 5, 6] (fun w' => OwnB 22 w' w.heap.size key) (fun _ => True) (by kernel_rfl) (by kernel_rfl) (by kernel_rfl) n1 trivial (fun _ _ => ?_)
  replace n1 : OwnB 22 W0.drew w.heap.size key := n1
  replace hb0 := hb0.drew
  replace hg0 : Glob W0.drew := hg0
  replace hlW := hlW.drew
  generalize W0.drew = W1 at *
  refine wpOrd_quiet (v := .slice a len cap) rfl rfl (fun _ _ _ h => h) (by rfl) (by intro w' _ _; go_simp; try rfl) ?_
  simp only [Act.put, List.setIfInBounds_toArray, List.set_cons_zero, List.set_cons_succ]
  refine wpOrd_loadA arrT32 rfl rfl _ rfl w.heap.size (bV key) (by rfl) (fun _ h => h) (by rw [bV_size, hkl]) (fun _ _ _ h => h) (by rfl) ?_
  simp only [Act.put, List.setIfInBounds_toArray, List.set_cons_zero, List.set_cons_succ]
  refine wpOrd_quiet (v := .int .u64 (n : Int)) rfl rfl (fun _ _ _ h => h) (by rfl) (by intro w' _ _; go_simp; try rfl) ?_
  simp only [Act.put, List.setIfInBounds_toArray, List.set_cons_zero, List.set_cons_succ]
  refine wpOrd_step rfl rfl (by rfl) (fun K' hK => ?_)
  go_simp
  refine (tape_any W1 hlW (by omega)).mono ?_
  rintro e w2 ⟨g1, bt, rfl, hg1, hbt1, hbt2, hS1, hb1⟩
  have hb2 := hb0.trans (hb1.mono hb0.size)
  have hk2 := n1.below hb1
  have hG2 := hg0.below hb1 hg0.lt
  have hgw1 : w.heap.size < g1 := by have := n1.lt; omega
  refine hK.out _ _ hk2 (fun h => absurd h (by decide)) (fun _ => ?_)
  clear hK K' hb1 hb0 hg0 hg1 hlW
  try simp only [Act.put, List.setIfInBounds_toArray, List.set_cons_zero, List.set_cons_succ]
  refine wpOrd_step rfl rfl (by rfl) (fun K' hK => ?_)
  go_simp
  refine (stream_any key n w2 hk hkl hn).mono ?_
  rintro e w3 ⟨g2, rfl, hg2, hS2, hb3⟩
  have hb3' := hb2.trans (hb3.mono hb2.size)
  have hk3 := hk2.below hb3
  have hTS0 : TS w w3 g1 g2 bt key l 0 n := ⟨hS1.below hb3, hS2, hk3, hG2.below hb3 hG2.lt, hb3'⟩
  have hlt12 : g1 < g2 := by have := hS1.lt; omega
  have hltb : bt < g2 := by omega
  refine hK.out _ _ hk3 (fun h => absurd h (by decide)) (fun _ => ?_)
  clear hK K' hb3 hb3' hb2 hk2 hG2 hS1 hS2 hk3 hg2 n1 hbt1 hbt2
  try simp only [Act.put, List.setIfInBounds_toArray, List.set_cons_zero, List.set_cons_succ]
  repeat' (refine wpOrd_quiet (v := ?_) rfl rfl (fun _ _ _ h => h) (by rfl) ?_ ?_
           rotate_left
           · (intro w' _ _; go_simp; try rfl)
           simp only [Act.put, List.setIfInBounds_toArray, List.set_cons_zero, List.set_cons_succ])
  refine wpOrd_nil ?_
  go_wp2_with fail
  go_loopw [13, 14, 15] (fun x y v wr => ∃ k A B : Nat, k ≤ len3 ∧ k ≤ 40 ∧ v = .int .i64 k ∧ x = .int .u64 A ∧ y = .int .u64 B ∧ TS w wr g1 g2 bt key l A B) (fun _ _ v _ => 40 - (intOf v).toNat)
  case atStart => exact ⟨0, 0, n, Nat.zero_le _, by decide, rfl, rfl, rfl, hTS0⟩
  case round =>
    obtain ⟨k, A, B, hk3, hk40, rfl, rfl, rfl, hTS⟩ := hrel
    clear hTS0
    have hgo : k < len3 ∧ k < 40 ∨ k = len3 ∨ k = 40 := by omega
    rcases hgo with ⟨hlt3, hlt40⟩ | hend
    · obtain ⟨b3, off3, rfl, hc3⟩ := hl3.place.resolve_left (by have := hl3.le_cap; omega)
      have hV := int_of_wf (hl3.getD k hlt3)
      have hcV : wr.cell? ⟨b3, off3 + k, none⟩ = some (.int .i64 (l3.getD k 0)) := by
        rw [hTS.bel.cell (World.block_lt_of_cell? w _ (hc3 k hlt3))]
        exact hc3 k hlt3
      have hlen3 : len3 ≤ 9223372036854775807 := Nat.le_trans hl3.le_cap hl3.cap_le
      have hlen4 : len4 ≤ 9223372036854775807 := Nat.le_trans hl4.le_cap hl4.cap_le
      clear hc3
      generalize l3.getD k 0 = V at *
      have e1 : bits .and .i64 V 1 = V % 2 := i64_mask V 1 (by decide) 1 (by decide)
      have e2 := i64_and255 (V / 2)
      obtain ⟨q, hq⟩ : ∃ q : Nat, V / 2 % 256 % 18 = (q : Int) := ⟨(V / 2 % 256 % 18).toNat, by omega⟩
      have hq18 : q < 18 := by omega
      have hpw := wrap_pow q (by omega)
      have hp18 : (2 : Nat) ^ q ≤ 2 ^ 17 := Nat.pow_le_pow_right (by decide) (by omega)
      generalize (2 : Nat) ^ q = p at *
      have hfork : ∃ Nv : Int, (-9223372036854775808 ≤ Nv ∧ Nv ≤ 9223372036854775807) ∧ (V % 2 = 0 ∧ Nv = (p : Int) ∨ ¬ V % 2 = 0 ∧ Nv = V) := by
        by_cases hev : V % 2 = 0
        · exact ⟨p, by omega, .inl ⟨hev, rfl⟩⟩
        · exact ⟨V, hV, .inr ⟨hev, rfl⟩⟩
      obtain ⟨Nv, hNv, hfork⟩ := hfork
      rcases hfork with ⟨hev, hNe⟩ | ⟨hev, hNe⟩
      all_goals
        first
        | (rw [← hNe] at hpw
           go_wp2_with fail
           rw [hpw]
           clear hNe hpw hcV e1 e2 hq hp18 hV hev)
        | (subst hNe
           go_wp2_with fail
           clear hpw hcV e1 e2 hq hp18 hV hev)
      all_goals
        refine wp_region_ord 1000 [0, 2, 1, 3, 4, 5, 7, 6, 8, 9, 10, 11, 13, 12, 14, 15, 16, 17, 18, 19, 21, 22, 24, 20, 23, 25, 26, 27, 28, 29, 30, 32, 33, 35, 31, 34, 36, 37, 38] (fun w' => OwnB 22 w' w.heap.size key) (fun _ => True) (by kernel_rfl) (by kernel_rfl) (by kernel_rfl) hTS.kk trivial (fun _ _ => ?_)
        replace hTS := hTS.drew
        generalize wr.drew = W1 at *
        have hA := hTS.s1.1
        have hB := hTS.s2.1
        have hlW := hl.below hTS.bel
        iterate 2
          (refine wpOrd_quiet (v := ?_) rfl rfl (fun _ _ _ h => h) (by rfl) ?_ ?_
           rotate_left
           · (intro w' hT' _; go_simp; try rfl)
           simp only [Act.put, List.setIfInBounds_toArray, List.set_cons_zero, List.set_cons_succ])
        refine wpOrd_step rfl rfl (by rfl) (fun K' hK => ?_)
        go_simp
        refine (used_any W1 hTS.s1).mono ?_
        rintro e w4 ⟨rfl, rfl⟩
        refine hK.out _ _ hTS.kk (fun h => absurd h (by decide)) (fun _ => ?_)
        clear hK K' 
        try simp only [Act.put, List.setIfInBounds_toArray, List.set_cons_zero, List.set_cons_succ]
        iterate 4
          (refine wpOrd_quiet (v := ?_) rfl rfl (fun _ _ _ h => h) (by rfl) ?_ ?_
           rotate_left
           · (intro w' hT' _; go_simp; try rfl)
           simp only [Act.put, List.setIfInBounds_toArray, List.set_cons_zero, List.set_cons_succ])
        refine wpOrd_step rfl rfl (by rfl) (fun K' hK => ?_)
        go_simp
        refine (used_any W1 hTS.s2).mono ?_
        rintro e w4 ⟨rfl, rfl⟩
        refine hK.out _ _ hTS.kk (fun h => absurd h (by decide)) (fun _ => ?_)
        clear hK K' 
        try simp only [Act.put, List.setIfInBounds_toArray, List.set_cons_zero, List.set_cons_succ]
        iterate 5
          (refine wpOrd_quiet (v := ?_) rfl rfl (fun _ _ _ h => h) (by rfl) ?_ ?_
           rotate_left
           · (intro w' hT' _; go_simp; try rfl)
           simp only [Act.put, List.setIfInBounds_toArray, List.set_cons_zero, List.set_cons_succ])
        refine wpOrd_step rfl rfl (by rfl) (fun K' hK => ?_)
        go_simp
        refine (leaves_any Nv W1 hNv).mono ?_
        rintro e w4 ⟨rfl, rfl⟩
        refine hK.out _ _ hTS.kk (fun h => absurd h (by decide)) (fun _ => ?_)
        clear hK K' 
        try simp only [Act.put, List.setIfInBounds_toArray, List.set_cons_zero, List.set_cons_succ]
        refine wpOrd_step rfl rfl (by rfl) (fun K' hK => ?_)
        go_simp
        refine (rleaves_any Nv W1 hNv).mono ?_
        rintro e w4 ⟨rfl, rfl⟩
        refine hK.out _ _ hTS.kk (fun h => absurd h (by decide)) (fun _ => ?_)
        clear hK K' 
        try simp only [Act.put, List.setIfInBounds_toArray, List.set_cons_zero, List.set_cons_succ]
        iterate 8
          (refine wpOrd_quiet (v := ?_) rfl rfl (fun _ _ _ h => h) (by rfl) ?_ ?_
           rotate_left
           · (intro w' hT' _; go_simp; try rfl)
           simp only [Act.put, List.setIfInBounds_toArray, List.set_cons_zero, List.set_cons_succ])
        refine wpOrd_step rfl rfl (by rfl) (fun K' hK => ?_)
        go_simp
        refine (next_tape Nv W1 hTS.s1 hTS.gl (by omega) hNv).mono ?_
        rintro e w4 ⟨rfl, hS4, hG4, hB4⟩
        have hT4 := hTS.one hB4 hS4 hG4 hgw1 hlt12
        have hlW4 := hl.below hT4.bel
        refine hK.out _ _ hT4.kk (fun h => absurd h (by decide)) (fun _ => ?_)
        clear hK K' hTS hS4 hG4 hB4 hlW
        try simp only [Act.put, List.setIfInBounds_toArray, List.set_cons_zero, List.set_cons_succ]
        refine wpOrd_step rfl rfl (by rfl) (fun K' hK => ?_)
        go_simp
        refine (taped_any A w4 hlW4 hA).mono ?_
        rintro e w5 ⟨rfl, rfl⟩
        refine hK.out _ _ hT4.kk (fun h => absurd h (by decide)) (fun _ => ?_)
        clear hK K' 
        try simp only [Act.put, List.setIfInBounds_toArray, List.set_cons_zero, List.set_cons_succ]
        refine wpOrd_step rfl rfl (by rfl) (fun K' hK => ?_)
        go_simp
        refine (masked_any (tapeD l A) Nv w4 hNv).mono ?_
        rintro e w5 ⟨rfl, rfl⟩
        refine hK.out _ _ hT4.kk (fun h => absurd h (by decide)) (fun _ => ?_)
        clear hK K' 
        try simp only [Act.put, List.setIfInBounds_toArray, List.set_cons_zero, List.set_cons_succ]
        iterate 5
          (refine wpOrd_quiet (v := ?_) rfl rfl (fun _ _ _ h => h) (by rfl) ?_ ?_
           rotate_left
           · (intro w' hT' _; go_simp; try rfl)
           simp only [Act.put, List.setIfInBounds_toArray, List.set_cons_zero, List.set_cons_succ])
        refine wpOrd_loadA arrT32 rfl rfl _ rfl w.heap.size (bV key) (by rfl) (fun _ h => h) (by rw [bV_size, hkl]) (fun _ _ _ h => h) (by rfl) ?_
        simp only [Act.put, List.setIfInBounds_toArray, List.set_cons_zero, List.set_cons_succ]
        iterate 2
          (refine wpOrd_quiet (v := ?_) rfl rfl (fun _ _ _ h => h) (by rfl) ?_ ?_
           rotate_left
           · (intro w' hT' _; go_simp; try rfl)
           simp only [Act.put, List.setIfInBounds_toArray, List.set_cons_zero, List.set_cons_succ])
        refine wpOrd_step rfl rfl (by rfl) (fun K' hK => ?_)
        go_simp
        refine (next_strm Nv w4 hT4.s2 hT4.gl (by omega) hNv).mono ?_
        rintro e w5 ⟨rfl, hS5, hG5, hB5⟩
        have hT5 := hT4.two hB5 hS5 hG5 hgw1 hlt12 hltb
        refine hK.out _ _ hT5.kk (fun h => absurd h (by decide)) (fun _ => ?_)
        clear hK K' hT4 hS5 hG5 hB5 hlW4
        try simp only [Act.put, List.setIfInBounds_toArray, List.set_cons_zero, List.set_cons_succ]
        refine wpOrd_step rfl rfl (by rfl) (fun K' hK => ?_)
        go_simp
        refine (streamed_any key B w5 hk hkl hB).mono ?_
        rintro e w6 ⟨rfl, hb6⟩
        have hT6 := hT5.later hb6
        refine hK.out _ _ hT6.kk (fun h => absurd h (by decide)) (fun _ => ?_)
        clear hK K' hT5 hb6
        try simp only [Act.put, List.setIfInBounds_toArray, List.set_cons_zero, List.set_cons_succ]
        refine wpOrd_step rfl rfl (by rfl) (fun K' hK => ?_)
        go_simp
        refine (masked_any (streamD key B) Nv w6 hNv).mono ?_
        rintro e w7 ⟨rfl, rfl⟩
        refine hK.out _ _ hT6.kk (fun h => absurd h (by decide)) (fun _ => ?_)
        clear hK K' 
        try simp only [Act.put, List.setIfInBounds_toArray, List.set_cons_zero, List.set_cons_succ]
        iterate 2
          (refine wpOrd_quiet (v := ?_) rfl rfl (fun _ _ _ h => h) (by rfl) ?_ ?_
           rotate_left
           · (intro w' hT' _; go_simp; try rfl)
           simp only [Act.put, List.setIfInBounds_toArray, List.set_cons_zero, List.set_cons_succ])
        refine wpOrd_nil ?_
        have hwA : IntKind.u64.wrap ((A : Int) + 1) = (((A + 1) % 18446744073709551616 : Nat) : Int) := by rw [wrap_u64]; omega
        have hwB : IntKind.u64.wrap ((B : Int) + 1) = (((B + 1) % 18446744073709551616 : Nat) : Int) := by rw [wrap_u64]; omega
        have hA1 : (A + 1) % 18446744073709551616 < 18446744073709551616 := Nat.mod_lt _ (by decide)
        have hB1 : (B + 1) % 18446744073709551616 < 18446744073709551616 := Nat.mod_lt _ (by decide)
        generalize (A + 1) % 18446744073709551616 = A' at *
        generalize (B + 1) % 18446744073709551616 = B' at *
        clear hlen
        by_cases hlt4 : k < len4
        · obtain ⟨b4, off4, rfl, hc4⟩ := hl4.place.resolve_left (by have := hl4.le_cap; omega)
          have hwf4 := word_of_wf (hl4.getD k hlt4)
          have hcS : w6.cell? ⟨b4, off4 + k, none⟩ = some (.int .u64 (l4.getD k 0)) := by
            rw [hT6.bel.cell (World.block_lt_of_cell? w _ (hc4 k hlt4))]
            exact hc4 k hlt4
          clear hc4
          obtain ⟨S, hS⟩ := Int.eq_ofNat_of_zero_le hwf4.1
          rw [hS] at hcS hwf4
          clear hS
          have hS64 : S < 18446744073709551616 := by omega
          have f1 := u64_mask S 2 hS64 (by decide) 3 (by decide)
          by_cases hS1 : S % 2 ^ 2 = 1
          · rw [hS1] at f1
            obtain ⟨Q, hQ⟩ : ∃ Q : Nat, S / 4 % 256 = Q := ⟨_, rfl⟩
            have f2 : bits .and .u64 ((S : Int) / 4) 255 = (Q : Int) := by
              have := u64_mask (S / 4) 8 (by omega) (by decide) 255 (by decide)
              rw [show ((S / 4 : Nat) : Int) = (S : Int) / 4 by omega] at this
              rw [this, ← hQ]
            have hQ64 : Q < 18446744073709551616 := by omega
            clear hQ hS1
            go_wp2_with fail
            refine wp_region_ord 1000 [0, 1, 2, 3, 4, 5, 6, 7, 8, 9, 10, 11] (fun w' => w'.cell? ⟨b4, off4 + k, none⟩ = some (.int .u64 (S : Int))) (fun _ => True) (by kernel_rfl) (by kernel_rfl) (by kernel_rfl) hcS trivial (fun _ _ => ?_)
            replace hT6 := hT6.drew
            clear hcS
            generalize w6.drew = w8 at *
            iterate 12
              (refine wpOrd_quiet (v := ?_) rfl rfl (fun _ _ _ h => h) (by rfl) ?_ ?_
               rotate_left
               · (intro w' hT' _; go_simp; try rfl)
               simp only [Act.put, List.setIfInBounds_toArray, List.set_cons_zero, List.set_cons_succ])
            refine wpOrd_nil ?_
            go_wp2_with fail
            refine (seek_any Q w8 hT6.s1 hQ64).mono ?_
            rintro e w9 ⟨rfl, hS9, hB9⟩
            have hT9 := hT6.one hB9 hS9 (rangeAt_keep hT6.gl (hB9.block 0 hT6.gl.lt (by omega))) hgw1 hlt12
            clear hT6 hS9 hB9
            go_wp2_with fail
            refine (seek_any S w9 hT9.s2 hS64).mono ?_
            rintro e w10 ⟨rfl, hS10, hB10⟩
            have hT10 := hT9.two hB10 hS10 (rangeAt_keep hT9.gl (hB10.block 0 hT9.gl.lt (by omega))) hgw1 hlt12 hltb
            clear hT9 hS10 hB10
            go_wp2_with fail
            go_roundw
            case rel => exact ⟨k + 1, Q, S, by omega, by omega, by go_num, rfl, rfl, hT10⟩
            case measure => simp [intOf]; omega
          · go_wp2_with fail
            go_roundw
            case rel => exact ⟨k + 1, A', B', by omega, by omega, by go_num, rfl, rfl, hT6⟩
            case measure => simp [intOf]; omega
        · go_wp2_with fail
          go_roundw
          case rel => exact ⟨k + 1, A', B', by omega, by omega, by go_num, rfl, rfl, hT6⟩
          case measure => simp [intOf]; omega
    · have hlen3 := Nat.le_trans hl3.le_cap hl3.cap_le
      have hb := hTS.bel
      have hG := hTS.gl
      rcases hend with rfl | rfl
      all_goals go_wp2_with fail
      all_goals
        refine (awake_any wr hG).mono ?_
        rintro e w4 ⟨rfl, hb4⟩
        have hb4' := hb.trans (hb4.mono hb.size)
        go_wp2_with fail
        go_ret
        exact ⟨rfl, hb4'⟩
#print axioms drawTells_walk
end Go.Proofs.YtpnkbdceaocbmaaDoor
