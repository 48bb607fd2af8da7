/- What calls of dumbwaiterref1's Leaves, Masked, Taped and Streamed do: for every number, every tape that can be read, every key; nothing that was there is turned. -/
import Derived.Test.YtpnkbdceaocbmaaDoorDSrc
import Derived.Test.YtpnkbdceaocbmaaDoorCRef
import Derived.Test.YtpnkbdceaocbmaaDoorRef1Put
namespace Go.Proofs.YtpnkbdceaocbmaaDoor
open Go.RowKit

set_option maxHeartbeats 400000 in
theorem rleaves_any (n : Int) (w : World) (hn : -9223372036854775808 ≤ n ∧ n ≤ 9223372036854775807) :
    Calls Tryd.prog 14 #[.int .i64 n] w fun e w' => e = .returned (.bool (lvs n)) ∧ w = w' := by
  by_cases h1 : 1 ≤ n
  · by_cases h2 : n ≤ 65536
    · obtain ⟨m, rfl⟩ := Int.eq_ofNat_of_zero_le (show 0 ≤ n by omega)
      have hL : lvs (m : Int) = decide (m &&& (m - 1) = 0) := by simp [lvs, h1, h2]
      rw [hL]
      have hs : IntKind.i64.wrap ((m : Int) - 1) = ((m - 1 : Nat) : Int) := by rw [IntKind.wrap_i64]; omega
      have hA := i64_and_nat m (m - 1) (by omega) (by omega)
      have hE : ((((m &&& (m - 1) : Nat) : Int)) == 0) = decide (m &&& (m - 1) = 0) := by
        rw [Bool.eq_iff_iff]; simp
      clear hL
      generalize (m &&& (m - 1)) = X at *
      go_enter Tryd.func14, Tryd.ntmps14
      go_wp2
      go_ret
      exact ⟨by first | rfl | (simp; omega), rfl⟩
    · have hL : lvs n = false := by simp [lvs, h2]
      rw [hL]
      go_enter Tryd.func14, Tryd.ntmps14
      go_wp2
      go_ret
      exact ⟨rfl, rfl⟩
  · have hL : lvs n = false := by simp [lvs, h1]
    rw [hL]
    go_enter Tryd.func14, Tryd.ntmps14
    go_wp2
    go_ret
    exact ⟨rfl, rfl⟩


set_option maxHeartbeats 400000 in
theorem masked_any (x : BitVec 32) (leaves : Int) (w : World) (hl : -9223372036854775808 ≤ leaves ∧ leaves ≤ 9223372036854775807) :
    Calls Tryd.prog 15 #[.int .u32 (x.toNat : Int), .int .i64 leaves] w fun e w' => e = .returned (.int .i64 (among x leaves)) ∧ w = w' := by
  go_enter Tryd.func15, Tryd.ntmps15
  go_wp2_with fail
  refine (rleaves_any leaves w hl).mono ?_
  rintro e w1 ⟨rfl, rfl⟩
  cases hL : lvs leaves with
  | false =>
    have HA : Hid (among x leaves = 0) := among_no _ _ hL
    go_wp2_with fail
    go_ret
    exact ⟨by rw [HA.out]; rfl, rfl⟩
  | true =>
    obtain ⟨k, hk, hp⟩ := (lvs_iff _).1 hL
    have hc : ((2 ^ k : Nat) : Int) = (2 : Int) ^ k := Int.natCast_pow 2 k
    have HA : Hid (among x leaves = (x.toNat : Int) % 2 ^ k) := by
      show _ = _
      rw [hp, among_pow x k hk, Int.natCast_emod, hc]
    have h0 : 0 < 2 ^ k := Nat.pow_pos (by decide)
    have h1 : 2 ^ k ≤ 2 ^ 16 := Nat.pow_le_pow_right (by decide) hk
    have hM := i64_mask (x.toNat : Int) k (by omega) (leaves - 1) (by rw [hp, hc])
    have hu := u32_lt x
    generalize (x.toNat : Int) % 2 ^ k = Y at *
    have hs : IntKind.i64.wrap (leaves - 1) = leaves - 1 := by rw [IntKind.wrap_i64]; omega
    have hs2 : IntKind.i64.wrap (x.toNat : Int) = (x.toNat : Int) := by rw [IntKind.wrap_i64]; omega
    clear hc hp h0 h1 hL
    go_wp2_with fail
    go_ret
    exact ⟨by rw [HA.out]; rfl, rfl⟩

theorem taped_any {a : Option Addr} {len cap : Nat} {l : List Int} (m : Nat) (w : World) (h : Ns .u32 w a len cap l) (_hm : m < 18446744073709551616) :
    Calls Tryd.prog 16 #[.slice a len cap, .int .u64 (m : Int)] w fun e w' => e = .returned (.int .u32 ((tapeD l m).toNat : Int)) ∧ w = w' := by
  have hz := h.length
  have hlc := h.le_cap
  have hcl := h.cap_le
  have hw : IntKind.u64.wrap (len : Int) = (len : Int) := by rw [wrap_u64]; omega
  by_cases hlt : m < len
  · obtain ⟨b, off, rfl, hc⟩ := h.place.resolve_left (by omega)
    have hx := hc m hlt
    have HD : Hid (l.getD m 0 = ((tapeD l m).toNat : Int)) := tapeD_num h.wf m
    generalize l.getD m 0 = X at *
    clear h hc
    go_enter Tryd.func16, Tryd.ntmps16
    go_wp2
    go_ret
    exact ⟨by rw [← HD.out]; rfl, rfl⟩
  · have HD : Hid (tapeD l m = 0) := tapeD_end l m (by omega)
    clear h
    go_enter Tryd.func16, Tryd.ntmps16
    go_wp2
    go_ret
    exact ⟨by rw [HD.out]; rfl, rfl⟩

set_option maxRecDepth 100000 in
set_option maxHeartbeats 1000000 in
theorem streamed_any (key : List Int) (n : Nat) (w : World) (hk : IsBytes key) (hkl : key.length = 32) (hn : n < 18446744073709551616) :
    Calls Tryd.prog 17 #[.agg (bV key), .int .u64 (n : Int)] w fun e w' => e = .returned (.int .u32 ((streamD key n).toNat : Int)) ∧ Below w.heap.size w w' := by
  have n1 := heap_alloc_new w (Obj.cells (bV key) 22)
  have n2 := heap_alloc_new (w.alloc (Obj.cells (bV key) 22)) (Obj.cells (bV (zL 12)) 47)
  simp only [size_alloc] at n2
  have hb0 := below_alloc (below_alloc (Below.refl w.heap.size w) (Obj.cells (bV key) 22)) (Obj.cells (bV (zL 12)) 47)
  have m1 := block_alloc n1 (Obj.cells (bV (zL 12)) 47)
  clear n1
  go_enter Tryd.func17, Tryd.ntmps17
  go_wp2_with (refine wpList_newA (by rfl) 47 (by rfl) _ zero12 (w.heap.size + 1) (size_alloc _ _) ?_)
  have HD : Hid (streamD key n = word4 (blkL (stW key (nonceL (n / 16)) 0)) (n % 16)) := rfl
  obtain ⟨q, hqN⟩ : ∃ q : Nat, n / 16 = q := ⟨_, rfl⟩
  obtain ⟨m, hmN⟩ : ∃ m : Nat, n % 16 = m := ⟨_, rfl⟩
  have hq : (n : Int) / 16 = (q : Int) := by omega
  have hr : (n : Int) % 16 = (m : Int) := by omega
  have hm : m < 16 := by omega
  have hql : q < 18446744073709551616 := by omega
  have hqw : IntKind.u64.wrap (q : Int) = (q : Int) := by rw [wrap_u64]; omega
  rw [hqN, hmN] at HD
  clear hqN hmN
  have hsl := run_arr_all (P := Tryd.prog) Tryd.underlying47 Tryd.size_u8 (w.heap.size + 1)
  generalize ((w.alloc (Obj.cells (bV key) 22)).alloc (Obj.cells (bV (zL 12)) 47)) = W0 at *
  refine wp_region_ord 1000 [0, 1, 2, 3, 4] (fun _ => True) (fun _ => True) (by kernel_rfl) (by kernel_rfl) (by kernel_rfl) trivial trivial (fun _ _ => ?_)
  replace hb0 := hb0.drew
  replace m1 : OwnB 22 W0.drew w.heap.size key := m1
  replace n2 : OwnB 47 W0.drew (w.heap.size + 1) (zL 12) := n2
  generalize W0.drew = W1 at *
  repeat' (refine wpOrd_quiet (v := ?_) rfl rfl (fun _ _ _ h => h) (by rfl) ?_ ?_
           rotate_left
           · (intro w' _ _; go_simp; try rfl)
           simp only [Act.put, List.setIfInBounds_toArray, List.set_cons_zero, List.set_cons_succ])
  refine wpOrd_step rfl rfl (by rfl) (fun K' hK => ?_)
  go_simp
  refine (rput_ok _ 8 W1 (by omega) (by omega)).mono ?_
  rintro e w2 ⟨a2, c2, rfl, hO2, hb2⟩
  have hb2' := hb0.trans (hb2.mono hb0.size)
  have k2 := m1.below hb2
  have z2 := n2.below hb2
  have hlt1 : w.heap.size + 1 < W1.heap.size := n2.lt
  clear hb2 m1 n2 hb0
  obtain ⟨w3, hr3, hP3, ho3⟩ := run_copy_bytes (P := Tryd.prog) Tryd.underlying48 Tryd.size_u8 3 w2 (some ⟨w.heap.size + 1, 0, none⟩) a2 12 12 8 c2 (w.heap.size + 1) 0 8 (zL 12) _ z2 (by omega) (.inr rfl) hO2.bs (by rw [zL_length]; omega)
  have k3 := ho3.own k2 (by omega)
  have hb3 := ho3.below hb2' (by omega)
  refine hK.out _ _ trivial (fun h => absurd h (by decide)) (fun _ => ?_)
  clear hK K' k2 z2 hO2 hb2' ho3
  try simp only [Act.put, List.setIfInBounds_toArray, List.set_cons_zero, List.set_cons_succ]
  refine wpOrd_step rfl rfl (by rfl) (fun K' hK => ?_)
  go_simp
  refine hK.out _ _ trivial (fun h => absurd h (by decide)) (fun _ => ?_)
  clear hK K' hr3
  try simp only [Act.put, List.setIfInBounds_toArray, List.set_cons_zero, List.set_cons_succ]
  refine wpOrd_nil ?_
  have hP : OwnB 47 w3 (w.heap.size + 1) (nonceL q) := by
    exact hP3
  clear hP3
  go_wp2_with (first
    | (refine wpList_loadA arrT32 (by rfl) _ (by rfl) w.heap.size (by rfl) (bV key) k3 (by rw [bV_size, hkl]) ?_)
    | (refine wpList_loadA arrT12 (by rfl) _ (by rfl) (w.heap.size + 1) (by rfl) (bV (nonceL q)) hP (by rw [bV_size, nonceL_length]) ?_))
  refine (rblock_any key (nonceL q) 0 w3 hk hkl (nonceL_bytes _) (nonceL_length _)).mono ?_
  rintro e w4 ⟨rfl, hb4⟩
  have hb4' := hb3.trans (hb4.mono hb3.size)
  clear hb4 hb3 k3 hP
  have hbl := blkL_length (stW key (nonceL q) 0)
  have hby := blkL_bytes (stW key (nonceL q) 0)
  generalize blkL (stW key (nonceL q) 0) = blk at *
  have n4 := heap_alloc_new w4 (Obj.cells (bV (zL 64)) 50)
  have hb5 := Below.setRow (below_alloc hb4' (Obj.cells (bV (zL 64)) 50)) (show w.heap.size ≤ w4.heap.size from hb4'.size) (bV blk)
  have hB5 : OwnB 50 ((w4.alloc (Obj.cells (bV (zL 64)) 50)).setRow w4.heap.size (bV blk)) w4.heap.size blk := setRow_heap _ _ _ _ _ _ n4
  have hcut := run_arr_mid (P := Tryd.prog) Tryd.underlying50 Tryd.size_u8 w4.heap.size .u64 .u64 (4 * (m : Int)) (4 * (m : Int) + 4) (4 * m) (4 * m + 4) (by omega) (by omega) (by omega) (by omega) (by omega)
  rw [show 4 * m + 4 - 4 * m = 4 by omega] at hcut
  have hw1 : IntKind.u64.wrap (4 * (m : Int)) = 4 * (m : Int) := by rw [wrap_u64]; omega
  have hw2 : IntKind.u64.wrap (4 * (m : Int) + 4) = 4 * (m : Int) + 4 := by rw [wrap_u64]; omega
  go_wp2_with (first
    | (refine wpList_newA (by rfl) 50 (by rfl) _ zero64 w4.heap.size rfl ?_)
    | (refine wpList_putA arrT64 (by rfl) _ _ (by rfl) w4.heap.size (bV blk) (by rfl) (by rfl) _ n4 (by rw [bV_size, hbl]) (bV_size _) (bV_one _) ?_))
  have HG := rget_any _ (hB5.bsAt hby (4 * m) 4 (64 - 4 * m) (by omega) (by omega) (by omega))
  rw [take48, word4_num blk hby m] at HG
  have hu := u32_lt (word4 blk m)
  refine HG.mono ?_
  rintro e w6 ⟨rfl, rfl⟩
  generalize ((w4.alloc (Obj.cells (bV (zL 64)) 50)).setRow w4.heap.size (bV blk)) = W5 at *
  clear HG hcut
  go_wp2_with fail
  go_ret
  exact ⟨by rw [HD.out]; rfl, hb5⟩
#print axioms masked_any
#print axioms taped_any
#print axioms streamed_any
end Go.Proofs.YtpnkbdceaocbmaaDoor
