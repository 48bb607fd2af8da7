/- The law SealRooms answers true for every key and numbers, wherever quar.rounds reads as its text says; nothing that was there is turned. -/
import Derived.Test.YthhaeiafgloacaaDoorSAwake
namespace Go.Proofs.YthhaeiafgloacaaDoor
open Go.RowKit

theorem seal_either (key : List Int) (boot seq size : Int) {a : Option Addr} {len cap : Nat} {zs : List Int} (w : World) (hk : IsBytes key) (hkl : key.length = 32) (hb : 0 ≤ boot ∧ boot < 4294967296) (hs : 0 ≤ seq ∧ seq < 18446744073709551616)
    (hbs : Bs w a len cap zs) (hsz : -1000 ≤ size ∧ size ≤ 1000) (hl : len ≤ 1000) (hg : Glob w) :
    Calls Tryd.prog 8 #[.agg (bV key), .int .u32 boot, .int .u64 seq, .slice a len cap, .int .i64 size] w fun e w' => Below w.heap.size w w' ∧
      ((∃ p L c, e = .returned (.tuple #[.slice p L c, .bool true]) ∧ (L : Int) = size ∧ 22 ≤ size ∧ (len : Int) ≤ size - 22) ∨
       (e = .returned (.tuple #[.slice none 0 0, .bool false]) ∧ size < 22) ∨
       (e = .returned (.tuple #[.slice none 0 0, .bool false]) ∧ 22 ≤ size ∧ size - 22 < (len : Int))) := by
  by_cases h1 : size < 22
  · refine (seal_no (len := len) key boot seq size w (by omega) (by omega) (by omega)).mono ?_
    rintro e w' ⟨rfl, hb'⟩
    exact ⟨hb', .inr (.inl ⟨rfl, h1⟩)⟩
  by_cases h2 : size - 22 < (len : Int)
  · refine (seal_no (len := len) key boot seq size w (by omega) (by omega) (by omega)).mono ?_
    rintro e w' ⟨rfl, hb'⟩
    exact ⟨hb', .inr (.inr ⟨rfl, by omega, h2⟩)⟩
  refine (seal_ok key boot seq size (size.toNat - 22) w hk hkl hb hs hbs (by omega) (by omega) (by omega) hg).mono ?_
  rintro e w' ⟨g, c, rfl, hO, hb'⟩
  exact ⟨hb', .inl ⟨_, _, _, rfl, by omega, by omega, by omega⟩⟩

set_option maxRecDepth 100000 in
set_option maxHeartbeats 1000000 in
theorem sealRooms_walk (key : List Int) (size more : Int) (w : World) (hk : IsBytes key) (hkl : key.length = 32) (hg : Glob w) :
    Calls Tryd.prog 4 #[.agg (bV key), .int .i64 size, .int .i64 more] w fun e w' => e = .returned (.bool true) ∧ Below w.heap.size w w' := by
  obtain ⟨x, hx0⟩ : ∃ x : Int, size % 2 ^ 8 = x := ⟨_, rfl⟩
  obtain ⟨y, hy0⟩ : ∃ y : Int, more % 2 ^ 3 = y := ⟨_, rfl⟩
  have hx1 : 0 ≤ x ∧ x < 256 := by omega
  have hy1 : 0 ≤ y ∧ y < 8 := by omega
  have hx := i64_mask size 8 (by decide) 255 (by decide)
  have hy := i64_mask more 3 (by decide) 7 (by decide)
  rw [hx0] at hx
  rw [hy0] at hy
  have hw1 : IntKind.i64.wrap (x - 10) = x - 10 := by rw [IntKind.wrap_i64]; omega
  have hr : IntKind.i64.wrap (x - 10 - 22) = x - 32 := by rw [IntKind.wrap_i64]; omega
  have hS := KK.start w key hg
  clear hx0 hy0
  go_enter Tryd.func4, Tryd.ntmps4
  go_wp2_with fail
  generalize (w.alloc (Obj.cells (bV key) 22)) = W0 at *
  refine (room_any _ (x - 32) W0 hr).mono ?_
  rintro e W0' ⟨rfl, rfl⟩
  have hw2 : IntKind.i64.wrap (x - 32 + y) = x - 32 + y := by rw [IntKind.wrap_i64]; omega
  have hw3 : IntKind.i64.wrap (x - 32 + y - 4) = x - 32 + y - 4 := by rw [IntKind.wrap_i64]; omega
  go_wp2_with fail
  obtain ⟨N, hN⟩ : ∃ N : Nat, max (x - 32 + y - 4) 0 = (N : Int) := ⟨(max (x - 32 + y - 4) 0).toNat, by omega⟩
  have hN1 : N ≤ 300 := by omega
  clear hw2 hw3
  try simp only [hN]
  have hmk := run_make_row' (P := Tryd.prog) 25 5 (.int .u8 0) 1 Tryd.underlying25 Tryd.info_u8 rfl .i64 .i64 N (by omega) (by omega)
  refine wp_region_rel Kept [0, 1, 3, 2, 4, 5, 6, 7, 8, 9] (by kernel_rfl) (by kernel_rfl) (by kernel_rfl) Kept.refl Kept.trans ?_
  replace hS := hS.drew
  generalize W0.drew = W1 at *
  refine wpRel_loadA arrT32 rfl rfl _ rfl w.heap.size (bV key) (by rfl) (fun w' hR => hS.kk.below hR) (by rw [bV_size, hkl]) (fun _ _ _ h => h) (by rfl) ?_
  try simp only [Act.put, List.setIfInBounds_toArray, List.set_cons_zero, List.set_cons_succ]
  repeat' (first
    | (refine wpRel_quiet (v := ?_) rfl rfl (fun _ _ _ h => h) (by rfl) ?_ ?_
       rotate_left
       · (intro w' hR; go_simp; try rfl)
       simp only [Act.put, List.setIfInBounds_toArray, List.set_cons_zero, List.set_cons_succ]))
  refine wpRel_step rfl rfl (by rfl) (fun K' hK => ?_)
  go_simp
  have hb6 := below_alloc (Below.refl W1.heap.size W1) (Obj.cells (madeCells #[Value.int IntKind.u8 0] N) 5)
  have hZ2 := (made_zL (w := W1) (n := N) (E := 5)).bs (zL_bytes _) N (zL_length _) (by omega)
  refine hK.out _ _ hb6 ?_
  clear hK K' hmk
  try simp only [Act.put, List.setIfInBounds_toArray, List.set_cons_zero, List.set_cons_succ]
  replace hS := hS.later hb6
  clear hb6
  generalize (W1.alloc (Obj.cells (madeCells #[Value.int IntKind.u8 0] N) 5)) = W2 at *
  generalize W1.heap.size = gz at *
  refine wpRel_step rfl rfl (by rfl) (fun K' hK => ?_)
  go_simp
  refine (seal_either key 1 2 (x - 10) W2 hk hkl (by omega) (by omega) hZ2 (by omega) (by omega) hS.gl).mono ?_
  rintro e w3 ⟨hb3, hc⟩
  have hS3 := hS.later hb3
  clear hS hZ2
  obtain ⟨M, hM⟩ : ∃ M : Nat, max (x - 10) 0 % 2 ^ 4 = (M : Int) := ⟨(max (x - 10) 0 % 2 ^ 4).toNat, by omega⟩
  have hM1 : M < 16 := by omega
  have hmm := i64_mask (max (x - 10) 0) 4 (by decide) 15 (by decide)
  rw [hM] at hmm
  have hmk2 := run_make_row' (P := Tryd.prog) 25 5 (.int .u8 0) 1 Tryd.underlying25 Tryd.info_u8 rfl .i64 .i64 M (by omega) (by omega)
  have hw5 : IntKind.i64.wrap (x - 10 - 22) = x - 32 := hr
  rcases hc with ⟨p3, L3, c3, rfl, hL, h1, h2⟩ | ⟨rfl, h1⟩ | ⟨rfl, h1, h2⟩
  all_goals (
    refine hK.out _ _ hb3 ?_
    clear hK K' hb3
    try simp only [Act.put, List.setIfInBounds_toArray, List.set_cons_zero, List.set_cons_succ]
    repeat' (first
      | (refine wpRel_quiet (v := ?_) rfl rfl (fun _ _ _ h => h) (by rfl) ?_ ?_
         rotate_left
         · (intro w' hR; go_simp; try rfl)
         simp only [Act.put, List.setIfInBounds_toArray, List.set_cons_zero, List.set_cons_succ]))
    refine wpRel_nil ?_
    go_wp2_with fail
    refine wp_region_rel Kept [0, 1, 2, 3, 4, 5, 6, 7, 8, 9, 10, 11, 12, 13, 14] (by kernel_rfl) (by kernel_rfl) (by kernel_rfl) Kept.refl Kept.trans ?_
    replace hS3 := hS3.drew
    generalize w3.drew = W3 at *
    refine wpRel_loadA arrT32 rfl rfl _ rfl w.heap.size (bV key) (by rfl) (fun w' hR => hS3.kk.below hR) (by rw [bV_size, hkl]) (fun _ _ _ h => h) (by rfl) ?_
    try simp only [Act.put, List.setIfInBounds_toArray, List.set_cons_zero, List.set_cons_succ]
    repeat' (first
      | (refine wpRel_quiet (v := ?_) rfl rfl (fun _ _ _ h => h) (by rfl) ?_ ?_
         rotate_left
         · (intro w' hR; go_simp; try rfl)
         simp only [Act.put, List.setIfInBounds_toArray, List.set_cons_zero, List.set_cons_succ]))
    refine wpRel_step rfl rfl (by rfl) (fun K' hK => ?_)
    go_simp
    have hb6 := below_alloc (Below.refl W3.heap.size W3) (Obj.cells (madeCells #[Value.int IntKind.u8 0] M) 5)
    refine hK.out _ _ hb6 ?_
    clear hK K' hmk2
    try simp only [Act.put, List.setIfInBounds_toArray, List.set_cons_zero, List.set_cons_succ]
    replace hS3 := hS3.later hb6
    clear hb6
    generalize (W3.alloc (Obj.cells (madeCells #[Value.int IntKind.u8 0] M) 5)) = W4 at *
    generalize W3.heap.size = gy at *
    refine wpRel_step rfl rfl (by rfl) (fun K' hK => ?_)
    go_simp
    refine (open_short (len := M) key W4 (by omega)).mono ?_
    rintro e w5 ⟨rfl, hb5⟩
    refine hK.out _ _ hb5 ?_
    clear hK K'
    try simp only [noneV]
    have hS5 := hS3.later hb5
    clear hS3 hb5
    repeat' (first
      | (refine wpRel_quiet (v := ?_) rfl rfl (fun _ _ _ h => h) (by rfl) ?_ ?_
         rotate_left
         · (intro w' hR; go_simp; try rfl)
         simp only [Act.put, List.setIfInBounds_toArray, List.set_cons_zero, List.set_cons_succ]))
    refine wpRel_nil ?_
    go_wp2_with fail
    refine (room_any _ (x - 32) w5 hr).mono ?_
    rintro e w5' ⟨rfl, rfl⟩
    go_wp2_with fail
    refine (awake_any w5 hS5.gl).mono ?_
    rintro e w6 ⟨rfl, hb6⟩
    have hS6 := hS5.later hb6
    go_wp2_with fail
    go_ret
    refine ⟨?_, hS6.bel⟩
    first
      | rfl
      | (have hd : decide ((N : Int) ≤ x - 32) = false := decide_eq_false (by omega)
         show Ending.returned (Value.bool (!decide ((N : Int) ≤ x - 32))) = _
         rw [hd]
         rfl))
#print axioms sealRooms_walk
end Go.Proofs.YthhaeiafgloacaaDoor
