/- A call of the law FlotEdges answers true and turns nothing that was there: for every int. -/
import Derived.Test.YtjogkadmkohifaaFAwake
import Derived.Test.YtjogkadmkohifaaRel
namespace Go.Proofs.Ytjogkadmkohifaa
open Go.RowKit

/-- The rows of sums, one behind the other. -/
def sums : List Nat := [0, 0, 0, 0, 9223372036854775808, 0, 9223372036854775808, 0, 0, 9223372036854775808, 9223372036854775808, 9223372036854775808, 4607182418800017408, 13830554455654793216, 0,
  9218868437227405312, 4607182418800017408, 9218868437227405312, 9218868437227405312, 9218868437227405312, 9218868437227405312, 18442240474082181120, 4607182418800017408, 18442240474082181120,
  9218868437227405312, 18442240474082181120, 9221120237041090561, 9221120237041090561, 4607182418800017408, 9221120237041090561, 4607182418800017408, 9221120237041090561, 9221120237041090561,
  9221120237041090561, 9218868437227405312, 9221120237041090561, 9218868437227405311, 9218868437227405311, 9218868437227405312, 4607182418800017408, 4336966441157787648, 4607182418800017408,
  4845873199050653696, 4607182418800017408, 4845873199050653696, 4845873199050653696, 4613937818241073152, 4845873199050653698, 1, 1, 2, 1, 9223372036854775809, 0]

theorem sums_cell {j : Nat} (h : j < 54) : (sums.map (Value.float .f64))[j]? = some (.float .f64 (sums.getD j 0)) := by
  have hl : j < sums.length := h
  rw [List.getElem?_map, List.getElem?_eq_getElem hl]
  simp [List.getD, List.getElem?_eq_getElem hl]

theorem sums_lt (i : Nat) : sums.getD i 0 < 18446744073709551616 := by
  have h : sums.all (fun x => decide (x < 18446744073709551616)) = true := by kernel_rfl
  rcases Nat.lt_or_ge i sums.length with hi | hi
  · have e : sums.getD i 0 = sums[i] := by simp [List.getD, List.getElem?_eq_getElem hi]
    rw [e]
    exact of_decide_eq_true (List.all_eq_true.1 h _ (List.getElem_mem hi))
  · have e : sums.getD i 0 = 0 := by simp [List.getD, List.getElem?_eq_none hi]
    rw [e]; omega

theorem sums_add {I : Nat} (h : I < 18) : addB (sums.getD (I * 3) 0) (sums.getD (I * 3 + 1) 0) = one (sums.getD (I * 3 + 2) 0) := by
  have hh : ((List.range 18).all fun i => addB (sums.getD (i * 3) 0) (sums.getD (i * 3 + 1) 0) == one (sums.getD (i * 3 + 2) 0)) = true := by kernel_rfl
  exact eq_of_beq (List.all_eq_true.1 hh I (List.mem_range.2 h))

theorem one_one (x : Nat) : one (one x) = one x := by
  cases h : nanB x
  · rw [one_num h, one_num h]
  · rw [one_nan h]; rfl
theorem ofB_putL8 (n : Nat) (h : n < 18446744073709551616) : ofB (putL (n : Int) 8) = one n := by
  unfold ofB
  rw [if_pos (length_putL _ _), leNum_all _ (by omega) (by omega)]; rfl

set_option maxHeartbeats 4000000 in
theorem flotEdges_walk (a : Int) (w : World) :
    Calls Try.prog 3 #[.int .i64 a] w fun e w' => e = .returned (.bool true) ∧ Below w.heap.size w w' := by
  obtain ⟨i, hi⟩ : ∃ i : Nat, bits BinOp.and IntKind.i64 a 255 = (i : Int) := ⟨(a % 256).toNat, by rw [i64_and255]; omega⟩
  have hi8 : i < 256 := by have := i64_and255 a; omega
  have hneg : ∀ w, (Op.unary .neg (.float .f64 9218868437227405312)).run Try.prog w = .ok (.float .f64 18442240474082181120) w := fun w => rfl
  have hst : ∀ (p : Addr) (b : Nat) (m : Mode) (w : World), (store p (.float .f64 b) m).run Try.prog w = stored Try.prog w p (.float .f64 b) m := fun p b m w => run_store Try.prog w p _ m rfl
  have hI : i % 18 < 18 := by omega
  have c0 := sums_cell (j := i % 18 * 3) (by omega)
  have c1 := sums_cell (j := i % 18 * 3 + 1) (by omega)
  have c2 := sums_cell (j := i % 18 * 3 + 2) (by omega)
  have hA := sums_add hI
  have l0 := sums_lt (i % 18 * 3)
  have l1 := sums_lt (i % 18 * 3 + 1)
  have l2 := sums_lt (i % 18 * 3 + 2)
  generalize sums.getD (i % 18 * 3) 0 = x at *
  generalize sums.getD (i % 18 * 3 + 1) 0 = y at *
  generalize sums.getD (i % 18 * 3 + 2) 0 = z at *
  have HA := hide hA
  clear hA
  simp only [sums, List.map_cons, List.map_nil] at c0 c1 c2
  go_enter Try.func3, Try.ntmps3
  go_wp2_with fail
  refine (nan_any w).mono ?_
  rintro e w' ⟨rfl, rfl⟩
  go_wp2_with fail
  refine (inf_pos w).mono ?_
  rintro e w' ⟨rfl, rfl⟩
  go_wp2_with fail
  refine (minus_any w).mono ?_
  rintro e w' ⟨rfl, rfl⟩
  go_wp2_with fail
  clear c0 c1 c2 hst hneg
  have hB1 : Below w.heap.size w (w.alloc (Obj.cells (sums.map (Value.float .f64)).toArray 26)) := (Below.refl _ _).alloc (Nat.le_refl _) _
  have hz1 : (w.alloc (Obj.cells (sums.map (Value.float .f64)).toArray 26)).heap.size = w.heap.size + 1 := World.size_alloc ..
  simp only [sums, List.map_cons, List.map_nil] at hB1 hz1
  generalize w.alloc (Obj.cells _ 26) = w1 at *
  have d0 : (w1.alloc (Obj.cells #[Value.float .f64 x, Value.float .f64 y, Value.float .f64 z] 26)).drew.cell? ⟨w.heap.size + 1, 0, none⟩ = some (.float .f64 x) := by
    show (w1.alloc _).cell? _ = _
    rw [← hz1, World.cell?_alloc_new]; rfl
  have d1 : (w1.alloc (Obj.cells #[Value.float .f64 x, Value.float .f64 y, Value.float .f64 z] 26)).drew.cell? ⟨w.heap.size + 1, 1, none⟩ = some (.float .f64 y) := by
    show (w1.alloc _).cell? _ = _
    rw [← hz1, World.cell?_alloc_new]; rfl
  have d2 : (w1.alloc (Obj.cells #[Value.float .f64 x, Value.float .f64 y, Value.float .f64 z] 26)).drew.cell? ⟨w.heap.size + 1, 2, none⟩ = some (.float .f64 z) := by
    show (w1.alloc _).cell? _ = _
    rw [← hz1, World.cell?_alloc_new]; rfl
  have hB2 : Hid (Below w.heap.size w (w1.alloc (Obj.cells #[Value.float .f64 x, Value.float .f64 y, Value.float .f64 z] 26)).drew) := hide ((hB1.alloc hB1.size _).trans ⟨rfl, rfl, rfl, Nat.le_refl _, fun _ _ => rfl⟩)
  refine wp_region_rel Kept [0, 1, 2, 3, 5, 6, 4, 7, 8, 9, 10, 11, 14, 15, 12, 13, 16, 17, 18, 19, 20, 21, 22] (by kernel_rfl) (by kernel_rfl) (by kernel_rfl) Kept.refl Kept.trans ?_
  clear hB1 hz1
  generalize (w1.alloc (Obj.cells #[Value.float .f64 x, Value.float .f64 y, Value.float .f64 z] 26)).drew = w3 at *
  have lg : w.heap.size + 1 < w3.heap.size := World.block_lt_of_cell? w3 _ d0
  have D0 := hide d0
  have D1 := hide d1
  have D2 := hide d2
  clear d0 d1 d2
  repeat' (first
    | (refine wpRel_quiet (v := ?_) rfl rfl (fun _ _ _ h => h) (by rfl) ?_ ?_
       rotate_left
       · (intro w' hR; have e0 := (Below.cell hR (p := ⟨w.heap.size + 1, 0, none⟩) lg).trans D0.out; have e1 := (Below.cell hR (p := ⟨w.heap.size + 1, 1, none⟩) lg).trans D1.out; have e2 := (Below.cell hR (p := ⟨w.heap.size + 1, 2, none⟩) lg).trans D2.out; go_simp; try rfl)
       simp only [Act.put, List.setIfInBounds_toArray, List.set_cons_zero, List.set_cons_succ]))
  refine wpRel_step rfl rfl (by rfl) (fun K' hK => ?_)
  go_simp
  refine (add_any x y w3).mono ?_
  rintro e w4 ⟨rfl, _, hb4⟩
  rw [HA.out]
  refine hK.out _ _ hb4 ?_
  clear hK K'
  try simp only [Act.put, List.setIfInBounds_toArray, List.set_cons_zero, List.set_cons_succ]
  have hB4 := hide (hB2.out.trans (hb4.mono hB2.out.size))
  have E2 := hide ((hb4.cell (p := ⟨w.heap.size + 1, 2, none⟩) lg).trans D2.out)
  have lg4 : w.heap.size + 1 < w4.heap.size := Nat.lt_of_lt_of_le lg hb4.size
  clear hb4 hB2 D0 D1 D2
  repeat' (first
    | (refine wpRel_quiet (v := ?_) rfl rfl (fun _ _ _ h => h) (by rfl) ?_ ?_
       rotate_left
       · (intro w' hR; have e2 := (Below.cell hR (p := ⟨w.heap.size + 1, 2, none⟩) lg4).trans E2.out; go_simp; try rfl)
       simp only [Act.put, List.setIfInBounds_toArray, List.set_cons_zero, List.set_cons_succ]))
  refine wpRel_step rfl rfl (by rfl) (fun K' hK => ?_)
  go_simp
  refine (one_any z w4 l2).mono ?_
  rintro e w' ⟨rfl, rfl⟩
  refine hK.out _ _ (Kept.refl _) ?_
  clear hK K'
  try simp only [Act.put, List.setIfInBounds_toArray, List.set_cons_zero, List.set_cons_succ]
  repeat' (first
    | (refine wpRel_quiet (v := ?_) rfl rfl (fun _ _ _ h => h) (by rfl) ?_ ?_
       rotate_left
       · (intro w' hR; have e2 := (Below.cell hR (p := ⟨w.heap.size + 1, 2, none⟩) lg4).trans E2.out; go_simp; try rfl)
       simp only [Act.put, List.setIfInBounds_toArray, List.set_cons_zero, List.set_cons_succ]))
  refine wpRel_step rfl rfl (by rfl) (fun K' hK => ?_)
  go_simp
  refine (alike_any (one z) (one z) w4).mono ?_
  rintro e w' ⟨rfl, rfl⟩
  rw [decide_eq_true rfl]
  refine hK.out _ _ (Kept.refl _) ?_
  clear hK K'
  try simp only [Act.put, List.setIfInBounds_toArray, List.set_cons_zero, List.set_cons_succ]
  repeat' (first
    | (refine wpRel_quiet (v := ?_) rfl rfl (fun _ _ _ h => h) (by rfl) ?_ ?_
       rotate_left
       · (intro w' hR; have e2 := (Below.cell hR (p := ⟨w.heap.size + 1, 2, none⟩) lg4).trans E2.out; go_simp; try rfl)
       simp only [Act.put, List.setIfInBounds_toArray, List.set_cons_zero, List.set_cons_succ]))
  refine wpRel_step rfl rfl (by rfl) (fun K' hK => ?_)
  go_simp
  refine (bytes_any z w4 l2).mono ?_
  rintro e w5 ⟨rfl, ho5, hb5⟩
  refine hK.out _ _ hb5 ?_
  clear hK K'
  try simp only [Act.put, List.setIfInBounds_toArray, List.set_cons_zero, List.set_cons_succ]
  have hs5 := hide (ho5.bs (putL_bytes _ _) 8 (length_putL _ _) (by omega))
  have hB5 := hide (hB4.out.trans (hb5.mono hB4.out.size))
  clear ho5 hb5 hB4 E2
  generalize w4.heap.size = g4 at *
  repeat' (first
    | (refine wpRel_quiet (v := ?_) rfl rfl (fun _ _ _ h => h) (by rfl) ?_ ?_
       rotate_left
       · (intro w' hR; go_simp; try rfl)
       simp only [Act.put, List.setIfInBounds_toArray, List.set_cons_zero, List.set_cons_succ]))
  refine wpRel_step rfl rfl (by rfl) (fun K' hK => ?_)
  go_simp
  refine (of_any w5 hs5.out).mono ?_
  rintro e w' ⟨rfl, rfl⟩
  rw [ofB_putL8 _ (one_lt l2), one_one]
  refine hK.out _ _ (Kept.refl _) ?_
  clear hK K'
  try simp only [Act.put, List.setIfInBounds_toArray, List.set_cons_zero, List.set_cons_succ]
  clear hs5
  repeat' (first
    | (refine wpRel_quiet (v := ?_) rfl rfl (fun _ _ _ h => h) (by rfl) ?_ ?_
       rotate_left
       · (intro w' hR; go_simp; try rfl)
       simp only [Act.put, List.setIfInBounds_toArray, List.set_cons_zero, List.set_cons_succ]))
  refine wpRel_step rfl rfl (by rfl) (fun K' hK => ?_)
  go_simp
  refine (one_any z w5 l2).mono ?_
  rintro e w' ⟨rfl, rfl⟩
  refine hK.out _ _ (Kept.refl _) ?_
  clear hK K'
  try simp only [Act.put, List.setIfInBounds_toArray, List.set_cons_zero, List.set_cons_succ]
  repeat' (first
    | (refine wpRel_quiet (v := ?_) rfl rfl (fun _ _ _ h => h) (by rfl) ?_ ?_
       rotate_left
       · (intro w' hR; go_simp; try rfl)
       simp only [Act.put, List.setIfInBounds_toArray, List.set_cons_zero, List.set_cons_succ]))
  refine wpRel_step rfl rfl (by rfl) (fun K' hK => ?_)
  go_simp
  refine (alike_any (one z) (one z) w5).mono ?_
  rintro e w' ⟨rfl, rfl⟩
  rw [decide_eq_true rfl]
  refine hK.out _ _ (Kept.refl _) ?_
  clear hK K'
  try simp only [Act.put, List.setIfInBounds_toArray, List.set_cons_zero, List.set_cons_succ]
  repeat' (first
    | (refine wpRel_quiet (v := ?_) rfl rfl (fun _ _ _ h => h) (by rfl) ?_ ?_
       rotate_left
       · (intro w' hR; go_simp; try rfl)
       simp only [Act.put, List.setIfInBounds_toArray, List.set_cons_zero, List.set_cons_succ]))
  refine wpRel_step rfl rfl (by rfl) (fun K' hK => ?_)
  go_simp
  refine (awake_any w5).mono ?_
  rintro e w6 ⟨rfl, hb6⟩
  refine hK.out _ _ hb6 ?_
  clear hK K'
  try simp only [Act.put, List.setIfInBounds_toArray, List.set_cons_zero, List.set_cons_succ]
  have hB6 := hB5.out.trans (hb6.mono hB5.out.size)
  repeat' (first
    | (refine wpRel_quiet (v := ?_) rfl rfl (fun _ _ _ h => h) (by rfl) ?_ ?_
       rotate_left
       · (intro w' hR; go_simp; try rfl)
       simp only [Act.put, List.setIfInBounds_toArray, List.set_cons_zero, List.set_cons_succ]))
  refine wpRel_nil ?_
  go_wp2_with fail
  go_ret
  exact ⟨rfl, hB6⟩
#print axioms flotEdges_walk
end Go.Proofs.Ytjogkadmkohifaa
