/- A call of the law FlotRising answers true and turns nothing that was there: for every two ints. -/
import Derived.Test.YtjogkadmkohifaaFAwake
import Derived.Test.YtjogkadmkohifaaText
namespace Go.Proofs.Ytjogkadmkohifaa
open Go.RowKit
/-- The row of edges, rising. -/
def edges : List Nat := [18442240474082181120, 18442240474082181119, 13830554455654793216, 9223372036854775809, 9223372036854775808, 0, 1, 4607182418800017408, 9218868437227405311, 9218868437227405312, 9221120237041090561]

theorem edges_less : ∀ i, i < 11 → ∀ k, k < 11 → lessB (edges.getD i 0) (edges.getD k 0) = decide (i < k) := by
  have h : ((List.range 11).all fun i => (List.range 11).all fun k => lessB (edges.getD i 0) (edges.getD k 0) == decide (i < k)) = true := by kernel_rfl
  intro i hi k hk
  have h1 := List.all_eq_true.1 h i (List.mem_range.2 hi)
  have h2 := List.all_eq_true.1 h1 k (List.mem_range.2 hk)
  exact eq_of_beq h2
theorem edges_lt (i : Nat) : edges.getD i 0 < 18446744073709551616 := by
  have h : edges.all (fun x => decide (x < 18446744073709551616)) = true := by kernel_rfl
  rcases Nat.lt_or_ge i edges.length with hi | hi
  · have e : edges.getD i 0 = edges[i] := by simp [List.getD, List.getElem?_eq_getElem hi]
    rw [e]
    exact of_decide_eq_true (List.all_eq_true.1 h _ (List.getElem_mem hi))
  · have e : edges.getD i 0 = 0 := by simp [List.getD, List.getElem?_eq_none hi]
    rw [e]; omega

set_option maxHeartbeats 2000000 in
theorem flotRising_walk (a b : Int) (w : World) :
    Calls Try.prog 4 #[.int .i64 a, .int .i64 b] w fun e w' => e = .returned (.bool true) ∧ Below w.heap.size w w' := by
  obtain ⟨i, hi⟩ : ∃ i : Nat, bits BinOp.and IntKind.i64 a 255 = (i : Int) := ⟨(a % 256).toNat, by rw [i64_and255]; omega⟩
  obtain ⟨k, hk⟩ : ∃ k : Nat, bits BinOp.and IntKind.i64 b 255 = (k : Int) := ⟨(b % 256).toNat, by rw [i64_and255]; omega⟩
  have hi8 : i < 256 := by have := i64_and255 a; omega
  have hk8 : k < 256 := by have := i64_and255 b; omega
  go_enter Try.func4, Try.ntmps4
  go_wp2_with fail
  refine (inf_neg w).mono ?_
  rintro e w' ⟨rfl, rfl⟩
  go_wp2_with fail
  refine (minus_any w).mono ?_
  rintro e w' ⟨rfl, rfl⟩
  go_wp2_with fail
  refine (inf_pos w).mono ?_
  rintro e w' ⟨rfl, rfl⟩
  go_wp2_with fail
  refine (nan_any w).mono ?_
  rintro e w' ⟨rfl, rfl⟩
  go_wp2_with fail
  have hC : ∀ j, j < 11 → (w.alloc (Obj.cells ((edges.map (Value.float .f64)).toArray) 22)).cell? ⟨w.heap.size, j, none⟩ = some (.float .f64 (edges.getD j 0)) := by
    intro j hj
    rw [World.cell?_alloc_new]
    have : j = 0 ∨ j = 1 ∨ j = 2 ∨ j = 3 ∨ j = 4 ∨ j = 5 ∨ j = 6 ∨ j = 7 ∨ j = 8 ∨ j = 9 ∨ j = 10 := by omega
    rcases this with rfl | rfl | rfl | rfl | rfl | rfl | rfl | rfl | rfl | rfl | rfl <;> rfl
  have hB : Below w.heap.size w (w.alloc (Obj.cells ((edges.map (Value.float .f64)).toArray) 22)) := (Below.refl _ _).alloc (Nat.le_refl _) _
  simp only [edges, List.map_cons, List.map_nil] at hC hB
  generalize w.alloc (Obj.cells _ 22) = w1 at *
  have HC := hide hC
  have HB := hide hB
  clear hC hB
  go_region
  obtain ⟨I, hI⟩ : ∃ I : Nat, (i : Int) % 11 = (I : Int) := ⟨i % 11, by omega⟩
  obtain ⟨K, hK⟩ : ∃ K : Nat, (k : Int) % 11 = (K : Int) := ⟨k % 11, by omega⟩
  have hI11 : I < 11 := by omega
  have hK11 : K < 11 := by omega
  rw [hI, hK]
  have hL := hide (edges_less I hI11 K hK11)
  have lI := edges_lt I
  have lK := edges_lt K
  have cI := HC.out I hI11
  have cK := HC.out K hK11
  change w1.cell? _ = some (.float .f64 (edges.getD I 0)) at cI
  change w1.cell? _ = some (.float .f64 (edges.getD K 0)) at cK
  clear HC hI hK hi hk
  generalize edges.getD I 0 = x at *
  generalize edges.getD K 0 = y at *
  have hB := HB.out
  clear HB
  have hB1 : Below w.heap.size w w1.drew := hB.trans ⟨rfl, rfl, rfl, Nat.le_refl _, fun _ _ => rfl⟩
  replace cI : w1.drew.cell? ⟨w.heap.size, I, none⟩ = some (.float .f64 x) := cI
  replace cK : w1.drew.cell? ⟨w.heap.size, K, none⟩ = some (.float .f64 y) := cK
  clear hB
  generalize w1.drew = w2 at *
  generalize hg : w.heap.size = g at *
  go_wp2_with fail
  refine wp_region_ord 1000 [0, 1, 2, 3, 4, 5, 6, 7, 9, 10, 11, 8, 12, 13, 14, 15, 16]
    (fun w' => w'.cell? ⟨g, I, none⟩ = some (.float .f64 x) ∧ w'.cell? ⟨g, K, none⟩ = some (.float .f64 y) ∧ Below g w w') (fun _ => True) (by kernel_rfl) (by kernel_rfl) (by kernel_rfl) ⟨cI, cK, hB1.trans ⟨rfl, rfl, rfl, Nat.le_refl _, fun _ _ => rfl⟩⟩ trivial (fun hT _ => ?_)
  clear cI cK hB1
  have iI : (I : Int) < 11 := by omega
  have iK : (K : Int) < 11 := by omega
  generalize w2.drew = w3 at *
  repeat' (first
    | (refine wpOrd_quiet (v := ?_) rfl rfl (fun _ _ _ h => h) (by rfl) ?_ ?_
       rotate_left
       · (intro w' hT _; obtain ⟨c1, c2, _⟩ := hT; go_simp; try rfl)
       simp only [Act.put, List.setIfInBounds_toArray, List.set_cons_zero, List.set_cons_succ]))
  refine wpOrd_step rfl rfl (by rfl) (fun K' hK => ?_)
  go_simp
  refine (less_any x y w3 lI lK).mono ?_
  rintro e w' ⟨rfl, rfl⟩
  refine hK.out _ _ hT (fun h => absurd h (by decide)) (fun _ => ?_)
  clear hK K'
  try simp only [Act.put, List.setIfInBounds_toArray, List.set_cons_zero, List.set_cons_succ]
  rw [hL.out]
  repeat' (first
    | (refine wpOrd_quiet (v := ?_) rfl rfl (fun _ _ _ h => h) (by rfl) ?_ ?_
       rotate_left
       · (intro w' hT _; obtain ⟨c1, c2, _⟩ := hT; go_simp; try rfl)
       simp only [Act.put, List.setIfInBounds_toArray, List.set_cons_zero, List.set_cons_succ]))
  refine wpOrd_step rfl rfl (by rfl) (fun K' hK => ?_)
  go_simp
  refine (awake_any w3).mono ?_
  rintro e w4 ⟨rfl, hb⟩
  have hb1 := hT.2.2.trans (hb.mono (by rw [← hg]; exact hT.2.2.size))
  have l3 : g < w3.heap.size := World.block_lt_of_cell? w3 _ hT.1
  refine hK.out _ _ ⟨by rw [hb.cell l3]; exact hT.1, by rw [hb.cell l3]; exact hT.2.1, hb1⟩ (fun h => absurd h (by decide)) (fun _ => ?_)
  clear hK K'
  try simp only [Act.put, List.setIfInBounds_toArray, List.set_cons_zero, List.set_cons_succ]
  repeat' (first
    | (refine wpOrd_quiet (v := ?_) rfl rfl (fun _ _ _ h => h) (by rfl) ?_ ?_
       rotate_left
       · (intro w' hT _; obtain ⟨c1, c2, _⟩ := hT; go_simp; try rfl)
       simp only [Act.put, List.setIfInBounds_toArray, List.set_cons_zero, List.set_cons_succ]))
  refine wpOrd_nil ?_
  go_wp2_with fail
  go_ret
  exact ⟨rfl, by rw [hg]; exact hb1⟩
#print axioms flotRising_walk
end Go.Proofs.Ytjogkadmkohifaa
