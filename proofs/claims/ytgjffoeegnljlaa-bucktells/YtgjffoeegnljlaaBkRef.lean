
/- What the reference's CellOk, cell and Code of a bucket do: for every row of Cells, every number of Cells and every size. No conditions but those that each line states. -/
import Derived.Test.YtgjffoeegnljlaaBkTell
import Derived.Test.YtgjffoeegnljlaaRef1Put
import Derived.Test.YtgjffoeegnljlaaAppZ
import Derived.Test.YtgjffoeegnljlaaBuild
namespace Go.Proofs.Ytgjffoeegnljlaa
open Go.RowKit
set_option maxRecDepth 20000

theorem OwnS.weak {E : TypeId} {base b : Nat} {w : World} {a : Option Addr} {n cap : Nat} {xs : List Int} (h : OwnS E base w a n cap xs) (hb : b ≤ base) : OwnS E b w a n cap xs := by
  obtain ⟨h1, h2, h3, h4⟩ := h
  refine ⟨h1, h2, h3, ?_⟩
  rcases h4 with h5 | ⟨g, c, cur, e, h6, h7⟩
  · exact .inl h5
  · exact .inr ⟨g, c, cur, e, Nat.le_trans hb h6, h7⟩
theorem rcellOk_any {w : World} {c : CV} (h : c.At w) (size : Int) :
    Calls Try.prog 24 #[.agg c.row.toArray, .int .i64 size] w fun e w' => e = .returned (.bool (okC size c.pc)) ∧ Below w.heap.size w w' := by
  obtain ⟨i, l, ⟨a, len, cap, zs⟩⟩ := c
  have hl := h.bs.length
  simp only at hl
  have hE : okC size (CV.mk i l ⟨a, len, cap, zs⟩).pc = decide ((1 ≤ i ∧ i ≤ 2147483647) ∧ (0 ≤ l ∧ l ≤ 2147483647) ∧ (len : Int) = size) := by
    unfold okC CV.pc
    simp only [hl]
  rw [hE]
  clear hE
  have hb := below_alloc (Below.refl w.heap.size w) (.cells #[.int .i64 i, .int .i64 l, .slice a len cap] 24)
  clear h hl
  show Calls Try.prog 24 #[.agg #[.int .i64 i, .int .i64 l, .slice a len cap], .int .i64 size] w _
  by_cases h : (1 ≤ i ∧ i ≤ 2147483647) ∧ (0 ≤ l ∧ l ≤ 2147483647) ∧ (len : Int) = size
  · rw [decide_eq_true h]
    obtain ⟨⟨h1, h2⟩, ⟨h3, h4⟩, rfl⟩ := h
    have h2' : i < 2147483648 := by omega
    have h4' : l < 2147483648 := by omega
    clear h2 h4
    go_enter Try.func24, Try.ntmps24
    go_wp2
    go_ret
    exact ⟨rfl, hb⟩
  · rw [decide_eq_false h]
    by_cases h1 : 1 ≤ i
    · by_cases h2 : i < 2147483648
      · by_cases h3 : 0 ≤ l
        · by_cases h4 : l < 2147483648
          · have h5 : ¬ (len : Int) = size := fun h5 => h ⟨⟨h1, by omega⟩, ⟨h3, by omega⟩, h5⟩
            clear h
            go_enter Try.func24, Try.ntmps24
            go_wp2
            go_ret
            exact ⟨ret_bool (beq_eq_false_iff_ne.2 h5), hb⟩
          · clear h
            go_enter Try.func24, Try.ntmps24
            go_wp2
            go_ret
            exact ⟨rfl, hb⟩
        · clear h
          go_enter Try.func24, Try.ntmps24
          go_wp2
          go_ret
          exact ⟨rfl, hb⟩
      · clear h
        go_enter Try.func24, Try.ntmps24
        go_wp2
        go_ret
        exact ⟨rfl, hb⟩
    · clear h
      go_enter Try.func24, Try.ntmps24
      go_wp2
      go_ret
      exact ⟨rfl, hb⟩
set_option maxHeartbeats 1000000 in
theorem rcell_any {w : World} {c : CV} (h : c.At w) (hi : 0 ≤ c.id ∧ c.id < 18446744073709551616) (hl : 0 ≤ c.leaf ∧ c.leaf < 18446744073709551616) (hd : c.d.zs.length ≤ 60000) :
    Calls Try.prog 25 #[.agg c.row.toArray] w fun e w' => ∃ a n cap, e = .returned (.slice a n cap) ∧ OwnS 5 w.heap.size w' a n cap (tellC c.pc) ∧ Below w.heap.size w w' := by
  obtain ⟨i, l, ⟨a, len, dc, zs⟩⟩ := c
  have hzl := h.bs.length
  simp only at hzl hi hl hd
  have hw1 : IntKind.u64.wrap i = i := by rw [wrap_u64]; omega
  have hw2 : IntKind.u64.wrap l = l := by rw [wrap_u64]; omega
  show Calls Try.prog 25 #[.agg #[.int .i64 i, .int .i64 l, .slice a len dc]] w _
  have b0 := below_alloc (Below.refl w.heap.size w) (.cells #[.int .i64 i, .int .i64 l, .slice a len dc] 24)
  have n0 := heap_alloc_new w (.cells #[.int .i64 i, .int .i64 l, .slice a len dc] 24)
  have d0 := h.bs.below b0
  go_enter Try.func25, Try.ntmps25
  go_wp2_with fail
  generalize (w.alloc (.cells #[.int .i64 i, .int .i64 l, .slice a len dc] 24)) = W at *
  have hWs : w.heap.size ≤ W.heap.size := b0.size
  have hbx : w.heap.size < W.heap.size := (Array.getElem?_eq_some_iff.1 n0).1
  refine wp_region_ord 1000 [0, 1, 2, 4, 5, 6, 9, 10, 3, 7, 8, 11, 12] (fun w' => w'.cell? ⟨w.heap.size, 0, none⟩ = some (.int .i64 i) ∧ w'.cell? ⟨w.heap.size, 1, none⟩ = some (.int .i64 l) ∧ w'.cell? ⟨w.heap.size, 2, none⟩ = some (.slice a len dc)) (fun _ => True) (by kernel_rfl) (by kernel_rfl) (by kernel_rfl) ⟨cell_of_row _ _ 0 _ _ _ n0, cell_of_row _ _ 1 _ _ _ n0, cell_of_row _ _ 2 _ _ _ n0⟩ trivial (fun _ _ => ?_)
  replace b0 := b0.drew
  replace n0 : W.drew.heap[w.heap.size]? = some (.cells #[.int .i64 i, .int .i64 l, .slice a len dc] 24 (0, 0)) := n0
  replace d0 := d0.below (Below.refl _ _).drew
  replace hWs : w.heap.size ≤ W.drew.heap.size := hWs
  replace hbx : w.heap.size < W.drew.heap.size := hbx
  generalize W.drew = W1 at *
  repeat' (first
    | (refine wpOrd_quiet (v := ?_) rfl rfl (fun _ _ _ h => h) (by rfl) ?_ ?_
       rotate_left
       · (intro w' hT _; obtain ⟨t0, t1, t2⟩ := hT; go_simp; try rfl)
       simp only [Act.put, List.setIfInBounds_toArray, List.set_cons_zero, List.set_cons_succ])
    | fail)
  refine wpOrd_step rfl rfl (by rfl) (fun K' hK => ?_)
  go_simp
  refine (rput_ok i 4 W1 hi (by omega)).mono ?_
  rintro e w2 ⟨a2, c2, rfl, hO2, hb2⟩
  have n2 := (hb2.block _ hbx).trans n0
  refine hK.out _ _ ⟨cell_of_row _ _ 0 _ _ _ n2, cell_of_row _ _ 1 _ _ _ n2, cell_of_row _ _ 2 _ _ _ n2⟩ (fun h => absurd h (by decide)) (fun _ => ?_)
  clear hK K'
  try simp only [Act.put, List.setIfInBounds_toArray, List.set_cons_zero, List.set_cons_succ]
  refine wpOrd_step rfl rfl (by rfl) (fun K' hK => ?_)
  go_simp
  refine (rput_ok l 4 w2 hl (by omega)).mono ?_
  rintro e w3 ⟨a3, c3, rfl, hO3, hb3⟩
  have n3 := (hb3.block _ (Nat.lt_of_lt_of_le hbx hb2.size)).trans n2
  refine hK.out _ _ ⟨cell_of_row _ _ 0 _ _ _ n3, cell_of_row _ _ 1 _ _ _ n3, cell_of_row _ _ 2 _ _ _ n3⟩ (fun h => absurd h (by decide)) (fun _ => ?_)
  clear hK K'
  try simp only [Act.put, List.setIfInBounds_toArray, List.set_cons_zero, List.set_cons_succ]
  obtain ⟨a4, c4, w4, hr4, ho4, hb4⟩ := run_append_more W1.heap.size W1 w3 a2 4 c2 _ (hO2.below hb3) (hb2.trans (hb3.mono hb2.size)) (Nat.le_refl _) a3 4 c3 _ hO3.bs (by omega)
  have n4 := (hb4.block _ hbx).trans n0
  refine wpOrd_step rfl rfl (by rfl) (fun K' hK => ?_)
  refine wp_append_run (.tmp 6) (.tmp 10) 22 (by rfl) _ _ _ (by rfl) (by rfl) hr4 ?_
  refine hK.out _ _ ⟨cell_of_row _ _ 0 _ _ _ n4, cell_of_row _ _ 1 _ _ _ n4, cell_of_row _ _ 2 _ _ _ n4⟩ (fun h => absurd h (by decide)) (fun _ => ?_)
  clear hK K'
  try simp only [Act.put, List.setIfInBounds_toArray, List.set_cons_zero, List.set_cons_succ]
  clear hr4 n2 n3 hO2 hO3 hb2 hb3
  obtain ⟨a5, c5, w5, hr5, ho5, hb5⟩ := run_append_more W1.heap.size W1 w4 a4 8 c4 _ ho4 hb4 (Nat.le_refl _) a len dc zs (d0.below hb4) (by omega)
  have n5 := (hb5.block _ hbx).trans n0
  refine wpOrd_step rfl rfl (by rfl) (fun K' hK => ?_)
  refine wp_append_run (.tmp 11) (.tmp 13) 22 (by rfl) _ _ _ (by rfl) (by rfl) hr5 ?_
  refine hK.out _ _ ⟨cell_of_row _ _ 0 _ _ _ n5, cell_of_row _ _ 1 _ _ _ n5, cell_of_row _ _ 2 _ _ _ n5⟩ (fun h => absurd h (by decide)) (fun _ => ?_)
  clear hK K'
  try simp only [Act.put, List.setIfInBounds_toArray, List.set_cons_zero, List.set_cons_succ]
  clear hr5
  repeat' (first
    | (refine wpOrd_quiet (v := ?_) rfl rfl (fun _ _ _ h => h) (by rfl) ?_ ?_
       rotate_left
       · (intro w' hT _; go_simp; try rfl)
       simp only [Act.put, List.setIfInBounds_toArray, List.set_cons_zero, List.set_cons_succ])
    | fail)
  refine wpOrd_nil ?_
  go_wp2_with fail
  go_ret
  refine ⟨a5, 8 + len, c5, rfl, ?_, b0.trans (hb5.mono hWs)⟩
  have := ho5.weak hWs
  rw [List.append_assoc] at this
  exact this
#print axioms rcellOk_any
#print axioms rcell_any
end Go.Proofs.Ytgjffoeegnljlaa
