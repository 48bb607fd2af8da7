
/- The operations of the table of dumbwaiterlaw8.BootForms, each where the frame is any. No conditions but those that each line states. -/
import Derived.Test.YtgkhaedlfmloeaaDoorBForm
namespace Go.Proofs.YtgkhaedlfmloeaaDoor
open Go.RowKit

section
variable {o : Oper} {a : Act} {w : World} {K : Act → World → Prop} {Q : Exit → Act → World → Prop}
theorem op_load (x rb : Nat) (v : Value) (hop : o.op = .load 26 (.tmp x)) (hv : a.eval (.tmp x) = .pointer (some ⟨rb, 0, none⟩)) (hc : w.cell? ⟨rb, 0, none⟩ = some v) (h : K (a.put o.dst v) w) : o.wp Tryd.prog a w K Q := by
  unfold Oper.wp execOp
  simp only [hop, hv]
  go_simp
  exact h
theorem op_move (x : Nat) (v : Value) (hop : o.op = .move (.tmp x)) (hv : a.eval (.tmp x) = v) (h : K (a.put o.dst v) w) : o.wp Tryd.prog a w K Q := by
  unfold Oper.wp execOp
  simp only [hop, hv]
  go_simp
  exact h
theorem op_assign (x : Nat) (v : Value) (hop : o.op = .assign (.tmp x)) (hv : a.eval (.tmp x) = v) (h : K (a.put o.dst v) w) : o.wp Tryd.prog a w K Q := by
  unfold Oper.wp execOp
  simp only [hop, hv]
  go_simp
  exact h
theorem op_nought (hop : o.op = .buildSlice 26 0 #[]) (h : K (a.put o.dst (.slice (some ⟨w.heap.size, 0, none⟩) 0 0)) (w.alloc (.cells #[] 5))) : o.wp Tryd.prog a w K Q := by
  unfold Oper.wp execOp
  simp only [hop]
  go_simp
  exact h
theorem op_rec (n : Int) (post : Ending → World → Prop) (hop : o.op = .call { callee := .value (.func 9), args := #[.const (.int .u32 n)], argTypes := #[22] }) (hc : Calls Tryd.prog 9 #[.int .u32 n] w post)
    (h : ∀ e w', post e w' → ∃ v, e = .returned v ∧ K (a.put o.dst v) w') : o.wp Tryd.prog a w K Q := by
  unfold Oper.wp execOp
  simp only [hop]
  go_simp
  refine hc.mono ?_
  intro e w' hp
  obtain ⟨v, rfl, hk⟩ := h e w' hp
  exact hk
theorem op_garb (x : Nat) (u : Value) (post : Ending → World → Prop) (hop : o.op = .call { callee := .value (.func 17), args := #[.tmp x], argTypes := #[26] }) (hv : a.eval (.tmp x) = u) (hc : Calls Tryd.prog 17 #[u] w post)
    (h : ∀ e w', post e w' → ∃ v, e = .returned v ∧ K (a.put o.dst v) w') : o.wp Tryd.prog a w K Q := by
  have hv' : a.tmps[x]?.getD undef = u := by rw [← hv]; simp [Act.eval]
  have e1 : ∀ args w, (callFunc 17 args).run Tryd.prog w = .ok (.enter 17 args) w := enters_of Tryd.func17 (by kernel_rfl) rfl
  unfold Oper.wp execOp
  simp only [hop, resolve, Act.eval]
  simp [hv', go_sem, e1]
  refine hc.mono ?_
  intro e w' hp
  obtain ⟨v, rfl, hk⟩ := h e w' hp
  exact hk
theorem op_turn (x : Nat) (j : Int) (rb : Nat) (post : Ending → World → Prop) (hop : o.op = .call { callee := .value (.tmp x), args := #[.const (.int .i64 j)], argTypes := #[3] }) (hv : a.eval (.tmp x) = .func (.func 16) #[] #[.pointer (some ⟨rb, 0, none⟩)])
    (hc : Calls Tryd.prog 16 #[.int .i64 j, .pointer (some ⟨rb, 0, none⟩)] w post) (h : ∀ e w', post e w' → ∃ v, e = .returned v ∧ K (a.put o.dst v) w') : o.wp Tryd.prog a w K Q := by
  have hv' : a.tmps[x]?.getD undef = .func (.func 16) #[] #[.pointer (some ⟨rb, 0, none⟩)] := by rw [← hv]; simp [Act.eval]
  have e1 : ∀ args w, (callFunc 16 args).run Tryd.prog w = .ok (.enter 16 args) w := enters_of Tryd.func16 (by kernel_rfl) rfl
  unfold Oper.wp execOp
  simp only [hop, resolve, Act.eval]
  simp [hv', go_sem, e1]
  refine hc.mono ?_
  intro e w' hp
  obtain ⟨v, rfl, hk⟩ := h e w' hp
  exact hk
theorem built_row (y : BV) (ok : Bool) : Tryd.prog.built 41 [(0, y.v), (1, .bool ok)] = some #[y.v, .bool ok] := by kernel_rfl
theorem op_row (x : Operand) (y : BV) (ok : Bool) (hop : o.op = .build 41 #[(0, x), (1, .const (.bool ok))]) (hv : a.eval x = y.v) (h : K (a.put o.dst (.agg #[y.v, .bool ok])) w) : o.wp Tryd.prog a w K Q := by
  have e : (#[(0, x), (1, Operand.const (.bool ok))].map fun (i, x) => (i, a.eval x)).toList = [(0, y.v), (1, .bool ok)] := by simp [hv]; rfl
  have hb := built_row y ok
  rw [← e] at hb
  unfold Oper.wp execOp
  simp only [hop, Sem.run_bind, run_build w _ _ _ hb, Result.andThen_ok]
  exact h
theorem op_cut (x : Nat) (y : BV) (n : Nat) (hop : o.op = .slice 26 (.tmp x) none (some (.const (.int .i64 (n : Int)))) none) (hv : a.eval (.tmp x) = y.v) (hb : Bs w y.a y.len y.cap y.zs) (hn : n ≤ y.cap) (h : K (a.put o.dst (.slice y.a n y.cap)) w) : o.wp Tryd.prog a w K Q := by
  obtain ⟨ya, yl, yc, yz⟩ := y
  have hr := run_cut_to (P := Tryd.prog) Tryd.underlying26 Tryd.size_u8 hb .i64 (n : Int) n rfl hn w
  simp only [BV.v] at hv h hr hn
  unfold Oper.wp execOp
  simp only [hop, hv]
  go_simp
  exact h
end

/-! ### What each value is -/
section
variable {B : Nat} {S S' : Blocks} {w w' : World} {v : Value} {zs : List Int}
/-- A row that is the region's own. -/
def OwnF (B : Nat) (S : Blocks) (v : Value) (w : World) (zs : List Int) : Prop := ∃ g c, v = .slice (some ⟨g, 0, none⟩) zs.length c ∧ OwnS 5 B w (some ⟨g, 0, none⟩) zs.length c zs ∧ S g
/-- A row that can be read: old, or the region's own. -/
structure SliX (B : Nat) (S : Blocks) (x : BV) (w : World) (zs : List Int) : Prop where
  zs : x.zs = zs
  bs : Bs w x.a x.len x.cap x.zs
  mem : 0 < x.len → ∀ p, x.a = some p → p.block < B ∨ S p.block
/-- A row of the table. -/
def AggF (B : Nat) (S : Blocks) (v : Value) (w : World) (zs : List Int) (ok : Bool) : Prop := ∃ x : BV, v = .agg #[x.v, .bool ok] ∧ SliX B S x w zs
theorem OwnF.keep (h : OwnF B S v w zs) (hk : ∀ g, g < B ∨ S g → w'.heap[g]? = w.heap[g]?) : OwnF B S v w' zs := by
  obtain ⟨g, c, rfl, ⟨h0, hl, h1, h2⟩, hS⟩ := h
  refine ⟨g, c, rfl, ⟨h0, hl, h1, ?_⟩, hS⟩
  rcases h2 with h3 | ⟨g', c', cur, h3, h4, h5, h6⟩
  · exact .inl h3
  · refine .inr ⟨g', c', cur, h3, h4, ?_, h6⟩
    simp only [Value.slice.injEq, Option.some.injEq, Addr.mk.injEq, true_and, and_true] at h3
    obtain ⟨rfl, _⟩ := h3
    rw [hk g (.inr hS)]
    exact h5
theorem SliX.keep {x : BV} (h : SliX B S x w zs) (hk : ∀ g, g < B ∨ S g → w'.heap[g]? = w.heap[g]?) : SliX B S x w' zs :=
  ⟨h.zs, h.bs.keepAt (fun h0 p hp => hk _ (h.mem h0 p hp)), h.mem⟩
theorem AggF.keep {ok : Bool} (h : AggF B S v w zs ok) (hk : ∀ g, g < B ∨ S g → w'.heap[g]? = w.heap[g]?) : AggF B S v w' zs ok := by
  obtain ⟨x, rfl, hx⟩ := h
  exact ⟨x, rfl, hx.keep hk⟩
theorem OwnF.bs (h : OwnF B S v w zs) : ∃ g c, v = .slice (some ⟨g, 0, none⟩) zs.length c ∧ Bs w (some ⟨g, 0, none⟩) zs.length c zs := by
  obtain ⟨g, c, rfl, ho, _⟩ := h
  exact ⟨g, c, rfl, ho.bs⟩
theorem OwnF.agg (h : OwnF B S v w zs) : ∃ x : BV, v = x.v ∧ SliX B S x w zs := by
  obtain ⟨g, c, rfl, ho, hS⟩ := h
  exact ⟨⟨some ⟨g, 0, none⟩, zs.length, c, zs⟩, rfl, ⟨rfl, ho.bs, fun _ p hp => by cases hp; exact .inr hS⟩⟩
theorem SliX.sub {x : BV} (h : SliX B S x w zs) (hS : ∀ g, S g → S' g) : SliX B S' x w zs := ⟨h.zs, h.bs, fun h0 p hp => (h.mem h0 p hp).imp id (hS _)⟩
theorem OwnF.sub (h : OwnF B S v w zs) (hS : ∀ g, S g → S' g) : OwnF B S' v w zs := by
  obtain ⟨g, c, rfl, ho, hg⟩ := h
  exact ⟨g, c, rfl, ho, hS g hg⟩
end
end Go.Proofs.YtgkhaedlfmloeaaDoor
