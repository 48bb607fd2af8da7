
/- Rows that grow by 'append', laid since; that they are not frozen. No conditions but those that each line states. -/
import Derived.Test.YtgjffoeegnljlaaU8
import Derived.Test.YtgjffoeegnljlaaAppend
import Derived.Test.YtgjffoeegnljlaaBytes
import Derived.Deep.Onto
namespace Go.Proofs.Ytgjffoeegnljlaa
open Go.RowKit
set_option maxRecDepth 20000

theorem OwnB.froz {E : TypeId} {w : World} {g : Nat} {zs : List Int} (h : OwnB E w g zs) (j : Nat) : w.frozen? ⟨g, j, none⟩ = false := frozen_of_row w g j _ _ h

theorem OwnS.below {E : TypeId} {base : Nat} {w w' : World} {a : Option Addr} {n cap : Nat} {xs : List Int} (h : OwnS E base w a n cap xs) (hb : Below w.heap.size w w') : OwnS E base w' a n cap xs := by
  obtain ⟨h0, hl, h1, h2⟩ := h
  refine ⟨h0, hl, h1, ?_⟩
  rcases h2 with h3 | ⟨g, c, cur, h3, h4, h5, h6⟩
  · exact .inl h3
  · exact .inr ⟨g, c, cur, h3, h4, (hb.block g (Array.getElem?_eq_some_iff.1 h5).1).trans h5, h6⟩
theorem made_zB (w : World) (n : Nat) (E : TypeId) : OwnB E (w.alloc (Obj.cells (madeCells #[Value.int .u8 0] n) E)) w.heap.size (zL n) :=
  OwnB.of_rowIs (World.rowIs_made w (.int .u8 0) n E) _ (zL_length _) fun i _ => by rw [zL_getD]
theorem OwnS.mono {E : TypeId} {base b : Nat} {w : World} {g n cap : Nat} {xs : List Int} (h : OwnS E base w (some ⟨g, 0, none⟩) n cap xs) (hb : b ≤ base) : OwnS E b w (some ⟨g, 0, none⟩) n cap xs :=
  ⟨h.1, h.2.1, World.ownsRow.mono h.2.2 hb⟩
/-- 'append([]byte{}, src...)': the row just laid has no room. -/
theorem run_append_fresh (w : World) (sp : Option Addr) (sLen sCap : Nat) (zs : List Int) (hs : Bs w sp sLen sCap zs) (hlim : sLen ≤ 140737488355328) :
    ∃ a' cap' w', (Builtin.append_ #[22, 22] 22 #[.slice (some ⟨w.heap.size, 0, none⟩) 0 0, .slice sp sLen sCap]).run Try.prog (w.alloc (Obj.cells #[] 5)) = .ok (.slice a' sLen cap') w' ∧ OwnS 5 w.heap.size w' a' sLen cap' zs ∧ Below w.heap.size w w' := by
  obtain ⟨a4, c4, w4, hr4, ho4, hg4, _⟩ := run_append_bytes (P := Try.prog) Try.underlying22 Try.info_u8 22 w.heap.size (w.alloc (Obj.cells #[] 5)) (some ⟨w.heap.size, 0, none⟩) 0 0 [] (OwnB.owns (E := 5) (heap_alloc_new w (Obj.cells #[] 5)) IsBytes.nil rfl (by omega) (Nat.le_refl _)) _ sLen sCap _ (hs.below (below_alloc (Below.refl _ _) _)) (by omega) (by simp)
  have hb4 : Below w.heap.size w w4 := ((Below.refl _ _).alloc (Nat.le_refl _) _).grown hg4 (by simp) (by intro k hk; simp [Value.ownBlock] at hk; omega)
  rw [List.nil_append, Nat.zero_add] at ho4
  rw [Nat.zero_add] at hr4
  exact ⟨a4, c4, w4, hr4, ho4, hb4⟩
/-- 'append(v, src...)' where v is the call's own, laid since W. -/
theorem run_append_more (base : Nat) (W w : World) (a : Option Addr) (n cap : Nat) (xs : List Int) (hown : OwnS 5 base w a n cap xs) (hW : Below base W w) (hbW : base ≤ W.heap.size) (sp : Option Addr) (sLen sCap : Nat) (zs : List Int) (hs : Bs w sp sLen sCap zs) (hlim : n + sLen ≤ 140737488355328) :
    ∃ a' cap' w', (Builtin.append_ #[22, 22] 22 #[.slice a n cap, .slice sp sLen sCap]).run Try.prog w = .ok (.slice a' (n + sLen) cap') w' ∧ OwnS 5 base w' a' (n + sLen) cap' (xs ++ zs) ∧ Below base W w' := by
  have hbw : base ≤ w.heap.size := Nat.le_trans hbW hW.size
  obtain ⟨a4, c4, w4, hr4, ho4, hg4, _⟩ := run_append_bytes (P := Try.prog) Try.underlying22 Try.info_u8 22 base w a n cap xs hown sp sLen sCap zs hs hlim hbw
  exact ⟨a4, c4, w4, hr4, ho4, hW.grown hg4 hbw (fun k hk => (hown.2.2.lt k hk).1)⟩
/-- 'make([]byte, n)'. -/
theorem wp_make_bytes {w : World} {o : Oper} {a : Act} {K : Act → World → Prop} {Q : Exit → Act → World → Prop} (n : Nat) (hn : n ≤ 281474976710656) (x y : Operand) (ho : o.op = .makeSlice 22 x y) (hx : a.eval x = .int .i64 (n : Int)) (hy : a.eval y = .int .i64 (n : Int))
    (h : K (a.put o.dst (.slice (some ⟨w.heap.size, 0, none⟩) n n)) (w.alloc (.cells (madeCells #[.int .u8 0] n) 5))) : o.wp Try.prog a w K Q := by
  unfold Oper.wp execOp
  simp only [ho, hx, hy, Sem.run_bind, run_make_row' (P := Try.prog) 22 5 (.int .u8 0) 1 Try.underlying22 Try.info_u8 rfl .i64 .i64 n (by omega) (by omega), Result.andThen_ok]
  exact h
end Go.Proofs.Ytgjffoeegnljlaa
