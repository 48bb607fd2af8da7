
/- Steps of a walk at whole arrays: a new one, a load, a store. No program is named here; no conditions but those that each line states. -/
import Derived.Test.YtgjffoeegnljlaaBytes
import Derived.Test.YtgjffoeegnljlaaText
namespace Go.Proofs.Ytgjffoeegnljlaa
open Go.RowKit
set_option maxRecDepth 20000

/-- ty is an array of n cells. -/
structure ArrT (P : Program) (ty : TypeId) (n : Nat) : Prop where
  und : ∃ m e, P.underlying ty = some (.array m e)
  size : (P.info? ty).map (·.size) = some n

section
variable {P : Program} {Q : Exit → Act → World → Prop} {ops : Array Oper} {rest : List Oper} {o : Oper} {a : Act} {w : World} {ty : TypeId} {n : Nat}

theorem wpList_newA (hw : Region.wanted o (yielded ops a.tmps) = true) (ty : TypeId) (hop : o.op = .alloc ty) (cells : Array Value) (hz : (P.info? ty).bind (·.zero) = some (.agg cells)) (N : Nat) (hN : w.heap.size = N)
    (h : wpList P ops Q rest (a.put o.dst (.pointer (some ⟨N, 0, none⟩))) (w.alloc (.cells cells ty))) : wpList P ops Q (o :: rest) a w := by
  subst hN
  refine wpList_step fun K hK => ?_
  rw [if_pos hw]
  obtain ⟨info, hi, hz'⟩ := Option.bind_eq_some_iff.1 hz
  unfold Oper.wp execOp
  simp [hop, Instr.alloc, zeroValue, typeInfo, hi, hz', newVar, newRow, Value.cells]
  exact hK _ _ h

theorem wpList_loadA (hA : ArrT P ty n) (hw : Region.wanted o (yielded ops a.tmps) = true) (x : Operand) (hop : o.op = .load ty x) (g : Nat) (hx : a.eval x = .pointer (some ⟨g, 0, none⟩)) (cs : Array Value)
    (hg : w.heap[g]? = some (.cells cs ty (0, 0))) (hn : cs.size = n) (h : wpList P ops Q rest (a.put o.dst (.agg cs)) w) : wpList P ops Q (o :: rest) a w := by
  refine wpList_step fun K hK => ?_
  rw [if_pos hw]
  obtain ⟨m, e, hu⟩ := hA.und
  exact wp_load_row _ x hop g hx _ _ _ _ hg hu rfl (by rw [hn, hA.size]) (hK _ _ h)

theorem wpList_putA (hA : ArrT P ty n) (hw : Region.wanted o (yielded ops a.tmps) = true) (x y : Operand) (hop : o.op = .store ty x y) (g : Nat) (cs : Array Value) (hx : a.eval x = .pointer (some ⟨g, 0, none⟩)) (hy : a.eval y = .agg cs)
    (old : Array Value) (hg : w.heap[g]? = some (.cells old ty (0, 0))) (hn : cs.size = n) (ho : old.size = n) (h1 : cs.all (·.oneCell') = true) (h : wpList P ops Q rest (a.put o.dst undef) (w.setRow g cs)) : wpList P ops Q (o :: rest) a w := by
  refine wpList_step fun K hK => ?_
  rw [if_pos hw]
  exact wp_store_row _ x y hop g _ hx hy _ _ hg (by rw [hn, hA.size]) (by rw [hn, ho]) h1 (hK _ _ h)
end
/-- A load of a whole array in a drawn region. -/
theorem wpOrd_loadA {P : Program} {Q : Exit → Act → World → Prop} {ty : TypeId} {n : Nat} {md : Region.Mode} {T U : World → Prop} {c : Nat} {l : List Oper} {k : Nat} {rest : List Nat} {o : Oper} {a : Act} {w : World} (hA : ArrT P ty n) (ho : l[k]? = some o) (hst : stepOp o = false) (x : Operand) (hop : o.op = .load ty x)
    (g : Nat) (cs : Array Value) (hx : a.eval x = .pointer (some ⟨g, 0, none⟩)) (hT : ∀ w, T w → w.heap[g]? = some (.cells cs ty (0, 0))) (hn : cs.size = n)
    (hQ : ∀ c a w, Q (.panic c) (a.put o.dst (.agg cs)) w → Q (.panic c) a w) (hw : Region.wanted o (yielded l.toArray a.tmps) = true)
    (h : wpOrd P md l.toArray Q T U c rest (a.put o.dst (.agg cs)) w) : wpOrd P md l.toArray Q T U c (k :: rest) a w := by
  obtain ⟨m, e, hu⟩ := hA.und
  exact wpOrd_quiet ho hst hQ hw (fun w hw' _ => by
    unfold execOp
    simp only [hop, hx, Instr.loadAt, Instr.sureAddr, Sem.run_bind, Sem.run_pure, Result.andThen_ok, run_loadVar_row w g _ _ _ _ _ (hT w hw') hu rfl (by rw [hn, hA.size])]) h

/-! ### Slices of arrays -/
section
variable {P : Program} {ty E : TypeId} {n : Nat}
theorem run_arr_from (hu : P.underlying ty = some (.array n E)) (hsz : (P.info? E).map (·.size) = some 1) (g : Nat) (k : IntKind) (i : Int) (l : Nat) (hi : i = l) (hl : l < n) (w : World) :
    (Instr.sliceAt ty (.pointer (some ⟨g, 0, none⟩)) (some (.int k i)) none none).run P w = .ok (.slice (some ⟨g, l, none⟩) (n - l) (n - l)) w := by
  subst hi
  obtain ⟨info, hq, hs⟩ := Option.map_eq_some_iff.1 hsz
  have e1 : P.elem ty = E := by simp [Program.elem, hu]
  have e2 : P.arrayLen ty = n := by simp [Program.arrayLen, hu]
  rw [run_sliceAt_array_l w ty ⟨g, 0, none⟩ (by rw [e1, e2]; exact hu) k l (by omega) (by rw [e2]; omega), e1, e2]
  simp [sizeOf, typeInfo, hq, hs, slicedAt, show ¬ n = l by omega, addr_add]
theorem run_arr_to (hu : P.underlying ty = some (.array n E)) (hsz : (P.info? E).map (·.size) = some 1) (g : Nat) (k : IntKind) (i : Int) (l : Nat) (hi : i = l) (hl : l ≤ n) (w : World) :
    (Instr.sliceAt ty (.pointer (some ⟨g, 0, none⟩)) none (some (.int k i)) none).run P w = .ok (.slice (some ⟨g, 0, none⟩) l n) w := by
  subst hi
  obtain ⟨info, hq, hs⟩ := Option.map_eq_some_iff.1 hsz
  have e1 : P.elem ty = E := by simp [Program.elem, hu]
  have e2 : P.arrayLen ty = n := by simp [Program.arrayLen, hu]
  rw [run_sliceAt_array_h w ty ⟨g, 0, none⟩ (by rw [e1, e2]; exact hu) k l (by omega) (by rw [e2]; omega), e1, e2]
  simp [sizeOf, typeInfo, hq, hs, slicedAt, addr_add]
theorem run_arr_mid (hu : P.underlying ty = some (.array n E)) (hsz : (P.info? E).map (·.size) = some 1) (g : Nat) (k k' : IntKind) (i j : Int) (l h : Nat) (hi : i = l) (hj : j = h) (hl : l ≤ h) (hh : h ≤ n) (hn : l < n) (w : World) :
    (Instr.sliceAt ty (.pointer (some ⟨g, 0, none⟩)) (some (.int k i)) (some (.int k' j)) none).run P w = .ok (.slice (some ⟨g, l, none⟩) (h - l) (n - l)) w := by
  subst hi
  subst hj
  obtain ⟨info, hq, hs⟩ := Option.map_eq_some_iff.1 hsz
  have e1 : P.elem ty = E := by simp [Program.elem, hu]
  have e2 : P.arrayLen ty = n := by simp [Program.arrayLen, hu]
  rw [run_sliceAt_array_lh w ty ⟨g, 0, none⟩ (by rw [e1, e2]; exact hu) k k' l h (by omega) (by omega) (by rw [e2]; omega), e1, e2]
  simp [sizeOf, typeInfo, hq, hs, slicedAt, show ¬ n = l by omega, addr_add]
end
theorem run_arr_all {P : Program} {ty E : TypeId} {n : Nat} (hu : P.underlying ty = some (.array n E)) (hsz : (P.info? E).map (·.size) = some 1) (g : Nat) (w : World) :
    (Instr.sliceAt ty (.pointer (some ⟨g, 0, none⟩)) none none none).run P w = .ok (.slice (some ⟨g, 0, none⟩) n n) w := by
  obtain ⟨info, hq, hs⟩ := Option.map_eq_some_iff.1 hsz
  have e1 : P.elem ty = E := by simp [Program.elem, hu]
  have e2 : P.arrayLen ty = n := by simp [Program.arrayLen, hu]
  rw [run_sliceAt_array_all w ty ⟨g, 0, none⟩ (by rw [e1, e2]; exact hu), e1, e2]
  simp [sizeOf, typeInfo, hq, hs, slicedAt, addr_add]
/-- A slice of a row of the call's own. -/
theorem OwnB.bsAt {E : TypeId} {w : World} {g : Nat} {zs : List Int} (h : OwnB E w g zs) (hz : IsBytes zs) (l n c : Nat) (hn : l + n ≤ zs.length) (hc : n ≤ c) (hl : c ≤ 9223372036854775807) : Bs w (some ⟨g, l, none⟩) n c ((zs.drop l).take n) := by
  refine ⟨by simp; omega, hc, hl, (hz.drop l).take n, .inr ⟨g, l, rfl, fun i hi => ?_⟩⟩
  rw [h.cell (l + i) (by omega)]
  congr 2
  simp [List.getD, hi]
#print axioms wpList_newA
#print axioms wpList_putA
end Go.Proofs.Ytgjffoeegnljlaa
