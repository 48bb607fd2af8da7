/- Loads of whole arrays in regions that draw their order; the key that a call was handed, in the first block that it made; rows that grow. No conditions but those that each line states. -/
import Derived.Test.YthhaeiafgloacaaDoorFork
import Derived.Test.YthhaeiafgloacaaDoorSHead
import Derived.Test.YthhaeiafgloacaaDoorCRefX
namespace Go.Proofs.YthhaeiafgloacaaDoor
open Go.RowKit

section
variable {P : Program} {Q : Exit → Act → World → Prop} {ty : TypeId} {n : Nat} {md : Region.Mode} {R : World → World → Prop} {l : List Oper} {k : Nat} {rest : List Nat} {o : Oper} {a : Act} {w : World}
theorem exec_loadA (hA : ArrT P ty n) (x : Operand) (hop : o.op = .load ty x) (g : Nat) (cs : Array Value) (hx : a.eval x = .pointer (some ⟨g, 0, none⟩)) (hT : w.heap[g]? = some (.cells cs ty (0, 0))) (hn : cs.size = n) :
    (execOp a.eval o).run P w = .ok (.value (.agg cs)) w := by
  obtain ⟨m, e, hu⟩ := hA.und
  unfold execOp
  simp only [hop, hx, Instr.loadAt, Instr.sureAddr, Sem.run_bind, Sem.run_pure, Result.andThen_ok, run_loadVar_row w g _ _ _ _ _ hT hu rfl (by rw [hn, hA.size])]
theorem wpRel_loadA (hA : ArrT P ty n) (ho : l[k]? = some o) (hst : stepOp o = false) (x : Operand) (hop : o.op = .load ty x)
    (g : Nat) (cs : Array Value) (hx : a.eval x = .pointer (some ⟨g, 0, none⟩)) (hT : ∀ w', R w w' → w'.heap[g]? = some (.cells cs ty (0, 0))) (hn : cs.size = n)
    (hQ : ∀ c a w, Q (.panic c) (a.put o.dst (.agg cs)) w → Q (.panic c) a w) (hw : Region.wanted o (yielded l.toArray a.tmps) = true)
    (h : wpRel P md l.toArray Q R rest (a.put o.dst (.agg cs)) w) : wpRel P md l.toArray Q R (k :: rest) a w :=
  wpRel_quiet ho hst hQ hw (fun w' hw' => exec_loadA hA x hop g cs hx (hT w' hw') hn) h
theorem wpPre_loadA {K : Act → World → Prop} (hA : ArrT P ty n) (ho : l[k]? = some o) (x : Operand) (hop : o.op = .load ty x)
    (g : Nat) (cs : Array Value) (hx : a.eval x = .pointer (some ⟨g, 0, none⟩)) (hT : ∀ w', R w w' → w'.heap[g]? = some (.cells cs ty (0, 0))) (hn : cs.size = n)
    (hQ : ∀ c a w, Q (.panic c) (a.put o.dst (.agg cs)) w → Q (.panic c) a w) (hw : Region.wanted o (yielded l.toArray a.tmps) = true)
    (h : wpPre P l.toArray Q R K rest (a.put o.dst (.agg cs)) w) : wpPre P l.toArray Q R K (k :: rest) a w :=
  wpPre_quiet ho hQ hw (fun w' hw' => exec_loadA hA x hop g cs hx (hT w' hw') hn) h
end

/-- The key of the call, in the first block that it made. -/
structure KK (w W : World) (key : List Int) : Prop where
  kk : OwnB 22 W w.heap.size key
  bel : Below w.heap.size w W
  gl : Glob W
theorem KK.start (w : World) (key : List Int) (hg : Glob w) : KK w (w.alloc (Obj.cells (bV key) 22)) key := by
  have hb0 := below_alloc (Below.refl w.heap.size w) (Obj.cells (bV key) 22)
  exact ⟨heap_alloc_new w _, hb0, hg.below hb0 hg.lt⟩
theorem KK.later {w W W' : World} {key : List Int} (h : KK w W key) (hb : Below W.heap.size W W') : KK w W' key :=
  ⟨h.kk.below hb, h.bel.trans (hb.mono h.bel.size), h.gl.below hb h.gl.lt⟩
theorem KK.drew {w W : World} {key : List Int} (h : KK w W key) : KK w W.drew key := ⟨h.kk, h.bel.drew, h.gl⟩
theorem KK.alloc {w W : World} {key : List Int} (h : KK w W key) (o : Obj) : KK w (W.alloc o) key := h.later (below_alloc (Below.refl _ _) o)
theorem KK.lt {w W : World} {key : List Int} (h : KK w W key) : w.heap.size < W.heap.size := h.kk.lt
theorem KK.only {w W W' : World} {key : List Int} {g : Nat} (h : KK w W key) (ho : OnlyAt g W W') (hg : w.heap.size < g) : KK w W' key :=
  ⟨ho.own h.kk (by omega), ho.below h.bel (by omega), rangeAt_keep h.gl (ho.block _ (by omega))⟩
theorem KK.setRow {w W : World} {key : List Int} {g : Nat} (h : KK w W key) (hg : w.heap.size < g) (cs : Array Value) : KK w (W.setRow g cs) key := h.only (OnlyAt.setRow g W cs) hg

/-- A new array of twelve bytes, written whole. -/
theorem new12 (w : World) (zs : List Int) : OwnB 35 ((w.alloc (Obj.cells (bV (zL 12)) 35)).setRow w.heap.size (bV zs)) w.heap.size zs ∧
    Below w.heap.size w ((w.alloc (Obj.cells (bV (zL 12)) 35)).setRow w.heap.size (bV zs)) ∧ ((w.alloc (Obj.cells (bV (zL 12)) 35)).setRow w.heap.size (bV zs)).heap.size = w.heap.size + 1 :=
  ⟨setRow_heap _ _ _ _ _ _ (heap_alloc_new _ _), Below.setRow (below_alloc (Below.refl _ _) _) (Nat.le_refl _) _, by rw [(OnlyAt.setRow w.heap.size _ _).size, size_alloc]⟩
theorem bV_head (boot seq : Int) : (bV (headL boot seq)).size = 12 := by rw [bV_size, headL_length]

/-- 'append([]byte{}, src...)': the row just laid has no room. -/
theorem run_append_fresh (w : World) (sp : Option Addr) (sLen sCap : Nat) (zs : List Int) (hs : Bs w sp sLen sCap zs) (hlim : sLen ≤ 70368744177664) :
    ∃ a' cap' w', (Builtin.append_ #[25, 25] 25 #[.slice (some ⟨w.heap.size, 0, none⟩) 0 0, .slice sp sLen sCap]).run Tryd.prog (w.alloc (Obj.cells #[] 5)) = .ok (.slice a' sLen cap') w' ∧ OwnS 5 w.heap.size w' a' sLen cap' zs ∧ Below w.heap.size w w' := by
  obtain ⟨a4, c4, w4, hr4, ho4, hg4, _⟩ := run_append_bytes (P := Tryd.prog) Tryd.underlying25 Tryd.info_u8 25 w.heap.size (w.alloc (Obj.cells #[] 5)) (some ⟨w.heap.size, 0, none⟩) 0 0 [] (OwnB.owns (E := 5) (heap_alloc_new w (Obj.cells #[] 5)) IsBytes.nil rfl (by omega) (Nat.le_refl _)) _ sLen sCap _ (hs.below (below_alloc (Below.refl _ _) _)) (by omega) (by simp)
  have hb4 : Below w.heap.size w w4 := ((Below.refl _ _).alloc (Nat.le_refl _) _).grown hg4 (by simp) (by intro k hk; simp [Value.ownBlock] at hk; omega)
  rw [List.nil_append, Nat.zero_add] at ho4
  rw [Nat.zero_add] at hr4
  exact ⟨a4, c4, w4, hr4, ho4, hb4⟩
/-- 'append(v, src...)' where v is the call's own, laid since W. -/
theorem run_append_more (base : Nat) (W w : World) (a : Option Addr) (n cap : Nat) (xs : List Int) (hown : OwnS 5 base w a n cap xs) (hW : Below base W w) (hbW : base ≤ W.heap.size) (sp : Option Addr) (sLen sCap : Nat) (zs : List Int) (hs : Bs w sp sLen sCap zs) (hlim : n + sLen ≤ 70368744177664) :
    ∃ a' cap' w', (Builtin.append_ #[25, 25] 25 #[.slice a n cap, .slice sp sLen sCap]).run Tryd.prog w = .ok (.slice a' (n + sLen) cap') w' ∧ OwnS 5 base w' a' (n + sLen) cap' (xs ++ zs) ∧ Below base W w' := by
  have hbw : base ≤ w.heap.size := Nat.le_trans hbW hW.size
  obtain ⟨a4, c4, w4, hr4, ho4, hg4, _⟩ := run_append_bytes (P := Tryd.prog) Tryd.underlying25 Tryd.info_u8 25 base w a n cap xs hown sp sLen sCap zs hs hlim hbw
  exact ⟨a4, c4, w4, hr4, ho4, hW.grown hg4 hbw (fun k hk => (hown.2.2.lt k hk).1)⟩
#print axioms run_append_fresh
end Go.Proofs.YthhaeiafgloacaaDoor
