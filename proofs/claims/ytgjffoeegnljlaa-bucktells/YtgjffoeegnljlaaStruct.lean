
/- Structs in memory: whole ones loaded and stored, rows of them that are the call's own, and what 'append' does to such. No program is named here; no conditions but those that each line states. -/
import Derived.Test.YtgjffoeegnljlaaArm
import Derived.Test.YtgjffoeegnljlaaText
import Derived.Deep.MidRow
import Derived.Laws.Tables
import Derived.Maps.AppendAt
namespace Go.Proofs.Ytgjffoeegnljlaa
open Go.RowKit
set_option maxRecDepth 20000

theorem flat_get {α : Type} (m : Nat) (f : α → List Value) (hm : ∀ x, (f x).length = m) : ∀ (l : List α) (i j : Nat), j < m → (l.flatMap f)[m * i + j]? = l[i]?.bind fun x => (f x)[j]?
  | [], i, j, _ => by simp
  | x :: l, 0, j, h => by
    rw [List.flatMap_cons, Nat.mul_zero, Nat.zero_add, List.getElem?_append_left (by rw [hm]; exact h)]
    rfl
  | x :: l, i + 1, j, h => by
    have e : m * (i + 1) + j = (f x).length + (m * i + j) := by rw [hm, Nat.mul_add, Nat.mul_one]; omega
    rw [List.flatMap_cons, e, List.getElem?_append_right (by omega), Nat.add_sub_cancel_left, flat_get m f hm l i j h]
    rfl
theorem flat_length {α : Type} (m : Nat) (f : α → List Value) (hm : ∀ x, (f x).length = m) : ∀ l : List α, (l.flatMap f).length = l.length * m
  | [] => by simp
  | x :: l => by rw [List.flatMap_cons, List.length_append, hm, flat_length m f hm l, List.length_cons, Nat.add_mul, Nat.one_mul, Nat.add_comm]
theorem take_next {α : Type} (l : List α) (k : Nat) (x : α) (h : l[k]? = some x) : l.take (k + 1) = l.take k ++ [x] := by
  rw [List.take_add_one, h]; rfl
theorem ownsRow_form {w : World} {base : Nat} {e : TypeId} {size : Nat} {v : Value} {n : Nat} {xs : List Value} (h : w.ownsRow base e size v n xs) : ∃ a cap, v = .slice a n cap ∧ n ≤ cap ∧ cap ≤ maxLen ∧ (0 < n → ∃ gw, a = some ⟨gw, 0, none⟩ ∧ v.ownBlock = some gw) := by
  rcases h.2 with ⟨h1, h0⟩ | ⟨ga, ca, cur, h1, _, _, h4, h5, _⟩
  · subst h0
    exact ⟨none, 0, h1, Nat.le_refl _, by unfold maxLen; omega, fun h => absurd h (Nat.lt_irrefl _)⟩
  · exact ⟨_, ca, h1, h4, h5, fun _ => ⟨ga, rfl, by rw [h1]; rfl⟩⟩
/-- Record i of a row that is owned. -/
theorem ownsRow_rec {α : Type} {w : World} {base : Nat} {e : TypeId} {m : Nat} {v : Value} {l : List α} {f : α → List Value} (hm : ∀ x, (f x).length = m) (h : w.ownsRow base e m v l.length (l.flatMap f)) {gw : Nat} (hg : v.ownBlock = some gw) (i : Nat) (x : α) (hx : l[i]? = some x) : w.rangeAt gw (m * i) (f x) := by
  intro j u hj
  have hjl : j < m := by rw [← hm x]; exact (List.getElem?_eq_some_iff.1 hj).1
  have := h.cells hg (m * i + j) u (by rw [flat_get m f hm l i j hjl, hx]; exact hj)
  rw [addr_add, Nat.zero_add] at this
  exact this

/-- A store of a whole struct into its own block. -/
theorem wpList_putS {P : Program} {Q : Exit → Act → World → Prop} {ops : Array Oper} {rest : List Oper} {o : Oper} {a : Act} {w : World} {ty : TypeId} {n : Nat} (hi : (P.info? ty).map (·.size) = some n) (hw : Region.wanted o (yielded ops a.tmps) = true) (x y : Operand) (hop : o.op = .store ty x y) (g : Nat) (cs : Array Value) (hx : a.eval x = .pointer (some ⟨g, 0, none⟩)) (hy : a.eval y = .agg cs)
    (old : Array Value) (hg : w.heap[g]? = some (.cells old ty (0, 0))) (hn : cs.size = n) (ho : old.size = n) (h1 : cs.all (·.oneCell') = true) (h : wpList P ops Q rest (a.put o.dst undef) (w.setRow g cs)) : wpList P ops Q (o :: rest) a w := by
  refine wpList_step fun K hK => ?_
  rw [if_pos hw]
  exact wp_store_row _ x y hop g _ hx hy _ _ hg (by rw [hn, hi]) (by rw [hn, ho]) h1 (hK _ _ h)

/-- A load of a whole struct in a drawn region. -/
theorem wpOrd_loadM {P : Program} {Q : Exit → Act → World → Prop} {ty : TypeId} {md : Region.Mode} {T U : World → Prop} {c : Nat} {l : List Oper} {k : Nat} {rest : List Nat} {o : Oper} {a : Act} {w : World} (d : TypeDesc) (hu : P.underlying ty = some d) (hd : d.isRow = true) (ho : l[k]? = some o) (hst : stepOp o = false) (x : Operand) (hop : o.op = .load ty x)
    (b off : Nat) (cs : List Value) (hx : a.eval x = .pointer (some ⟨b, off, none⟩)) (hT : ∀ w, T w → w.rangeAt b off cs) (hn : (P.info? ty).map (·.size) = some cs.length)
    (hQ : ∀ c a w, Q (.panic c) (a.put o.dst (.agg cs.toArray)) w → Q (.panic c) a w) (hw : Region.wanted o (yielded l.toArray a.tmps) = true)
    (h : wpOrd P md l.toArray Q T U c rest (a.put o.dst (.agg cs.toArray)) w) : wpOrd P md l.toArray Q T U c (k :: rest) a w :=
  wpOrd_quiet ho hst hQ hw (fun w hw' _ => by
    unfold execOp
    simp only [hop, hx, Instr.loadAt, Instr.sureAddr, Sem.run_bind, Sem.run_pure, Result.andThen_ok, run_loadVar_mid w b off ty cs d (hT w hw') hu hd hn]) h

/-- 'append(v, src...)' of m records of sz cells, read at ad, onto a row of the call's own. -/
theorem run_append_recs {P : Program} {T E : TypeId} (sz by_ : Nat) (z : Value) (hT : P.underlying T = some (.slice E)) (hinfo : (P.info? E).map (fun i => (i.zero, i.size, i.bytes)) = some (some z, sz, by_)) (hzs : z.cells.size = sz) (h0 : 0 < sz) (hby : by_ ≤ 64)
    (ty : TypeId) (base : Nat) (w : World) (v : Value) (n : Nat) (xs : List Value) (hown : w.ownsRow base E sz v n xs) (ad : Addr) (m c : Nat) (news : List Value) (hl : news.length = m * sz) (hb : ∀ j u, news[j]? = some u → w.cell? (ad.add j) = some u) (h1 : ∀ u ∈ news, u.oneCell' = true) (hlim : n + m ≤ 1000000) (hbase : base ≤ w.heap.size) :
    ∃ a' cap' w', (Builtin.append_ #[T, T] ty #[v, .slice (some ad) m c]).run P w = .ok (.slice a' (n + m) cap') w' ∧ w'.ownsRow base E sz (.slice a' (n + m) cap') (n + m) (xs ++ news) ∧ w.grownBy w' v.ownBlock ∧ ((Value.slice a' (n + m) cap').ownBlock = v.ownBlock ∨ (Value.slice a' (n + m) cap').ownBlock = some w.heap.size) := by
  obtain ⟨i, hi, hz⟩ := Option.map_eq_some_iff.1 hinfo
  simp only [Prod.mk.injEq] at hz
  obtain ⟨hz, hsz, hbi⟩ := hz
  obtain ⟨v', w', hr, h2, h3, _, h5⟩ := run_append_own_at (P := P) w base T ty E i z sz by_ hT hi hz hsz hbi hzs h0 v n xs hown ad m c news hl hb h1
    (by unfold maxLen; omega) (Nat.le_trans (Nat.mul_le_mul (show n + m ≤ 1000000 by omega) hby) (by decide)) hbase
  obtain ⟨a', cap', rfl, -⟩ := ownsRow_form h2
  exact ⟨a', cap', w', hr, h2, h3, h5⟩
#print axioms run_append_recs
end Go.Proofs.Ytgjffoeegnljlaa
