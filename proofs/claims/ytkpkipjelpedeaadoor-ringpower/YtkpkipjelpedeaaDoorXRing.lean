
/- Several texts in one, in the order in which they lean on each other; what each says stands at its head. No conditions but those that each line states. -/
import Derived.Test.YtkpkipjelpedeaaDoorXBase
import Derived.Test.YtkpkipjelpedeaaDoorXDisk
import Derived.Test.YtkpkipjelpedeaaDoorXSupr
import Derived.Test.YtkpkipjelpedeaaDoorXLe
/- What 'append' does to a row of the call's own whose elements are one cell each (slices, pointers), one element more; rows of slices that a caller reads. No program is named here; no conditions but those that each line states. -/
namespace Go.Proofs.YtkpkipjelpedeaaDoor
open Go.RowKit
set_option maxRecDepth 20000

/-- The slice '.slice a n cap' is one of the call's own (its block is from 'base' on), and holds xs. -/
def OwnR (E : TypeId) (base : Nat) (w : World) (a : Option Addr) (n cap : Nat) (xs : List Value) : Prop := xs.length = n ∧ w.ownsRow base E 1 (.slice a n cap) n xs
theorem OwnR.nil (E : TypeId) (base : Nat) (w : World) : OwnR E base w none 0 0 [] := ⟨rfl, World.ownsRow_nil _ _ _ _⟩
theorem OwnR.alloc {E : TypeId} {base : Nat} {w : World} {a : Option Addr} {n cap : Nat} {xs : List Value} (h : OwnR E base w a n cap xs) (o : Obj) : OwnR E base (w.alloc o) a n cap xs := ⟨h.1, h.2.alloc o⟩
theorem OwnR.form {E : TypeId} {base : Nat} {w : World} {a : Option Addr} {n cap : Nat} {xs : List Value} (h : OwnR E base w a n cap xs) (hn : 0 < n) : ∃ g, a = some ⟨g, 0, none⟩ ∧ base ≤ g ∧ g < w.heap.size := by
  rcases h.2.2 with ⟨_, h0⟩ | ⟨g, c, cur, h3, hb, hg, _⟩
  · omega
  · simp only [Value.slice.injEq, true_and] at h3
    exact ⟨g, h3.1, hb, (Array.getElem?_eq_some_iff.1 hg).1⟩
theorem OwnR.le_cap {E : TypeId} {base : Nat} {w : World} {a : Option Addr} {n cap : Nat} {xs : List Value} (h : OwnR E base w a n cap xs) : n ≤ cap ∧ cap ≤ 9223372036854775807 := by
  rcases h.2.2 with ⟨h3, h0⟩ | ⟨g, c, cur, h3, _, _, h6, h7, _⟩
  · subst h0
    simp only [Value.slice.injEq, true_and] at h3
    omega
  · simp only [Value.slice.injEq, true_and] at h3
    unfold maxLen at h7
    omega
theorem OwnR.cell {E : TypeId} {base : Nat} {w : World} {g n cap : Nat} {xs : List Value} (h : OwnR E base w (some ⟨g, 0, none⟩) n cap xs) (i : Nat) (hi : i < n) : w.cell? ⟨g, i, none⟩ = xs[i]? := h.2.cellAt i (by omega)
theorem OwnR.keep {E : TypeId} {base : Nat} {w w' : World} {a : Option Addr} {n cap : Nat} {xs : List Value} (h : OwnR E base w a n cap xs) (hb : ∀ g, base ≤ g → g < w.heap.size → w'.heap[g]? = w.heap[g]?) : OwnR E base w' a n cap xs := by
  refine ⟨h.1, h.2.1, ?_⟩
  rcases h.2.2 with h0 | ⟨g, c, cur, h3, h4, h5, h6⟩
  · exact .inl h0
  · exact .inr ⟨g, c, cur, h3, h4, by rw [hb g h4 (Array.getElem?_eq_some_iff.1 h5).1]; exact h5, h6⟩
theorem OwnR.below {E : TypeId} {base : Nat} {w w' : World} {a : Option Addr} {n cap : Nat} {xs : List Value} (h : OwnR E base w a n cap xs) (hb : Below w.heap.size w w') : OwnR E base w' a n cap xs := h.keep fun g _ h2 => hb.block g h2
theorem OwnR.drew {E : TypeId} {base : Nat} {w : World} {a : Option Addr} {n cap : Nat} {xs : List Value} (h : OwnR E base w a n cap xs) : OwnR E base w.drew a n cap xs := h
/-- One element more behind a row of the call's own: the element is laid in a block of its own first. What the row's block was before stays the row's, or it moves to a new one. -/
theorem run_append_val {P : Program} {T E : TypeId} (z : Value) (by_ : Nat) (hT : P.underlying T = some (.slice E)) (hinfo : (P.info? E).map (fun i => (i.zero, i.size, i.bytes)) = some (some z, 1, by_)) (hz1 : z.cells.size = 1) (hby8 : by_ ≤ 64) (ty : TypeId) (base : Nat) (w : World) (a : Option Addr) (n cap : Nat) (xs : List Value) (x : Value)
    (hown : OwnR E base w a n cap xs) (hx : x.oneCell' = true) (hlim : n + 1 ≤ 1099511627776) (hbase : base ≤ w.heap.size) :
    ∃ a' cap' w', (Builtin.append_ #[T, T] ty #[.slice a n cap, .slice (some ⟨w.heap.size, 0, none⟩) 1 1]).run P (w.alloc (.cells #[x] E)) = .ok (.slice a' (n + 1) cap') w' ∧ OwnR E base w' a' (n + 1) cap' (xs ++ [x]) ∧ (w.alloc (.cells #[x] E)).grownBy w' (Value.slice a n cap).ownBlock ∧ ((Value.slice a' (n + 1) cap').ownBlock = (Value.slice a n cap).ownBlock ∨ (Value.slice a' (n + 1) cap').ownBlock = some (w.heap.size + 1)) := by
  obtain ⟨i, hi, hz⟩ := Option.map_eq_some_iff.1 hinfo
  simp only [Prod.mk.injEq] at hz
  obtain ⟨hz, hsz, hby⟩ := hz
  have hbase' : base ≤ (w.alloc (.cells #[x] E)).heap.size := by simp; omega
  have hcell : (w.alloc (.cells #[x] E)).cell? ⟨w.heap.size, 0, none⟩ = some x := by
    unfold World.cell?
    rw [heap_alloc_new]
    rfl
  have hbytes : (n + 1) * by_ ≤ 140737488355328 := Nat.le_trans (Nat.mul_le_mul hlim hby8) (by decide)
  obtain ⟨v', w', hr, h2, h3, _, h5⟩ := run_append_own_at (P := P) (w.alloc (.cells #[x] E)) base T ty E i z 1 by_ hT hi hz hsz hby hz1 (by decide) (.slice a n cap) n xs (hown.alloc _).2 ⟨w.heap.size, 0, none⟩ 1 1 [x] (by simp)
    (fun j u hj => by
      rcases j with _ | j
      · simp only [List.getElem?_cons_zero, Option.some.injEq] at hj
        subst hj
        rw [addr_add]
        exact hcell
      · simp at hj)
    (by intro u hu; rw [List.mem_singleton] at hu; subst hu; exact hx) (by unfold maxLen; omega) hbytes hbase'
  have hform : ∃ a' cap', v' = .slice a' (n + 1) cap' := by
    rcases h2.2 with ⟨h, h0⟩ | ⟨g, c, cur, h, _⟩
    · exact ⟨none, 0, by rw [h, h0]⟩
    · exact ⟨_, _, h⟩
  obtain ⟨a', cap', rfl⟩ := hform
  exact ⟨a', cap', w', hr, ⟨by simp [hown.1], h2⟩, h3, by rw [size_alloc] at h5; exact h5⟩
/-- The same, from the caller's side: nothing older than base is turned. -/
theorem run_append_row {P : Program} {T E : TypeId} (z : Value) (by_ : Nat) (hT : P.underlying T = some (.slice E)) (hinfo : (P.info? E).map (fun i => (i.zero, i.size, i.bytes)) = some (some z, 1, by_)) (hz1 : z.cells.size = 1) (hby8 : by_ ≤ 64) (ty : TypeId) (base : Nat) (w0 w : World) (a : Option Addr) (n cap : Nat) (xs : List Value) (x : Value)
    (hown : OwnR E base w a n cap xs) (hx : x.oneCell' = true) (hlim : n + 1 ≤ 1099511627776) (hbase : base ≤ w.heap.size) (hb : Below base w0 w) :
    ∃ a' cap' w', (Builtin.append_ #[T, T] ty #[.slice a n cap, .slice (some ⟨w.heap.size, 0, none⟩) 1 1]).run P (w.alloc (.cells #[x] E)) = .ok (.slice a' (n + 1) cap') w' ∧ OwnR E base w' a' (n + 1) cap' (xs ++ [x]) ∧ Below base w0 w' ∧ base ≤ w'.heap.size := by
  obtain ⟨a', cap', w', hr, ho, h3, -⟩ := run_append_val z by_ hT hinfo hz1 hby8 ty base w a n cap xs x hown hx hlim hbase
  have hbase' : base ≤ (w.alloc (.cells #[x] E)).heap.size := by simp; omega
  exact ⟨a', cap', w', hr, ho, (hb.alloc hbase _).grown h3 hbase' (fun j hj => (hown.2.lt j hj).1), Nat.le_trans hbase' h3.size⟩
theorem info_rows : (Tryd.prog.info? 36).map (fun i => (i.zero, i.size, i.bytes)) = some (some (.slice none 0 0), 1, 24) := by kernel_rfl
/-- A row of slices of bytes that a caller can read. -/
theorem OwnR.bbs {base : Nat} {w : World} {a : Option Addr} {n cap : Nat} {l : List BV} (h : OwnR 36 base w a n cap (l.map BV.v)) (hl : ∀ x ∈ l, Bs w x.a x.len x.cap x.zs) : BBs w a n cap (fun i => l.getD i BV.nil) := by
  obtain ⟨h1, h2⟩ := h.le_cap
  have hn : l.length = n := by have := h.1; rwa [List.length_map] at this
  refine ⟨h1, h2, fun i hi => ?_⟩
  obtain ⟨g, rfl, _, _⟩ := h.form (by omega)
  have hi' : i < l.length := by omega
  refine ⟨⟨g, 0, rfl, ?_⟩, ?_⟩
  · rw [Nat.zero_add, h.cell i hi]
    simp [hi', List.getD]
  · have : l.getD i BV.nil = l[i] := by simp [List.getD, hi']
    rw [this]
    exact hl _ (List.getElem_mem hi')
#print axioms run_append_row
#print axioms OwnR.bbs
end Go.Proofs.YtkpkipjelpedeaaDoor

/- A log on a device: what stands ahead of a rec, what is loaded; devices that were only read; rows of recs beside a device. No function is named here; no conditions but those that each line states. -/
namespace Go.Proofs.YtkpkipjelpedeaaDoor
open Go.RowKit
set_option maxRecDepth 20000

/-! ### What stands ahead of a rec -/
def headR (e j : Int) : List Int := putL e 8 ++ putL j 4
theorem headR_length (e j : Int) : (headR e j).length = 12 := by simp [headR, length_putL]
theorem headR_bytes (e j : Int) : IsBytes (headR e j) := (putL_bytes _ _).append (putL_bytes _ _)
theorem leNum_four (n : Int) (h : 0 ≤ n ∧ n < 4294967296) : leNum (putL n 4) = n := by
  rw [leNum_putL]
  have : (256 : Int) ^ 4 = 4294967296 := by decide
  rw [this]
  omega
theorem headR_inj {e e' j j' : Int} (he : 0 ≤ e ∧ e < 18446744073709551616) (he' : 0 ≤ e' ∧ e' < 18446744073709551616) (hj : 0 ≤ j ∧ j < 4294967296) (hj' : 0 ≤ j' ∧ j' < 4294967296) (h : headR e j = headR e' j') : e = e' ∧ j = j' := by
  have h1 : putL e 8 = putL e' 8 := by
    have := congrArg (List.take 8) h
    unfold headR at this
    rwa [List.take_left' (length_putL _ _), List.take_left' (length_putL _ _)] at this
  have h2 : putL j 4 = putL j' 4 := by
    have := congrArg (List.drop 8) h
    unfold headR at this
    rwa [List.drop_left' (length_putL _ _), List.drop_left' (length_putL _ _)] at this
  constructor
  · rw [← leNum_all e he.1 he.2, h1, leNum_all e' he'.1 he'.2]
  · rw [← leNum_four j hj, h2, leNum_four j' hj']
/-- Whether a text is a rec's, of an epoch, in a place. -/
def okR (us : List Int) (e j : Int) : Bool := decide (us.take 12 = headR e j)
theorem take_headR (e j : Int) (zs : List Int) : (headR e j ++ zs).take 12 = headR e j := List.take_left' (headR_length e j)
theorem drop_headR (e j : Int) (zs : List Int) : (headR e j ++ zs).drop 12 = zs := List.drop_left' (headR_length e j)
theorem okR_yes (e j : Int) (zs : List Int) : okR (headR e j ++ zs) e j = true := by
  unfold okR
  rw [take_headR, decide_eq_true rfl]
theorem okR_nil (e j : Int) : okR [] e j = false := by
  unfold okR
  rw [decide_eq_false]
  intro h
  have := congrArg List.length h
  rw [headR_length] at this
  cases this
theorem okR_short {us : List Int} (e j : Int) (h : us.length < 12) : okR us e j = false := by
  unfold okR
  rw [decide_eq_false]
  intro h1
  have := congrArg List.length h1
  rw [headR_length, List.length_take] at this
  omega
theorem okR_other {e e' j j' : Int} (zs : List Int) (he : 0 ≤ e ∧ e < 18446744073709551616) (he' : 0 ≤ e' ∧ e' < 18446744073709551616) (hj : 0 ≤ j ∧ j < 4294967296) (hj' : 0 ≤ j' ∧ j' < 4294967296) (h : ¬ (e' = e ∧ j' = j)) : okR (headR e' j' ++ zs) e j = false := by
  unfold okR
  rw [take_headR, decide_eq_false]
  intro h1
  exact h (headR_inj he' he hj' hj h1)
/-- What is not opened tells nothing. -/
theorem openR_closed {key zs : List Int} (h : openB key zs = false) : openR key zs = [] := by
  unfold openB at h
  unfold openR
  cases ho : openL key zs with
  | none => rfl
  | some _ => rw [ho] at h; cases h

/-! ### What is loaded -/
/-- The recs of an epoch, from texts place by place. -/
def loadL (f : Nat → List Int) (e : Int) : Nat → List (List Int)
  | 0 => []
  | k + 1 => if (okR (f k) e (k : Int) && decide ((loadL f e k).length = k)) = true then loadL f e k ++ [(f k).drop 12] else loadL f e k
theorem loadL_len (f : Nat → List Int) (e : Int) (k : Nat) : (loadL f e k).length ≤ k := by
  induction k with
  | zero => exact Nat.le_refl _
  | succ k ih =>
    unfold loadL
    split
    · rw [List.length_append, List.length_singleton]; omega
    · omega
theorem loadL_is {f : Nat → List Int} {e : Int} {rs : List (List Int)} (hr : ∀ j (h : j < rs.length), f j = headR e (j : Int) ++ rs[j]) : ∀ k, k ≤ rs.length → loadL f e k = rs.take k := by
  intro k
  induction k with
  | zero => intro _; rfl
  | succ k ih =>
    intro hk
    have h1 := ih (by omega)
    have hlt : k < rs.length := by omega
    unfold loadL
    rw [h1, hr k hlt, okR_yes, drop_headR, List.length_take, decide_eq_true (by omega : min k rs.length = k)]
    rw [if_pos (by rfl : (true && true) = true), List.take_add_one, List.getElem?_eq_getElem hlt]
    rfl
theorem loadL_end {f : Nat → List Int} {e : Int} {rs : List (List Int)} (hr : ∀ j (h : j < rs.length), f j = headR e (j : Int) ++ rs[j]) (hn : okR (f rs.length) e (rs.length : Int) = false) : ∀ k, rs.length ≤ k → loadL f e k = rs := by
  intro k
  induction k with
  | zero =>
    intro h
    have : rs = [] := List.eq_nil_of_length_eq_zero (by omega)
    subst this
    rfl
  | succ k ih =>
    intro hk
    by_cases hk1 : rs.length ≤ k
    · have h1 := ih hk1
      unfold loadL
      rw [h1]
      by_cases h2 : rs.length = k
      · rw [← h2, hn]
        rfl
      · rw [decide_eq_false h2, Bool.and_false]
        rfl
    · have e1 : rs.length = k + 1 := by omega
      rw [loadL_is hr (k + 1) (by omega), ← e1, List.take_length]
theorem loadL_all {f : Nat → List Int} {e : Int} {rs : List (List Int)} {k : Nat} (hr : ∀ j (h : j < rs.length), f j = headR e (j : Int) ++ rs[j]) (hle : rs.length ≤ k) (hn : rs.length < k → okR (f rs.length) e (rs.length : Int) = false) : loadL f e k = rs := by
  by_cases h : rs.length = k
  · rw [loadL_is hr k (by omega), ← h, List.take_length]
  · exact loadL_end hr (hn (by omega)) k hle
theorem loadL_none {f : Nat → List Int} {e : Int} (k : Nat) (hn : 0 < k → okR (f 0) e 0 = false) : loadL f e k = [] :=
  loadL_all (rs := []) (fun j h => absurd h (Nat.not_lt_zero j)) (Nat.zero_le _) (fun h => hn h)

/-! ### Devices that were only read -/
theorem asks_ev (D : DS) (i : Int) : ∃ e : Ev, e.kind = 1 ∧ e.at_ = i ∧ (D.asks i).tr = D.tr ++ [e] := by
  unfold DS.asks
  split
  · rename_i h
    exact ⟨_, rfl, (hasI_yes h).1.symm, rfl⟩
  · exact ⟨_, rfl, rfl, rfl⟩
/-- k places from at_ on were read, one behind the other. -/
structure Scans (D D' : DS) (at_ : Int) (k : Nat) : Prop where
  size : D'.size = D.size
  n : D'.n = D.n
  left : D'.left = -1
  wait : D'.wait = D.wait
  blk : D'.blk = D.blk
  len : D'.tr.length = D.tr.length + k
  tr : ∃ l, D'.tr = D.tr ++ l ∧ l.length = k ∧ ∀ j, j < k → ∃ e : Ev, l[j]? = some e ∧ e.kind = 1 ∧ e.at_ = at_ + (j : Int)
theorem Scans.refl {D : DS} (h : D.left = -1) (at_ : Int) : Scans D D at_ 0 := ⟨rfl, rfl, h, rfl, rfl, rfl, [], by simp, rfl, fun j hj => absurd hj (Nat.not_lt_zero j)⟩
theorem Scans.next {D D' : DS} {at_ : Int} {k : Nat} (h : Scans D D' at_ k) (i : Int) (hi : at_ + (k : Int) = i) : Scans D (D'.asks i) at_ (k + 1) := by
  obtain ⟨h1, h2, h3, h4, h5⟩ := asks_is D' i
  obtain ⟨e, e1, e2, e3⟩ := asks_ev D' i
  obtain ⟨l, l1, l2, l3⟩ := h.tr
  refine ⟨h1.trans h.size, h2.trans h.n, by rw [h3, h.left]; rfl, h4.trans h.wait, h5.trans h.blk, by rw [asks_len, h.len]; omega, l ++ [e], ?_, by rw [List.length_append, l2]; rfl, fun j hj => ?_⟩
  · rw [e3, l1, List.append_assoc]
  · by_cases hjk : j < k
    · obtain ⟨e', m1, m2, m3⟩ := l3 j hjk
      exact ⟨e', by rw [List.getElem?_append_left (by omega)]; exact m1, m2, m3⟩
    · have : j = k := by omega
      subst this
      exact ⟨e, by rw [List.getElem?_append_right (by omega), l2, Nat.sub_self]; rfl, e1, by rw [e2, hi]⟩
theorem Scans.shows {D D' : DS} {at_ : Int} {k : Nat} (h : Scans D D' at_ k) (i : Int) : D'.shows i = D.shows i := by
  unfold DS.shows
  rw [h.size, h.n, h.blk]
theorem Scans.at_ {D D' : DS} {at_ : Int} {k : Nat} (h : Scans D D' at_ k) (j : Nat) : D'.at_ j = D.at_ j := by
  unfold DS.at_
  rw [h.size, h.blk]

/-! ### Rows of recs beside a device -/
theorem OwnR.place {E : TypeId} {base : Nat} {w : World} {a : Option Addr} {n cap : Nat} {xs : List Value} (h : OwnR E base w a n cap xs) : a = none ∨ ∃ g, a = some ⟨g, 0, none⟩ ∧ base ≤ g ∧ g < w.heap.size := by
  rcases h.2.2 with ⟨h3, h0⟩ | ⟨g, c, cur, h3, hb, hg, _⟩
  · simp only [Value.slice.injEq] at h3
    exact .inl h3.1
  · simp only [Value.slice.injEq, true_and] at h3
    exact .inr ⟨g, h3.1, hb, (Array.getElem?_eq_some_iff.1 hg).1⟩
theorem OwnR.keep1 {E : TypeId} {base : Nat} {w w' : World} {a : Option Addr} {n cap : Nat} {xs : List Value} (h : OwnR E base w a n cap xs) (hb : ∀ g, a = some ⟨g, 0, none⟩ → w'.heap[g]? = w.heap[g]?) : OwnR E base w' a n cap xs := by
  refine ⟨h.1, h.2.1, ?_⟩
  rcases h.2.2 with h0 | ⟨g, c, cur, h3, h4, h5, h6⟩
  · exact .inl h0
  · refine .inr ⟨g, c, cur, h3, h4, ?_, h6⟩
    simp only [Value.slice.injEq, true_and] at h3
    rw [hb g h3.1]
    exact h5
/-- A row of slices of bytes of the call's own (its block is from 'base' on), which lies aside, as what it holds does. -/
structure Recs (base : Nat) (Z : Own) (W : World) (a : Option Addr) (n cap : Nat) (l : List BV) : Prop where
  own : OwnR 36 base W a n cap (l.map BV.v)
  aside : ∀ g, a = some ⟨g, 0, none⟩ → ¬ Z.S g
  item : ∀ x ∈ l, Bz Z W x.a x.len x.cap x.zs
  apart : ∀ x ∈ l, 0 < x.len → ∀ p, x.a = some p → ∀ g, a = some ⟨g, 0, none⟩ → p.block ≠ g
theorem Recs.nil (base : Nat) (Z : Own) (W : World) : Recs base Z W none 0 0 []  := by
  refine ⟨OwnR.nil _ _ _, fun _ h => ?_, fun _ h => ?_, fun _ h => ?_⟩
  · cases h
  · cases h
  · cases h
section
variable {base : Nat} {Z Z' : Own} {W W' : World} {a : Option Addr} {n cap : Nat} {l : List BV}
theorem Recs.len (h : Recs base Z W a n cap l) : l.length = n := by
  have := h.own.1
  rwa [List.length_map] at this
theorem Recs.step (h : Recs base Z W a n cap l) (s : Step Z W Z' W') : Recs base Z' W' a n cap l := by
  have hlt : ∀ g, a = some ⟨g, 0, none⟩ → g < W.heap.size := fun g hg => by
    rcases h.own.place with h1 | ⟨g', h1, _, h3⟩
    · rw [h1] at hg; cases hg
    · rw [h1] at hg; cases hg; exact h3
  exact ⟨h.own.keep1 fun g hg => s.block g (hlt g hg) (h.aside g hg), fun g hg => s.aside (hlt g hg) (h.aside g hg), fun x hx => (h.item x hx).step s, h.apart⟩
theorem Recs.below (h : Recs base Z W a n cap l) (b : Below W.heap.size W W') : Recs base Z W' a n cap l := h.step (Step.of_below Z b)
theorem Recs.bs (h : Recs base Z W a n cap l) (i : Nat) (hi : i < n) : ∃ g x, a = some ⟨g, 0, none⟩ ∧ l[i]? = some x ∧ W.cell? ⟨g, i, none⟩ = some x.v ∧ Bz Z W x.a x.len x.cap x.zs := by
  obtain ⟨g, e, _, _⟩ := h.own.form (by omega)
  have hl := h.len
  have hi' : i < l.length := by omega
  refine ⟨g, l[i], e, List.getElem?_eq_getElem hi', ?_, h.item _ (List.getElem_mem hi')⟩
  have ho := h.own
  rw [e] at ho
  rw [ho.cell i hi]
  simp [hi']
/-- One more behind it. -/
theorem Recs.append (h : Recs base Z W a n cap l) (x : BV) (hx : Bz Z W x.a x.len x.cap x.zs) (hfr : 0 < x.len → ∀ p, x.a = some p → ∀ g, a = some ⟨g, 0, none⟩ → p.block ≠ g) (hn : n < 1000000) (hbase : base ≤ W.heap.size) (hZ : ∀ k, Z.S k → k < W.heap.size) (ty : TypeId) :
    ∃ a' cap' W', (Builtin.append_ #[22, 22] ty #[.slice a n cap, .slice (some ⟨W.heap.size, 0, none⟩) 1 1]).run Tryd.prog (W.alloc (.cells #[x.v] 36)) = .ok (.slice a' (n + 1) cap') W' ∧ Recs base Z W' a' (n + 1) cap' (l ++ [x]) ∧ Below base W W' ∧ (∀ k, k < W.heap.size → a ≠ some ⟨k, 0, none⟩ → W'.heap[k]? = W.heap[k]?) := by
  have hbb := below_alloc (Below.refl W.heap.size W) (Obj.cells #[x.v] 36)
  obtain ⟨a', cap', W', hr, ho, hg, hown⟩ := run_append_val (P := Tryd.prog) (T := 22) (E := 36) (.slice none 0 0) 24 Tryd.underlying22 info_rows rfl (by decide) ty base W a n cap (l.map BV.v) x.v h.own rfl (by omega) hbase
  have hblk : ∀ k, k < W.heap.size → a ≠ some ⟨k, 0, none⟩ → W'.heap[k]? = W.heap[k]? := fun k hk hne => by
    rw [hg.block k (by rw [size_alloc]; omega) ?_, hbb.block k hk]
    intro e
    rcases h.own.place with h1 | ⟨g', h1, _, h3⟩
    · rw [h1] at e; cases e
    · rw [h1] at e
      simp only [Value.ownBlock, Option.some.injEq] at e
      subst e
      exact hne h1
  have hsz : W.heap.size + 1 ≤ W'.heap.size := by have := hg.size; rwa [size_alloc] at this
  have hnew : ∀ g, a' = some ⟨g, 0, none⟩ → a = some ⟨g, 0, none⟩ ∨ W.heap.size < g := fun g hg' => by
    subst hg'
    rcases hown with e | e
    · rcases h.own.place with h1 | ⟨g', h1, _, h3⟩
      · rw [h1] at e; cases e
      · rw [h1] at e
        simp only [Value.ownBlock, Option.some.injEq] at e
        subst e
        exact .inl h1
    · simp only [Value.ownBlock, Option.some.injEq] at e
      exact .inr (by omega)
  have hkeep : ∀ y : BV, Bz Z W y.a y.len y.cap y.zs → (0 < y.len → ∀ p, y.a = some p → ∀ g, a = some ⟨g, 0, none⟩ → p.block ≠ g) → Bz Z W' y.a y.len y.cap y.zs := fun y hy hap =>
    ⟨hy.bs.keepAt fun h0 p hp => hblk _ (hy.out h0 p hp).1 (fun e => hap h0 p hp _ e rfl), fun h0 p hp => ⟨by have := (hy.out h0 p hp).1; omega, (hy.out h0 p hp).2⟩⟩
  refine ⟨a', cap', W', hr, ⟨?_, fun g hg' => ?_, fun y hy => ?_, fun y hy h0 p hp g hg' => ?_⟩, ?_, hblk⟩
  · rw [List.map_append]
    exact ho
  · rcases hnew g hg' with h1 | h1
    · exact h.aside g h1
    · intro hs
      have := hZ g hs
      omega
  · rcases List.mem_append.1 hy with hy | hy
    · exact hkeep y (h.item y hy) (h.apart y hy)
    · rw [List.mem_singleton] at hy
      subst hy
      exact hkeep y hx hfr
  · have hlt : p.block < W.heap.size := by
      rcases List.mem_append.1 hy with hy | hy
      · exact ((h.item y hy).out h0 p hp).1
      · rw [List.mem_singleton] at hy
        subst hy
        exact (hx.out h0 p hp).1
    rcases hnew g hg' with h1 | h1
    · rcases List.mem_append.1 hy with hy | hy
      · exact h.apart y hy h0 p hp g h1
      · rw [List.mem_singleton] at hy
        subst hy
        exact hfr h0 p hp g h1
    · omega
  · refine ⟨hg.os, hg.tape, hg.output, by omega, fun k hk => ?_⟩
    refine hblk k (by omega) (fun e => ?_)
    rcases h.own.place with h1 | ⟨g', h1, h2, h3⟩
    · rw [h1] at e; cases e
    · rw [h1] at e; cases e; omega
end
#print axioms Recs.append
#print axioms loadL_all
end Go.Proofs.YtkpkipjelpedeaaDoor

/- What calls of package ring do: for every device, every pen and every ring in memory. The variable of package quar reads as its text says. No conditions but those that each line states. -/
namespace Go.Proofs.YtkpkipjelpedeaaDoor
open Go.RowKit
set_option maxRecDepth 20000

/-! ### The small calls -/
theorem cut_prefix_yes {a b : Option Addr} {n c m d : Nat} {xs ys : List Int} (w : World) (hx : Bs w a n c xs) (hy : Bs w b m d ys) (h : xs.take m = ys) :
    Calls Tryd.prog 52 #[.slice a n c, .slice b m d] w fun e w' => e = .returned (.tuple #[.slice (cutA a c m) (n - m) (c - m), .bool true]) ∧ m ≤ n ∧ w = w' := by
  have hxl := hx.length
  have hyl := hy.length
  have hlc := hx.le_cap
  have hcc := hx.cap_le
  have hyc := hy.le_cap
  have hyd := hy.cap_le
  have HE := hide (has_prefix_any w hx hy)
  have hle : m ≤ n := by
    have := congrArg List.length h
    rw [List.length_take] at this
    omega
  have hs := run_cut_from (P := Tryd.prog) Tryd.underlying36 Tryd.size_u8 a n c .i64 (m : Int) m rfl hle
  rw [decide_eq_true h] at HE
  generalize cutA a c m = q at *
  go_enter Tryd.func52, Tryd.ntmps52
  go_wp2_with fail
  refine HE.out.mono ?_
  rintro e w' ⟨rfl, rfl⟩
  go_wp2_with fail
  go_ret2
  exact ⟨rfl, hle, rfl⟩
theorem cutA_block {a : Option Addr} {cap l : Nat} {p : Addr} (h : cutA a cap l = some p) : ∃ q, a = some q ∧ q.block = p.block := by
  unfold cutA at h
  split at h
  · exact ⟨p, h, rfl⟩
  · cases a with
    | none => cases h
    | some q =>
      refine ⟨q, rfl, ?_⟩
      cases h
      show q.block = (q.add l).block
      unfold Addr.add
      split <;> rfl
theorem Bz.cut {Z : Own} {w : World} {a : Option Addr} {len cap : Nat} {zs : List Int} (h : Bz Z w a len cap zs) (k : Nat) (hk : k ≤ len) : Bz Z w (cutA a cap k) (len - k) (cap - k) (zs.drop k) :=
  ⟨h.bs.cut k hk, fun h0 p hp => by
    obtain ⟨q, e, e2⟩ := cutA_block hp
    have := h.out (by omega) q e
    rwa [e2] at this⟩

set_option maxHeartbeats 1000000 in
theorem rhd_any (e j : Int) (w : World) (he : 0 ≤ e ∧ e < 18446744073709551616) (hj : 0 ≤ j ∧ j < 4294967296) :
    Calls Tryd.prog 32 #[.int .u64 e, .int .i64 j] w fun ex w' => ∃ g c, ex = .returned (.slice (some ⟨g, 0, none⟩) 12 c) ∧ OwnS 5 w.heap.size w' (some ⟨g, 0, none⟩) 12 c (headR e j) ∧ Below w.heap.size w w' := by
  have hw : IntKind.u64.wrap j = j := by rw [wrap_u64]; omega
  go_enter Tryd.func32, Tryd.ntmps32
  go_wp2_with fail
  refine (put_at e 8 8 w rfl he (by omega)).mono ?_
  rintro ex W1 ⟨rfl, hC, b1⟩
  have hP := hC.bs (putL_bytes e 8) 8 (length_putL _ _) (by omega)
  clear hC
  go_wp2_with fail
  refine (put_at j 4 4 W1 rfl (by omega) (by omega)).mono ?_
  rintro ex W2 ⟨rfl, hC, b2⟩
  have hQ := hC.bs (putL_bytes j 4) 4 (length_putL _ _) (by omega)
  replace hP := hP.below b2
  replace b2 := b1.trans (b2.mono b1.size)
  clear hC b1
  generalize W1.heap.size = gq at *
  go_wp2_with fail
  have hR := heap_alloc_new W2 (.cells #[.slice (some ⟨w.heap.size, 0, none⟩) 8 8, .slice (some ⟨gq, 0, none⟩) 4 4] 36)
  have b3 := below_alloc (Below.refl W2.heap.size W2) (.cells #[.slice (some ⟨w.heap.size, 0, none⟩) 8 8, .slice (some ⟨gq, 0, none⟩) 4 4] 36)
  have hP3 := hP.below b3
  have hQ3 := hQ.below b3
  replace b3 := b2.trans (b3.mono b2.size)
  clear hP hQ b2
  generalize (W2.alloc _) = W3 at *
  generalize W2.heap.size = gv at *
  refine (concat_is gv 2 [⟨some ⟨w.heap.size, 0, none⟩, 8, 8, putL e 8⟩, ⟨some ⟨gq, 0, none⟩, 4, 4, putL j 4⟩] (headR e j) 12 W3 rfl (by omega) (by simp [partsBytes, headR]) (headR_length e j) (by omega) (by omega) _ hR rfl (by
      intro p hp
      simp only [List.mem_cons, List.not_mem_nil, or_false] at hp
      rcases hp with rfl | rfl
      · exact hP3
      · exact hQ3)).mono ?_
  rintro ex W4 ⟨g4, c4, rfl, ho, b4⟩
  have hb4 := b3.trans (b4.mono b3.size)
  have hle := b3.size
  clear hP3 hQ3 hR b3 b4
  go_wp2_with fail
  go_ret
  exact ⟨g4, c4, rfl, ho.mono hle, hb4⟩

/-! ### A ring in memory -/
def rgO (gp : Nat) (at_ size epoch count : Int) : Obj := .cells #[.pointer (some ⟨gp, 0, none⟩), .int .i64 at_, .int .i64 size, .int .u64 epoch, .int .i64 count] 72 (0, 0)
/-- A ring on the pen at gp, made since w0; it lies aside of what is the device's own. -/
structure Rg (w0 : World) (Z : Own) (W : World) (gr gp : Nat) (at_ size epoch count : Int) : Prop where
  has : Has Z W gr (rgO gp at_ size epoch count)
  frm : w0.heap.size ≤ gr
section
variable {w0 W W' : World} {Z Z' : Own} {g gp gr : Nat} {D : DS} {key : List Int} {boot seq at_ size epoch count : Int}
theorem Rg.lt (R : Rg w0 Z W gr gp at_ size epoch count) : gr < W.heap.size := R.has.lt
theorem Rg.c0 (R : Rg w0 Z W gr gp at_ size epoch count) : W.cell? ⟨gr, 0, none⟩ = some (.pointer (some ⟨gp, 0, none⟩)) := cell_of_row W gr 0 _ _ _ R.has.1
theorem Rg.c1 (R : Rg w0 Z W gr gp at_ size epoch count) : W.cell? ⟨gr, 1, none⟩ = some (.int .i64 at_) := cell_of_row W gr 1 _ _ _ R.has.1
theorem Rg.c2 (R : Rg w0 Z W gr gp at_ size epoch count) : W.cell? ⟨gr, 2, none⟩ = some (.int .i64 size) := cell_of_row W gr 2 _ _ _ R.has.1
theorem Rg.c3 (R : Rg w0 Z W gr gp at_ size epoch count) : W.cell? ⟨gr, 3, none⟩ = some (.int .u64 epoch) := cell_of_row W gr 3 _ _ _ R.has.1
theorem Rg.c4 (R : Rg w0 Z W gr gp at_ size epoch count) : W.cell? ⟨gr, 4, none⟩ = some (.int .i64 count) := cell_of_row W gr 4 _ _ _ R.has.1
theorem Rg.froz (R : Rg w0 Z W gr gp at_ size epoch count) (j : Nat) : W.frozen? ⟨gr, j, none⟩ = false := frozen_of_row W gr j _ _ R.has.1
theorem Rg.step (R : Rg w0 Z W gr gp at_ size epoch count) (s : Step Z W Z' W') : Rg w0 Z' W' gr gp at_ size epoch count := ⟨R.has.step s, R.frm⟩
theorem Rg.below (R : Rg w0 Z W gr gp at_ size epoch count) (b : Below W.heap.size W W') : Rg w0 Z W' gr gp at_ size epoch count := ⟨R.has.below b, R.frm⟩
theorem Rg.beside {i : Nat} (R : Rg w0 Z W gr gp at_ size epoch count) (s : Step (Z.also i) W (Z'.also i) W') (hi : gr ≠ i) : Rg w0 Z' W' gr gp at_ size epoch count := ⟨R.has.beside s hi, R.frm⟩
theorem Rg.only {k : Nat} (R : Rg w0 Z W gr gp at_ size epoch count) (o : OnlyAt k W W') (hk : gr ≠ k) : Rg w0 Z W' gr gp at_ size epoch count := ⟨R.has.only o hk, R.frm⟩
theorem Rg.kept (R : Rg w0 Z W gr gp at_ size epoch count) (b : KeptBut (Z.also gp).S W W') (hp : gr ≠ gp) : Rg w0 Z W' gr gp at_ size epoch count :=
  ⟨⟨(b.2 gr R.lt (fun hs => hs.elim R.has.2 hp)).trans R.has.1, R.has.2⟩, R.frm⟩
theorem Rg.keptZ (R : Rg w0 Z W gr gp at_ size epoch count) (b : KeptBut Z.S W W') : Rg w0 Z W' gr gp at_ size epoch count :=
  ⟨⟨(b.2 gr R.lt R.has.2).trans R.has.1, R.has.2⟩, R.frm⟩
theorem rg_set3 {w : World} {gr gp : Nat} {at_ size epoch count : Int} (e : Int) (h : w.heap[gr]? = some (rgO gp at_ size epoch count)) : (w.setCell ⟨gr, 3, none⟩ (.int .u64 e)).heap[gr]? = some (rgO gp at_ size e count) := by
  rw [heap_setCell_same w gr 3 _ _ _ h]; rfl
theorem rg_set4 {w : World} {gr gp : Nat} {at_ size epoch count : Int} (c : Int) (h : w.heap[gr]? = some (rgO gp at_ size epoch count)) : (w.setCell ⟨gr, 4, none⟩ (.int .i64 c)).heap[gr]? = some (rgO gp at_ size epoch c) := by
  rw [heap_setCell_same w gr 4 _ _ _ h]; rfl
theorem Rg.set3 (R : Rg w0 Z W gr gp at_ size epoch count) (e : Int) : Rg w0 Z (W.setCell ⟨gr, 3, none⟩ (.int .u64 e)) gr gp at_ size e count := ⟨⟨rg_set3 e R.has.1, R.has.2⟩, R.frm⟩
theorem Rg.set4 (R : Rg w0 Z W gr gp at_ size epoch count) (c : Int) : Rg w0 Z (W.setCell ⟨gr, 4, none⟩ (.int .i64 c)) gr gp at_ size epoch c := ⟨⟨rg_set4 c R.has.1, R.has.2⟩, R.frm⟩

theorem ring_new (h : Cl w0 W Z g D) (gp : Nat) (at_ size : Int) :
    Calls Tryd.prog 9 #[.pointer (some ⟨gp, 0, none⟩), .int .i64 at_, .int .i64 size] W fun e W' => e = .returned (.pointer (some ⟨W.heap.size, 0, none⟩)) ∧ Rg w0 Z W' W.heap.size gp at_ (min (max size 0) 100000) 0 0 ∧ Below W.heap.size W W' := by
  have hn := h.new (rgO gp at_ (min (max size 0) 100000) 0 0)
  have hsz := h.size
  have hb := below_alloc (Below.refl W.heap.size W) (rgO gp at_ (min (max size 0) 100000) 0 0)
  clear h
  go_enter Tryd.func9, Tryd.ntmps9
  go_wp2_with fail
  go_ret
  exact ⟨rfl, ⟨hn, hsz⟩, hb⟩

theorem ring_start (R : Rg w0 Z W gr gp at_ size epoch count) (e : Int) :
    Calls Tryd.prog 10 #[.pointer (some ⟨gr, 0, none⟩), .int .u64 e] W fun ex W' => ex = .returned (.tuple #[]) ∧ Rg w0 Z W' gr gp at_ size e 0 ∧ OnlyAt gr W W' := by
  have R1 := R.set3 e
  have f1 := R.froz 3
  have f2 := R1.froz 4
  have c1 := R.c3
  have c2 := R1.c4
  have R2 := R1.set4 0
  have o1 := OnlyAt.setCell gr 3 W (.int .u64 e)
  have o2 := OnlyAt.setCell gr 4 (W.setCell ⟨gr, 3, none⟩ (.int .u64 e)) (.int .i64 0)
  clear R R1
  go_enter Tryd.func10, Tryd.ntmps10
  go_wp2_with fail
  refine bodyPost_end (results_none rfl _ _ _) rfl ?_
  exact ⟨rfl, R2, ⟨o2.os.trans o1.os, o2.tape.trans o1.tape, o2.output.trans o1.output, o2.size.trans o1.size, fun k hk => (o2.block k hk).trans (o1.block k hk)⟩⟩

theorem ring_len (R : Rg w0 Z W gr gp at_ size epoch count) :
    Calls Tryd.prog 15 #[.pointer (some ⟨gr, 0, none⟩)] W fun ex W' => ex = .returned (.int .i64 count) ∧ W = W' := by
  have c4 := R.c4
  clear R
  go_enter Tryd.func15, Tryd.ntmps15
  go_wp2_with fail
  go_ret
  exact ⟨rfl, rfl⟩

theorem Has.beside2 {k i j : Nat} {o : Obj} (h : Has Z W k o) (s : Step ((Z.also i).also j) W ((Z'.also i).also j) W') (hi : k ≠ i) (hj : k ≠ j) : Has Z' W' k o := by
  have h2 : Has (Z.also i) W k o := ⟨h.1, fun hs => hs.elim h.2 hi⟩
  have h3 := h2.beside s hj
  exact ⟨h3.1, fun hs => h3.2 (.inl hs)⟩
theorem Rg.beside2 {i j : Nat} (R : Rg w0 Z W gr gp at_ size epoch count) (s : Step ((Z.also i).also j) W ((Z'.also i).also j) W') (hi : gr ≠ i) (hj : gr ≠ j) : Rg w0 Z' W' gr gp at_ size epoch count := ⟨R.has.beside2 s hi hj, R.frm⟩

/-! ### What stands in a place -/
set_option maxHeartbeats 4000000 in
theorem rstand_any (h : Cl w0 W Z g D) (P : Pn w0 Z W gp g key boot seq) (R : Rg w0 Z W gr gp at_ size epoch count) (hq : Glob w0) (hl : ¬ D.left = 0) (hlim : D.tr.length < 1000000) (e pl i : Int) (he : 0 ≤ e ∧ e < 18446744073709551616) (hp : 0 ≤ pl ∧ pl < 4294967296) (ha : 0 ≤ at_ ∧ at_ ≤ 1000000) (hi : at_ + pl = i) (us : List Int) (hus : openR key (D.shows i) = us) :
    Calls Tryd.prog 34 #[.pointer (some ⟨gr, 0, none⟩), .int .u64 e, .int .i64 pl] W fun ex W' => ∃ Z' a n c, ex = .returned (.tuple #[.slice a n c, .bool (okR us e pl)]) ∧ Bz Z' W' a n c (if okR us e pl = true then us.drop 12 else []) ∧ (0 < n → ∀ p, a = some p → W.heap.size ≤ p.block) ∧ Cl w0 W' Z' g (D.asks i) ∧ Pn w0 Z' W' gp g key boot seq ∧ Rg w0 Z' W' gr gp at_ size epoch count ∧ Step Z W Z' W' := by
  have hw : IntKind.i64.wrap (at_ + pl) = i := by rw [IntKind.wrap_i64]; omega
  have HY : Hid (us.take 12 = headR e pl → okR us e pl = true) := fun h => decide_eq_true h
  have HN : Hid (¬ us.take 12 = headR e pl → okR us e pl = false) := fun h => decide_eq_false h
  clear hi ha
  generalize okR us e pl = ok at *
  go_enter Tryd.func34, Tryd.ntmps34
  go_wp2_with fail
  refine wp_region_rel (KeptBut Z.S) [0, 1, 2, 3, 4, 5, 6, 7, 8, 9, 10, 11, 12, 13, 14, 15] (by kernel_rfl) (by kernel_rfl) (by kernel_rfl) (KeptBut.refl _) KeptBut.trans ?_
  have sd : Below W.heap.size W W.drew := (Below.refl _ _).drew
  replace h := h.below sd
  replace P := P.below sd
  replace R := R.below sd
  have s0 := Step.of_below Z sd
  have hsd : W.drew.heap.size = W.heap.size := rfl
  clear sd
  generalize W.drew = W1 at *
  have hR0 := hide (pen_read_new h P hq hl hlim i)
  rw [hus] at hR0
  clear h P
  repeat' (first
    | (refine wpRel_quiet (v := ?_) rfl rfl (fun _ _ _ h => h) (by rfl) ?_ ?_
       rotate_left
       · (intro w' hR; have c0 := (R.keptZ hR).c0; have c1 := (R.keptZ hR).c1; go_simp; try rfl)
       simp only [Act.put, List.setIfInBounds_toArray, List.set_cons_zero, List.set_cons_succ])
    | fail)
  refine wpRel_step rfl rfl (by rfl) (fun K' hK => ?_)
  go_simp
  refine (hR0.out).mono ?_
  rintro ex W2 ⟨Z2, p2, c2, rfl, B2, C2, P2, s2, hfr⟩
  refine hK.out _ _ (KeptBut.of_step s2) ?_
  clear hK K'
  try simp only [Act.put, List.setIfInBounds_toArray, List.set_cons_zero, List.set_cons_succ]
  have R2 := R.step s2
  have s3 := s0.trans s2
  rw [hsd] at hfr
  clear hR0 s0 s2 R hsd
  repeat' (first
    | (refine wpRel_quiet (v := ?_) rfl rfl (fun _ _ _ h => h) (by rfl) ?_ ?_
       rotate_left
       · (intro w' hR; go_simp; try rfl)
       simp only [Act.put, List.setIfInBounds_toArray, List.set_cons_zero, List.set_cons_succ])
    | fail)
  refine wpRel_nil ?_
  go_wp2_with fail
  refine (rhd_any e pl W2 he hp).mono ?_
  rintro ex W3 ⟨gh, ch, rfl, hO, b3⟩
  have C3 := C2.below b3
  have P3 := P2.below b3
  have R3 := R2.below b3
  have B3 := B2.step (Step.of_below Z2 b3)
  have s4 := s3.trans (Step.of_below Z2 b3)
  clear C2 P2 R2 B2 s3 b3
  have hH := hO.bs
  clear hO
  by_cases hok : us.take 12 = headR e pl
  · have hC := hide (cut_prefix_yes W3 B3.bs hH hok)
    obtain rfl := HY.out hok
    clear hH hok HY HN
    go_wp2_with fail
    refine hC.out.mono ?_
    rintro ex W4 ⟨rfl, hle, rfl⟩
    have B4 := B3.cut 12 hle
    have hfr4 : 0 < us.length - 12 → ∀ p, cutA p2 c2 12 = some p → W.heap.size ≤ p.block := fun _ p hp => by
      obtain ⟨q, e1, e2⟩ := cutA_block hp
      rw [← e2]
      exact hfr q e1
    clear hC hfr B3
    generalize cutA p2 c2 12 = q at *
    go_wp2_with fail
    go_ret2
    exact ⟨Z2, q, _, _, rfl, B4, hfr4, C3, P3, R3, s4⟩
  · have hC := hide (cut_prefix_any W3 B3.bs hH)
    rw [decide_eq_false hok] at hC
    obtain rfl := HN.out hok
    clear hH hok HY HN
    go_wp2_with fail
    refine hC.out.mono ?_
    rintro ex W4 ⟨p4, k4, q4, rfl, -, rfl⟩
    clear hC B3
    go_wp2_with fail
    go_ret2
    exact ⟨Z2, none, 0, 0, rfl, ⟨Bs.nil _, fun _ p hp => by cases hp⟩, fun h0 => absurd h0 (Nat.lt_irrefl _), C3, P3, R3, s4⟩
end
#print axioms rstand_any
end Go.Proofs.YtkpkipjelpedeaaDoor

/- What calls of (*ring.Ring).Add do: where it is full, where the rec does not fit, where it is written and flushed, where the power is gone ahead of the write, or behind it. The variable of package quar reads as its text says. No conditions but those that each line states. -/
namespace Go.Proofs.YtkpkipjelpedeaaDoor
open Go.RowKit
set_option maxRecDepth 20000

section
variable {w0 W W' : World} {Z Z' : Own} {g gp gr : Nat} {D : DS} {key : List Int} {boot seq at_ size epoch count : Int}
theorem add_full (R : Rg w0 Z W gr gp at_ size epoch count) (hf : size ≤ count) (v : Value) :
    Calls Tryd.prog 12 #[.pointer (some ⟨gr, 0, none⟩), v] W fun ex W' => ex = .returned (.bool false) ∧ Below W.heap.size W W' := by
  go_enter Tryd.func12, Tryd.ntmps12
  go_wp2_with fail
  refine wp_region_rel Kept [0, 1, 2, 3, 4, 5, 6, 7, 8] (by kernel_rfl) (by kernel_rfl) (by kernel_rfl) Kept.refl Kept.trans ?_
  have sd : Below W.heap.size W W.drew := (Below.refl _ _).drew
  replace R := R.below sd
  generalize W.drew = W1 at *
  repeat' (first
    | (refine wpRel_quiet (v := ?_) rfl rfl (fun _ _ _ h => h) (by rfl) ?_ ?_
       rotate_left
       · (intro w' hR; have c4 := (R.below hR).c4; have c2 := (R.below hR).c2; go_simp; try rfl)
       simp only [Act.put, List.setIfInBounds_toArray, List.set_cons_zero, List.set_cons_succ])
    | fail)
  refine wpRel_nil ?_
  clear R
  go_wp2_with fail
  go_ret
  exact ⟨rfl, sd⟩

set_option maxHeartbeats 4000000 in
/-- The rec does not fit. -/
theorem add_big (h : Cl w0 W Z g D) (P : Pn w0 Z W gp g key boot seq) (R : Rg w0 Z W gr gp at_ size epoch count) (he : 0 ≤ epoch ∧ epoch < 18446744073709551616) (hc : 0 ≤ count ∧ count < size) (hsz2 : size ≤ 100000) {a : Option Addr} {len cap : Nat} {zs : List Int} (hz : Bs W a len cap zs) (hl : len ≤ 140737488351232) (hlen : (D.size : Int) < (len : Int) + 34) :
    Calls Tryd.prog 12 #[.pointer (some ⟨gr, 0, none⟩), .slice a len cap] W fun ex W' => ex = .returned (.bool false) ∧ Below W.heap.size W W' := by
  obtain ⟨i, hi⟩ : ∃ i, IntKind.i64.wrap (at_ + count) = i := ⟨_, rfl⟩
  have hlt : count < size := hc.2
  have hzl := hz.length
  have hsl := h.size_le
  go_enter Tryd.func12, Tryd.ntmps12
  go_wp2_with fail
  refine wp_region_rel Kept [0, 1, 2, 3, 4, 5, 6, 7, 8] (by kernel_rfl) (by kernel_rfl) (by kernel_rfl) Kept.refl Kept.trans ?_
  have sd : Below W.heap.size W W.drew := (Below.refl _ _).drew
  replace h := h.below sd
  replace P := P.below sd
  replace R := R.below sd
  replace hz := hz.below sd
  generalize W.drew = W1 at *
  repeat' (first
    | (refine wpRel_quiet (v := ?_) rfl rfl (fun _ _ _ h => h) (by rfl) ?_ ?_
       rotate_left
       · (intro w' hR; have c4 := (R.below hR).c4; have c2 := (R.below hR).c2; go_simp; try rfl)
       simp only [Act.put, List.setIfInBounds_toArray, List.set_cons_zero, List.set_cons_succ])
    | fail)
  refine wpRel_nil ?_
  go_wp2_with fail
  refine wp_region_rel Kept [0, 1, 2, 3, 4, 5, 6, 7, 8, 9, 10, 11, 12, 13, 14, 15, 16, 17, 18, 19, 20, 22, 21, 23, 24, 25, 26] (by kernel_rfl) (by kernel_rfl) (by kernel_rfl) Kept.refl Kept.trans ?_
  have sd2 : Below W1.heap.size W1 W1.drew := (Below.refl _ _).drew
  replace h := h.below sd2
  replace P := P.below sd2
  replace R := R.below sd2
  replace hz := hz.below sd2
  replace sd := sd.trans (sd2.mono sd.size)
  clear sd2
  generalize W1.drew = W2 at *
  repeat' (first
    | (refine wpRel_quiet (v := ?_) rfl rfl (fun _ _ _ h => h) (by rfl) ?_ ?_
       rotate_left
       · (intro w' hR; have c0 := (R.below hR).c0; have c1 := (R.below hR).c1; have c4 := (R.below hR).c4; have c3 := (R.below hR).c3; go_simp; try rfl)
       simp only [Act.put, List.setIfInBounds_toArray, List.set_cons_zero, List.set_cons_succ])
    | fail)
  refine wpRel_step rfl rfl (by rfl) (fun K' hK => ?_)
  go_simp
  refine (rhd_any epoch count W2 he (by omega)).mono ?_
  rintro e W3 ⟨gh, ch, rfl, hO, b3⟩
  refine hK.out _ _ b3 ?_
  clear hK K'
  try simp only [Act.put, List.setIfInBounds_toArray, List.set_cons_zero, List.set_cons_succ]
  have hH := hO.bs
  replace h := h.below b3
  replace P := P.below b3
  replace hz := hz.below b3
  replace sd := sd.trans (b3.mono sd.size)
  clear hO b3 R
  refine wpRel_step rfl rfl (by rfl) (fun K' hK => ?_)
  refine wp_buildSliceTo 22 36 2 _ (by rfl) Tryd.underlying22 [(0, .slice (some ⟨gh, 0, none⟩) 12 ch), (1, .slice a len cap)] (by kernel_rfl) #[.slice (some ⟨gh, 0, none⟩) 12 ch, .slice a len cap] (by kernel_rfl) ?_
  have b1 : Below W3.heap.size W3 (W3.alloc (.cells #[.slice (some ⟨gh, 0, none⟩) 12 ch, .slice a len cap] 36)) := below_alloc (Below.refl _ _) _
  have hR := heap_alloc_new W3 (.cells #[.slice (some ⟨gh, 0, none⟩) 12 ch, .slice a len cap] 36)
  refine hK.out _ _ b1 ?_
  clear hK K'
  try simp only [Act.put, List.setIfInBounds_toArray, List.set_cons_zero, List.set_cons_succ]
  replace h := h.below b1
  replace P := P.below b1
  replace hz := hz.below b1
  replace hH := hH.below b1
  replace sd := sd.trans (b1.mono sd.size)
  clear b1
  generalize (W3.alloc _) = W4 at *
  generalize W3.heap.size = gv at *
  obtain ⟨T, hT⟩ : ∃ T, Hid (12 + len = T) := ⟨_, hide rfl⟩
  have hCc := hide (concat_is gv 2 [⟨some ⟨gh, 0, none⟩, 12, ch, headR epoch count⟩, ⟨a, len, cap, zs⟩] (headR epoch count ++ zs) T W4 rfl (by omega) (by simp [partsBytes]) (by rw [List.length_append, headR_length, hzl]; exact hT.out) (by have := hT.out; omega) (by have := hT.out; omega) _ hR rfl (by
      intro p hp
      simp only [List.mem_cons, List.not_mem_nil, or_false] at hp
      rcases hp with rfl | rfl
      · exact hH
      · exact hz))
  refine wpRel_step rfl rfl (by rfl) (fun K' hK => ?_)
  go_simp
  refine (hCc.out).mono ?_
  rintro e W5 ⟨gt, ct, rfl, hO, b5⟩
  refine hK.out _ _ b5 ?_
  clear hK K'
  try simp only [Act.put, List.setIfInBounds_toArray, List.set_cons_zero, List.set_cons_succ]
  clear hCc
  replace h := h.below b5
  replace P := P.below b5
  replace sd := sd.trans (b5.mono sd.size)
  clear hO b5 hR hH hz
  repeat' (first
    | (refine wpRel_quiet (v := ?_) rfl rfl (fun _ _ _ h => h) (by rfl) ?_ ?_
       rotate_left
       · (intro w' hR; go_simp; try rfl)
       simp only [Act.put, List.setIfInBounds_toArray, List.set_cons_zero, List.set_cons_succ])
    | fail)
  refine wpRel_step rfl rfl (by rfl) (fun K' hK => ?_)
  go_simp
  refine (pen_write_no h P i (by have := hT.out; omega) (by have := hT.out; omega)).mono ?_
  rintro e W6 ⟨rfl, b6⟩
  refine hK.out _ _ b6 ?_
  clear hK K'
  try simp only [Act.put, List.setIfInBounds_toArray, List.set_cons_zero, List.set_cons_succ]
  replace sd := sd.trans (b6.mono sd.size)
  clear h P b6
  repeat' (first
    | (refine wpRel_quiet (v := ?_) rfl rfl (fun _ _ _ h => h) (by rfl) ?_ ?_
       rotate_left
       · (intro w' hR; go_simp; try rfl)
       simp only [Act.put, List.setIfInBounds_toArray, List.set_cons_zero, List.set_cons_succ])
    | fail)
  refine wpRel_nil ?_
  go_wp2_with fail
  go_ret
  exact ⟨rfl, sd⟩
set_option maxHeartbeats 4000000 in
/-- It is written, and flushed. -/
theorem add_ok (h : Cl w0 W Z g D) (P : Pn w0 Z W gp g key boot seq) (R : Rg w0 Z W gr gp at_ size epoch count) (hne : gr ≠ gp) (he : 0 ≤ epoch ∧ epoch < 18446744073709551616) (hc : 0 ≤ count ∧ count < size) (hsz2 : size ≤ 100000) (ha : 0 ≤ at_ ∧ at_ ≤ 1000000) {a : Option Addr} {len cap : Nat} {zs : List Int} (hz : Bs W a len cap zs) (m : Nat) (hsz : D.size = m + 22) (hlen : len + 12 ≤ m) (i : Int) (hi : at_ + count = i) (hq : Glob w0) (hl : ¬ D.left = 0) (hl1 : ¬ D.left = 1) (hlim : D.tr.length < 999999) (hlw : D.wait.length < 1000000) (hs : seq < 18446744073709551615) :
    Calls Tryd.prog 12 #[.pointer (some ⟨gr, 0, none⟩), .slice a len cap] W fun ex W' => ∃ Z' x, ex = .returned (.bool true) ∧ Hid (x.zs = sealL key boot seq (headR epoch count ++ zs) m) ∧ Cl w0 W' Z' g (D.done i x) ∧ Pn w0 Z' W' gp g key boot (seq + 1) ∧ Rg w0 Z' W' gr gp at_ size epoch (count + 1) ∧ Step ((Z.also gp).also gr) W ((Z'.also gp).also gr) W' := by
  have hw : IntKind.i64.wrap (at_ + count) = i := by rw [IntKind.wrap_i64]; omega
  clear hi
  have hlt : count < size := hc.2
  have hzl := hz.length
  have hsl := h.size_le
  go_enter Tryd.func12, Tryd.ntmps12
  go_wp2_with fail
  refine wp_region_rel Kept [0, 1, 2, 3, 4, 5, 6, 7, 8] (by kernel_rfl) (by kernel_rfl) (by kernel_rfl) Kept.refl Kept.trans ?_
  have sd : Below W.heap.size W W.drew := (Below.refl _ _).drew
  replace h := h.below sd
  replace P := P.below sd
  replace R := R.below sd
  replace hz := hz.below sd
  generalize W.drew = W1 at *
  repeat' (first
    | (refine wpRel_quiet (v := ?_) rfl rfl (fun _ _ _ h => h) (by rfl) ?_ ?_
       rotate_left
       · (intro w' hR; have c4 := (R.below hR).c4; have c2 := (R.below hR).c2; go_simp; try rfl)
       simp only [Act.put, List.setIfInBounds_toArray, List.set_cons_zero, List.set_cons_succ])
    | fail)
  refine wpRel_nil ?_
  go_wp2_with fail
  refine wp_region_rel (KeptBut (Z.also gp).S) [0, 1, 2, 3, 4, 5, 6, 7, 8, 9, 10, 11, 12, 13, 14, 15, 16, 17, 18, 19, 20, 22, 21, 23, 24, 25, 26] (by kernel_rfl) (by kernel_rfl) (by kernel_rfl) (KeptBut.refl _) KeptBut.trans ?_
  have sd2 : Below W1.heap.size W1 W1.drew := (Below.refl _ _).drew
  replace h := h.below sd2
  replace P := P.below sd2
  replace R := R.below sd2
  replace hz := hz.below sd2
  replace sd := sd.trans (sd2.mono sd.size)
  clear sd2
  generalize W1.drew = W2 at *
  repeat' (first
    | (refine wpRel_quiet (v := ?_) rfl rfl (fun _ _ _ h => h) (by rfl) ?_ ?_
       rotate_left
       · (intro w' hR; have c0 := (R.kept hR hne).c0; have c1 := (R.kept hR hne).c1; have c4 := (R.kept hR hne).c4; have c3 := (R.kept hR hne).c3; go_simp; try rfl)
       simp only [Act.put, List.setIfInBounds_toArray, List.set_cons_zero, List.set_cons_succ])
    | fail)
  refine wpRel_step rfl rfl (by rfl) (fun K' hK => ?_)
  go_simp
  refine (rhd_any epoch count W2 he (by omega)).mono ?_
  rintro e W3 ⟨gh, ch, rfl, hO, b3⟩
  refine hK.out _ _ (KeptBut.of_below _ b3) ?_
  clear hK K'
  try simp only [Act.put, List.setIfInBounds_toArray, List.set_cons_zero, List.set_cons_succ]
  have hH := hO.bs
  replace h := h.below b3
  replace P := P.below b3
  replace hz := hz.below b3
  replace sd := sd.trans (b3.mono sd.size)
  replace R := R.below b3
  clear hO b3
  refine wpRel_step rfl rfl (by rfl) (fun K' hK => ?_)
  refine wp_buildSliceTo 22 36 2 _ (by rfl) Tryd.underlying22 [(0, .slice (some ⟨gh, 0, none⟩) 12 ch), (1, .slice a len cap)] (by kernel_rfl) #[.slice (some ⟨gh, 0, none⟩) 12 ch, .slice a len cap] (by kernel_rfl) ?_
  have b1 : Below W3.heap.size W3 (W3.alloc (.cells #[.slice (some ⟨gh, 0, none⟩) 12 ch, .slice a len cap] 36)) := below_alloc (Below.refl _ _) _
  have hR := heap_alloc_new W3 (.cells #[.slice (some ⟨gh, 0, none⟩) 12 ch, .slice a len cap] 36)
  refine hK.out _ _ (KeptBut.of_below _ b1) ?_
  clear hK K'
  try simp only [Act.put, List.setIfInBounds_toArray, List.set_cons_zero, List.set_cons_succ]
  replace h := h.below b1
  replace P := P.below b1
  replace hz := hz.below b1
  replace hH := hH.below b1
  replace R := R.below b1
  replace sd := sd.trans (b1.mono sd.size)
  clear b1
  generalize (W3.alloc _) = W4 at *
  generalize W3.heap.size = gv at *
  obtain ⟨T, hT⟩ : ∃ T, Hid (12 + len = T) := ⟨_, hide rfl⟩
  have hCc := hide (concat_is gv 2 [⟨some ⟨gh, 0, none⟩, 12, ch, headR epoch count⟩, ⟨a, len, cap, zs⟩] (headR epoch count ++ zs) T W4 rfl (by omega) (by simp [partsBytes]) (by rw [List.length_append, headR_length, hzl]; exact hT.out) (by have := hT.out; omega) (by have := hT.out; omega) _ hR rfl (by
      intro p hp
      simp only [List.mem_cons, List.not_mem_nil, or_false] at hp
      rcases hp with rfl | rfl
      · exact hH
      · exact hz))
  refine wpRel_step rfl rfl (by rfl) (fun K' hK => ?_)
  go_simp
  refine (hCc.out).mono ?_
  rintro e W5 ⟨gt, ct, rfl, hO, b5⟩
  refine hK.out _ _ (KeptBut.of_below _ b5) ?_
  clear hK K'
  try simp only [Act.put, List.setIfInBounds_toArray, List.set_cons_zero, List.set_cons_succ]
  clear hCc
  replace h := h.below b5
  replace P := P.below b5
  replace R := R.below b5
  replace sd := sd.trans (b5.mono sd.size)
  clear b5 hR hH hz
  repeat' (first
    | (refine wpRel_quiet (v := ?_) rfl rfl (fun _ _ _ h => h) (by rfl) ?_ ?_
       rotate_left
       · (intro w' hR; go_simp; try rfl)
       simp only [Act.put, List.setIfInBounds_toArray, List.set_cons_zero, List.set_cons_succ])
    | fail)
  have hWr := hide (pen_write h P hq hl (by omega) hlw hs i hO.bs m hsz (by have := hT.out; omega))
  clear hO h P hT
  refine wpRel_step rfl rfl (by rfl) (fun K' hK => ?_)
  go_simp
  refine (hWr.out).mono ?_
  rintro e W6 ⟨Z6, x, rfl, hx, C, P, s6⟩
  refine hK.out _ _ (KeptBut.of_step s6) ?_
  clear hK K'
  try simp only [Act.put, List.setIfInBounds_toArray, List.set_cons_zero, List.set_cons_succ]
  replace R := R.beside s6 hne
  have s7 := (Step.of_below (Z.also gp) sd).trans s6
  clear hWr s6 sd
  repeat' (first
    | (refine wpRel_quiet (v := ?_) rfl rfl (fun _ _ _ h => h) (by rfl) ?_ ?_
       rotate_left
       · (intro w' hR; go_simp; try rfl)
       simp only [Act.put, List.setIfInBounds_toArray, List.set_cons_zero, List.set_cons_succ])
    | fail)
  refine wpRel_nil ?_
  obtain ⟨f1, f2, f3⟩ := puts_is D i x
  have f4 := puts_len D i x
  have hF := hide (pen_flush C P (by rw [f3]; exact spendL_two hl hl1) (by omega))
  have c0 := R.c0
  clear C P f1 f2 f3 f4
  go_wp2_with fail
  refine hF.out.mono ?_
  rintro e W8 ⟨Z8, rfl, C, P, s8⟩
  replace R := R.step s8
  have s9 := s7.trans (s8.wide gp)
  clear hF s7 s8 c0
  have c4 := R.c4
  have f4 := R.froz 4
  have hw2 : IntKind.i64.wrap (count + 1) = count + 1 := by rw [IntKind.wrap_i64]; omega
  have o1 := OnlyAt.setCell gr 4 W8 (.int .i64 (count + 1))
  have C9 := C.only o1 R.has.2 R.frm
  have P9 : Pn w0 Z8 (W8.setCell ⟨gr, 4, none⟩ (.int .i64 (count + 1))) gp g key boot (seq + 1) := ⟨P.at_.only o1 (Ne.symm hne), P.frm, P.kb, P.kl, P.bt, P.sq⟩
  have R9 := R.set4 (count + 1)
  have s10 := (s9.wide gr).trans (Step.only (Z := Z8.also gp) o1)
  clear C P R s9 o1
  go_wp2_with fail
  go_ret
  exact ⟨Z8, x, rfl, hx, C9, P9, R9, s10⟩

set_option maxHeartbeats 4000000 in
/-- The power is gone ahead of the write. -/
theorem add_off (h : Cl w0 W Z g D) (P : Pn w0 Z W gp g key boot seq) (R : Rg w0 Z W gr gp at_ size epoch count) (hne : gr ≠ gp) (he : 0 ≤ epoch ∧ epoch < 18446744073709551616) (hc : 0 ≤ count ∧ count < size) (hsz2 : size ≤ 100000) (ha : 0 ≤ at_ ∧ at_ ≤ 1000000) {a : Option Addr} {len cap : Nat} {zs : List Int} (hz : Bs W a len cap zs) (m : Nat) (hsz : D.size = m + 22) (hlen : len + 12 ≤ m) (i : Int) (hi : at_ + count = i) (hq : Glob w0) {p : Addr} (hp : Pow p w0) (hl : D.left = 0) :
    Calls Tryd.prog 12 #[.pointer (some ⟨gr, 0, none⟩), .slice a len cap] W fun ex W' => ex = .panicked [{ v := errV p, recovered := false }] ∧ Below W.heap.size W W' := by
  have hw : IntKind.i64.wrap (at_ + count) = i := by rw [IntKind.wrap_i64]; omega
  clear hi
  have hlt : count < size := hc.2
  have hzl := hz.length
  have hsl := h.size_le
  go_enter Tryd.func12, Tryd.ntmps12
  go_wp2_with fail
  refine wp_region_rel Kept [0, 1, 2, 3, 4, 5, 6, 7, 8] (by kernel_rfl) (by kernel_rfl) (by kernel_rfl) Kept.refl Kept.trans ?_
  have sd : Below W.heap.size W W.drew := (Below.refl _ _).drew
  replace h := h.below sd
  replace P := P.below sd
  replace R := R.below sd
  replace hz := hz.below sd
  generalize W.drew = W1 at *
  repeat' (first
    | (refine wpRel_quiet (v := ?_) rfl rfl (fun _ _ _ h => h) (by rfl) ?_ ?_
       rotate_left
       · (intro w' hR; have c4 := (R.below hR).c4; have c2 := (R.below hR).c2; go_simp; try rfl)
       simp only [Act.put, List.setIfInBounds_toArray, List.set_cons_zero, List.set_cons_succ])
    | fail)
  refine wpRel_nil ?_
  go_wp2_with fail
  refine wp_region_rel (KeptBut (Z.also gp).S) [0, 1, 2, 3, 4, 5, 6, 7, 8, 9, 10, 11, 12, 13, 14, 15, 16, 17, 18, 19, 20, 22, 21, 23, 24, 25, 26] (by kernel_rfl) (by kernel_rfl) (by kernel_rfl) (KeptBut.refl _) KeptBut.trans ?_
  have sd2 : Below W1.heap.size W1 W1.drew := (Below.refl _ _).drew
  replace h := h.below sd2
  replace P := P.below sd2
  replace R := R.below sd2
  replace hz := hz.below sd2
  replace sd := sd.trans (sd2.mono sd.size)
  clear sd2
  generalize W1.drew = W2 at *
  repeat' (first
    | (refine wpRel_quiet (v := ?_) rfl rfl (fun _ _ _ h => h) (by rfl) ?_ ?_
       rotate_left
       · (intro w' hR; have c0 := (R.kept hR hne).c0; have c1 := (R.kept hR hne).c1; have c4 := (R.kept hR hne).c4; have c3 := (R.kept hR hne).c3; go_simp; try rfl)
       simp only [Act.put, List.setIfInBounds_toArray, List.set_cons_zero, List.set_cons_succ])
    | fail)
  refine wpRel_step rfl rfl (by rfl) (fun K' hK => ?_)
  go_simp
  refine (rhd_any epoch count W2 he (by omega)).mono ?_
  rintro e W3 ⟨gh, ch, rfl, hO, b3⟩
  refine hK.out _ _ (KeptBut.of_below _ b3) ?_
  clear hK K'
  try simp only [Act.put, List.setIfInBounds_toArray, List.set_cons_zero, List.set_cons_succ]
  have hH := hO.bs
  replace h := h.below b3
  replace P := P.below b3
  replace hz := hz.below b3
  replace sd := sd.trans (b3.mono sd.size)
  replace R := R.below b3
  clear hO b3
  refine wpRel_step rfl rfl (by rfl) (fun K' hK => ?_)
  refine wp_buildSliceTo 22 36 2 _ (by rfl) Tryd.underlying22 [(0, .slice (some ⟨gh, 0, none⟩) 12 ch), (1, .slice a len cap)] (by kernel_rfl) #[.slice (some ⟨gh, 0, none⟩) 12 ch, .slice a len cap] (by kernel_rfl) ?_
  have b1 : Below W3.heap.size W3 (W3.alloc (.cells #[.slice (some ⟨gh, 0, none⟩) 12 ch, .slice a len cap] 36)) := below_alloc (Below.refl _ _) _
  have hR := heap_alloc_new W3 (.cells #[.slice (some ⟨gh, 0, none⟩) 12 ch, .slice a len cap] 36)
  refine hK.out _ _ (KeptBut.of_below _ b1) ?_
  clear hK K'
  try simp only [Act.put, List.setIfInBounds_toArray, List.set_cons_zero, List.set_cons_succ]
  replace h := h.below b1
  replace P := P.below b1
  replace hz := hz.below b1
  replace hH := hH.below b1
  replace R := R.below b1
  replace sd := sd.trans (b1.mono sd.size)
  clear b1
  generalize (W3.alloc _) = W4 at *
  generalize W3.heap.size = gv at *
  obtain ⟨T, hT⟩ : ∃ T, Hid (12 + len = T) := ⟨_, hide rfl⟩
  have hCc := hide (concat_is gv 2 [⟨some ⟨gh, 0, none⟩, 12, ch, headR epoch count⟩, ⟨a, len, cap, zs⟩] (headR epoch count ++ zs) T W4 rfl (by omega) (by simp [partsBytes]) (by rw [List.length_append, headR_length, hzl]; exact hT.out) (by have := hT.out; omega) (by have := hT.out; omega) _ hR rfl (by
      intro p hp
      simp only [List.mem_cons, List.not_mem_nil, or_false] at hp
      rcases hp with rfl | rfl
      · exact hH
      · exact hz))
  refine wpRel_step rfl rfl (by rfl) (fun K' hK => ?_)
  go_simp
  refine (hCc.out).mono ?_
  rintro e W5 ⟨gt, ct, rfl, hO, b5⟩
  refine hK.out _ _ (KeptBut.of_below _ b5) ?_
  clear hK K'
  try simp only [Act.put, List.setIfInBounds_toArray, List.set_cons_zero, List.set_cons_succ]
  clear hCc
  replace h := h.below b5
  replace P := P.below b5
  replace R := R.below b5
  replace sd := sd.trans (b5.mono sd.size)
  clear b5 hR hH hz
  repeat' (first
    | (refine wpRel_quiet (v := ?_) rfl rfl (fun _ _ _ h => h) (by rfl) ?_ ?_
       rotate_left
       · (intro w' hR; go_simp; try rfl)
       simp only [Act.put, List.setIfInBounds_toArray, List.set_cons_zero, List.set_cons_succ])
    | fail)
  have hWr := hide (pen_write_off h P hq hp hl i hO.bs m hsz (by have := hT.out; omega))
  clear hO h P hT R
  refine wpRel_step rfl rfl (by rfl) (fun K' hK => ?_)
  go_simp
  refine (hWr.out).mono ?_
  rintro e W6 ⟨rfl, b6⟩
  exact ⟨rfl, rfl, sd.trans (b6.mono sd.size)⟩

set_option maxHeartbeats 4000000 in
/-- The power goes behind the write. -/
theorem add_cut (h : Cl w0 W Z g D) (P : Pn w0 Z W gp g key boot seq) (R : Rg w0 Z W gr gp at_ size epoch count) (hne : gr ≠ gp) (he : 0 ≤ epoch ∧ epoch < 18446744073709551616) (hc : 0 ≤ count ∧ count < size) (hsz2 : size ≤ 100000) (ha : 0 ≤ at_ ∧ at_ ≤ 1000000) {a : Option Addr} {len cap : Nat} {zs : List Int} (hz : Bs W a len cap zs) (m : Nat) (hsz : D.size = m + 22) (hlen : len + 12 ≤ m) (i : Int) (hi : at_ + count = i) (hq : Glob w0) {p : Addr} (hp : Pow p w0) (hl : D.left = 1) (hlim : D.tr.length < 999999) (hlw : D.wait.length < 1000000) (hs : seq < 18446744073709551615) :
    Calls Tryd.prog 12 #[.pointer (some ⟨gr, 0, none⟩), .slice a len cap] W fun ex W' => ∃ Z' x, ex = .panicked [{ v := errV p, recovered := false }] ∧ Hid (x.zs = sealL key boot seq (headR epoch count ++ zs) m) ∧ Cl w0 W' Z' g (D.puts i x) ∧ Pn w0 Z' W' gp g key boot (seq + 1) ∧ Step (Z.also gp) W (Z'.also gp) W' := by
  have hw : IntKind.i64.wrap (at_ + count) = i := by rw [IntKind.wrap_i64]; omega
  clear hi
  have hlt : count < size := hc.2
  have hzl := hz.length
  have hsl := h.size_le
  go_enter Tryd.func12, Tryd.ntmps12
  go_wp2_with fail
  refine wp_region_rel Kept [0, 1, 2, 3, 4, 5, 6, 7, 8] (by kernel_rfl) (by kernel_rfl) (by kernel_rfl) Kept.refl Kept.trans ?_
  have sd : Below W.heap.size W W.drew := (Below.refl _ _).drew
  replace h := h.below sd
  replace P := P.below sd
  replace R := R.below sd
  replace hz := hz.below sd
  generalize W.drew = W1 at *
  repeat' (first
    | (refine wpRel_quiet (v := ?_) rfl rfl (fun _ _ _ h => h) (by rfl) ?_ ?_
       rotate_left
       · (intro w' hR; have c4 := (R.below hR).c4; have c2 := (R.below hR).c2; go_simp; try rfl)
       simp only [Act.put, List.setIfInBounds_toArray, List.set_cons_zero, List.set_cons_succ])
    | fail)
  refine wpRel_nil ?_
  go_wp2_with fail
  refine wp_region_rel (KeptBut (Z.also gp).S) [0, 1, 2, 3, 4, 5, 6, 7, 8, 9, 10, 11, 12, 13, 14, 15, 16, 17, 18, 19, 20, 22, 21, 23, 24, 25, 26] (by kernel_rfl) (by kernel_rfl) (by kernel_rfl) (KeptBut.refl _) KeptBut.trans ?_
  have sd2 : Below W1.heap.size W1 W1.drew := (Below.refl _ _).drew
  replace h := h.below sd2
  replace P := P.below sd2
  replace R := R.below sd2
  replace hz := hz.below sd2
  replace sd := sd.trans (sd2.mono sd.size)
  clear sd2
  generalize W1.drew = W2 at *
  repeat' (first
    | (refine wpRel_quiet (v := ?_) rfl rfl (fun _ _ _ h => h) (by rfl) ?_ ?_
       rotate_left
       · (intro w' hR; have c0 := (R.kept hR hne).c0; have c1 := (R.kept hR hne).c1; have c4 := (R.kept hR hne).c4; have c3 := (R.kept hR hne).c3; go_simp; try rfl)
       simp only [Act.put, List.setIfInBounds_toArray, List.set_cons_zero, List.set_cons_succ])
    | fail)
  refine wpRel_step rfl rfl (by rfl) (fun K' hK => ?_)
  go_simp
  refine (rhd_any epoch count W2 he (by omega)).mono ?_
  rintro e W3 ⟨gh, ch, rfl, hO, b3⟩
  refine hK.out _ _ (KeptBut.of_below _ b3) ?_
  clear hK K'
  try simp only [Act.put, List.setIfInBounds_toArray, List.set_cons_zero, List.set_cons_succ]
  have hH := hO.bs
  replace h := h.below b3
  replace P := P.below b3
  replace hz := hz.below b3
  replace sd := sd.trans (b3.mono sd.size)
  replace R := R.below b3
  clear hO b3
  refine wpRel_step rfl rfl (by rfl) (fun K' hK => ?_)
  refine wp_buildSliceTo 22 36 2 _ (by rfl) Tryd.underlying22 [(0, .slice (some ⟨gh, 0, none⟩) 12 ch), (1, .slice a len cap)] (by kernel_rfl) #[.slice (some ⟨gh, 0, none⟩) 12 ch, .slice a len cap] (by kernel_rfl) ?_
  have b1 : Below W3.heap.size W3 (W3.alloc (.cells #[.slice (some ⟨gh, 0, none⟩) 12 ch, .slice a len cap] 36)) := below_alloc (Below.refl _ _) _
  have hR := heap_alloc_new W3 (.cells #[.slice (some ⟨gh, 0, none⟩) 12 ch, .slice a len cap] 36)
  refine hK.out _ _ (KeptBut.of_below _ b1) ?_
  clear hK K'
  try simp only [Act.put, List.setIfInBounds_toArray, List.set_cons_zero, List.set_cons_succ]
  replace h := h.below b1
  replace P := P.below b1
  replace hz := hz.below b1
  replace hH := hH.below b1
  replace R := R.below b1
  replace sd := sd.trans (b1.mono sd.size)
  clear b1
  generalize (W3.alloc _) = W4 at *
  generalize W3.heap.size = gv at *
  obtain ⟨T, hT⟩ : ∃ T, Hid (12 + len = T) := ⟨_, hide rfl⟩
  have hCc := hide (concat_is gv 2 [⟨some ⟨gh, 0, none⟩, 12, ch, headR epoch count⟩, ⟨a, len, cap, zs⟩] (headR epoch count ++ zs) T W4 rfl (by omega) (by simp [partsBytes]) (by rw [List.length_append, headR_length, hzl]; exact hT.out) (by have := hT.out; omega) (by have := hT.out; omega) _ hR rfl (by
      intro p hp
      simp only [List.mem_cons, List.not_mem_nil, or_false] at hp
      rcases hp with rfl | rfl
      · exact hH
      · exact hz))
  refine wpRel_step rfl rfl (by rfl) (fun K' hK => ?_)
  go_simp
  refine (hCc.out).mono ?_
  rintro e W5 ⟨gt, ct, rfl, hO, b5⟩
  refine hK.out _ _ (KeptBut.of_below _ b5) ?_
  clear hK K'
  try simp only [Act.put, List.setIfInBounds_toArray, List.set_cons_zero, List.set_cons_succ]
  clear hCc
  replace h := h.below b5
  replace P := P.below b5
  replace R := R.below b5
  replace sd := sd.trans (b5.mono sd.size)
  clear b5 hR hH hz
  repeat' (first
    | (refine wpRel_quiet (v := ?_) rfl rfl (fun _ _ _ h => h) (by rfl) ?_ ?_
       rotate_left
       · (intro w' hR; go_simp; try rfl)
       simp only [Act.put, List.setIfInBounds_toArray, List.set_cons_zero, List.set_cons_succ])
    | fail)
  have hWr := hide (pen_write h P hq (by omega) (by omega) hlw hs i hO.bs m hsz (by have := hT.out; omega))
  clear hO h P hT
  refine wpRel_step rfl rfl (by rfl) (fun K' hK => ?_)
  go_simp
  refine (hWr.out).mono ?_
  rintro e W6 ⟨Z6, x, rfl, hx, C, P, s6⟩
  refine hK.out _ _ (KeptBut.of_step s6) ?_
  clear hK K'
  try simp only [Act.put, List.setIfInBounds_toArray, List.set_cons_zero, List.set_cons_succ]
  replace R := R.beside s6 hne
  have s7 := (Step.of_below (Z.also gp) sd).trans s6
  clear hWr s6 sd
  repeat' (first
    | (refine wpRel_quiet (v := ?_) rfl rfl (fun _ _ _ h => h) (by rfl) ?_ ?_
       rotate_left
       · (intro w' hR; go_simp; try rfl)
       simp only [Act.put, List.setIfInBounds_toArray, List.set_cons_zero, List.set_cons_succ])
    | fail)
  refine wpRel_nil ?_
  obtain ⟨f1, f2, f3⟩ := puts_is D i x
  have hF := hide (pen_flush_off C P hp (by rw [f3, hl]; rfl))
  have c0 := R.c0
  clear f1 f2 f3
  go_wp2_with fail
  refine hF.out.mono ?_
  rintro e W8 ⟨rfl, rfl⟩
  go_wp2_with fail
  exact ⟨rfl, Z6, x, rfl, hx, C, P, s7⟩

end
#print axioms add_full
#print axioms add_big
#print axioms add_ok
#print axioms add_off
#print axioms add_cut
end Go.Proofs.YtkpkipjelpedeaaDoor

/- What a call of (*ring.Ring).Load does where the power stays: for every device, every pen and every ring in memory. The variable of package quar reads as its text says. No conditions but those that each line states. -/
namespace Go.Proofs.YtkpkipjelpedeaaDoor
open Go.RowKit
set_option maxRecDepth 20000

/-- What was done behind a step turns only what is newer than all of it. -/
theorem Step.later {Z Z' : Own} {w a b : World} (s : Step Z w Z' a) (h : Below w.heap.size a b) : Step Z w Z' b :=
  ⟨h.os.trans s.os, h.tape.trans s.tape, h.output.trans s.output, Nat.le_trans s.size h.size, fun k hk hn => (h.block k hk).trans (s.block k hk hn), s.fresh⟩
theorem Cl.keep {w0 W W' : World} {Z : Own} {g : Nat} {D : DS} (h : Cl w0 W Z g D) (hb : ∀ k, Z.S k → W'.heap[k]? = W.heap[k]?) (b : Below w0.heap.size W W') : Cl w0 W' Z g D := ⟨h.dk.keep hb b.size, h.frm, h.bel.trans b⟩
theorem Recs.only {base k : Nat} {Z : Own} {W W' : World} {a : Option Addr} {n cap : Nat} {l : List BV} (h : Recs base Z W a n cap l) (o : OnlyAt k W W') (hk : k < base) (hx : ∀ x ∈ l, 0 < x.len → ∀ p, x.a = some p → p.block ≠ k) : Recs base Z W' a n cap l := by
  refine ⟨h.own.keep1 fun g hg => o.block g ?_, h.aside, fun x hxl => ⟨(h.item x hxl).bs.keepAt fun h0 p hp => o.block _ (hx x hxl h0 p hp), fun h0 p hp => ?_⟩, h.apart⟩
  · rcases h.own.place with h1 | ⟨g', h1, h2, _⟩
    · rw [h1] at hg; cases hg
    · rw [h1] at hg; cases hg; omega
  · rw [o.size]
    exact (h.item x hxl).out h0 p hp
theorem Has.keep {Z : Own} {W W' : World} {k : Nat} {o : Obj} (h : Has Z W k o) (hb : W'.heap[k]? = W.heap[k]?) : Has Z W' k o := ⟨hb.trans h.1, h.2⟩

section
variable {w0 W : World} {Z : Own} {g gp gr : Nat} {D : DS} {key : List Int} {boot seq at_ epoch count : Int}
/-- What a round of Load finds. -/
structure LoadI (w0 W wr : World) (Z Z1 : Own) (g gp gr : Nat) (D D1 : DS) (key : List Int) (boot seq at_ : Int) (sz : Nat) (e epoch count : Int) (k : Nat) (a : Option Addr) (n c : Nat) (l : List BV) : Prop where
  cl : Cl w0 wr Z1 g D1
  pn : Pn w0 Z1 wr gp g key boot seq
  rg : Rg w0 Z1 wr gr gp at_ (sz : Int) epoch count
  row : Recs W.heap.size Z1 wr a n c l
  st : Step Z W Z1 wr
  sc : Scans D D1 at_ k
  is : l.map BV.zs = loadL (fun j => openR key (D.shows (at_ + (j : Int)))) e k
  new : ∀ x ∈ l, 0 < x.len → ∀ p, x.a = some p → W.heap.size ≤ p.block
theorem LoadI.le {w0 W wr : World} {Z Z1 : Own} {g gp gr : Nat} {D D1 : DS} {key : List Int} {boot seq at_ : Int} {sz : Nat} {e epoch count : Int} {k : Nat} {a : Option Addr} {n c : Nat} {l : List BV} (h : LoadI w0 W wr Z Z1 g gp gr D D1 key boot seq at_ sz e epoch count k a n c l) : n ≤ k := by
  have h1 := loadL_len (fun j => openR key (D.shows (at_ + (j : Int)))) e k
  rw [← h.is, List.length_map, h.row.len] at h1
  exact h1
set_option maxHeartbeats 4000000 in
theorem ring_load (h : Cl w0 W Z g D) (P : Pn w0 Z W gp g key boot seq) (sz : Nat) (R : Rg w0 Z W gr gp at_ (sz : Int) epoch count) (hne : gr ≠ gp) (hq : Glob w0) (hl : D.left = -1) (hsz : sz ≤ 100000) (hlim : D.tr.length < 800000) (ha : 0 ≤ at_ ∧ at_ ≤ 1000000) (e : Int) (he : 0 ≤ e ∧ e < 18446744073709551616) :
    Calls Tryd.prog 14 #[.pointer (some ⟨gr, 0, none⟩), .int .u64 e] W fun ex W' => ∃ Z' D' a n c l, ex = .returned (.slice a n c) ∧ Scans D D' at_ sz ∧ l.map BV.zs = loadL (fun j => openR key (D.shows (at_ + (j : Int)))) e sz ∧ Recs W.heap.size Z' W' a n c l ∧ Cl w0 W' Z' g D' ∧ Pn w0 Z' W' gp g key boot seq ∧ Rg w0 Z' W' gr gp at_ (sz : Int) e (n : Int) ∧ Step (Z.also gr) W (Z'.also gr) W' := by
  have HI0 : Hid (LoadI w0 W W Z Z g gp gr D D key boot seq at_ sz e epoch count 0 none 0 0 []) := hide ⟨h, P, R, Recs.nil _ _ _, Step.refl _ _, Scans.refl hl at_, rfl, fun _ h => by cases h⟩
  have c2 := R.c2
  have hrl := R.lt
  have hpl := P.lt
  have hfr := h.size
  clear h P R
  go_enter Tryd.func14, Tryd.ntmps14
  go_wp2_with fail
  clear c2
  go_loopw [5, 13] (fun v5 v13 wr => ∃ (k n c : Nat) (a : Option Addr) (l : List BV) (Z1 : Own) (D1 : DS), k ≤ sz ∧ v5 = .slice a n c ∧ v13 = .int .i64 (k : Int) ∧ LoadI w0 W wr Z Z1 g gp gr D D1 key boot seq at_ sz e epoch count k a n c l) (fun _ v13 _ => sz - (intOf v13).toNat)
  case atStart => exact ⟨0, 0, 0, none, [], Z, D, Nat.zero_le _, rfl, rfl, HI0.out⟩
  case round =>
    clear HI0
    obtain ⟨k, n, c, a, l, Z1, D1, hk, rfl, rfl, hI⟩ := hrel
    by_cases hlt : k < sz
    · have hle := hI.le
      have hsc := hI.sc
      have HL := hide (And.intro hI.row (And.intro hI.st (And.intro hsc (And.intro hI.is hI.new))))
      have hst := hide (rstand_any hI.cl hI.pn hI.rg hq (by rw [hsc.left]; decide) (by rw [hsc.len]; omega) e (k : Int) (at_ + (k : Int)) he (by omega) ha rfl _ rfl)
      rw [hsc.shows] at hst
      clear hI hsc
      obtain ⟨us, hus⟩ : ∃ us, Hid (openR key (D.shows (at_ + (k : Int))) = us) := ⟨_, hide rfl⟩
      rw [hus.out] at hst
      obtain ⟨ok, hok⟩ : ∃ ok, Hid (okR us e (k : Int) = ok) := ⟨_, hide rfl⟩
      rw [hok.out] at hst
      obtain ⟨rs, hrs⟩ : ∃ rs, Hid ((if ok = true then us.drop 12 else []) = rs) := ⟨_, hide rfl⟩
      rw [hrs.out] at hst
      obtain ⟨i, hi⟩ : ∃ i, Hid (at_ + (k : Int) = i) := ⟨_, hide rfl⟩
      rw [hi.out] at hst
      go_wp2_with fail
      refine hst.out.mono ?_
      rintro ex W1 ⟨Z2, a1, n1, c1, rfl, B1, hfr1, C1, P1, R1, s1⟩
      obtain ⟨hrow, hstp, hsc, his, hnew⟩ := HL.out
      have hw0 := hstp.size
      have row1 := hrow.step s1
      have stp1 := hstp.trans s1
      have sc1 := hsc.next i hi.out
      have hapart : 0 < n1 → ∀ p, a1 = some p → ∀ g', a = some ⟨g', 0, none⟩ → p.block ≠ g' := fun h0 p hp g' hg' e' => by
        have h1 := hfr1 h0 p hp
        rcases hrow.own.place with h2 | ⟨g2, h2, _, h3⟩
        · rw [h2] at hg'; cases hg'
        · rw [h2] at hg'; cases hg'; omega
      have hB1 := B1
      have hnew1 : ∀ x ∈ l ++ [⟨a1, n1, c1, rs⟩], 0 < x.len → ∀ p, x.a = some p → W.heap.size ≤ p.block := fun x hx h0 p hp => by
        rcases List.mem_append.1 hx with hx | hx
        · exact hnew x hx h0 p hp
        · rw [List.mem_singleton] at hx
          subst hx
          exact Nat.le_trans hw0 (hfr1 h0 p hp)
      clear HL hst hrow hstp hsc s1 hfr1 B1
      have hbw : W.heap.size ≤ W1.heap.size := stp1.size
      have hln := row1.len
      -- what the loading comes to with this place
      have HS : Hid (loadL (fun j => openR key (D.shows (at_ + (j : Int)))) e (k + 1) = if (ok && decide (n = k)) = true then l.map BV.zs ++ [us.drop 12] else l.map BV.zs) := by
        show _ = _
        rw [loadL, ← his]
        simp only [List.length_map, hln]
        rw [hus.out, hok.out]
      clear his
      cases ok with
      | false =>
        have hn2 : LoadI w0 W W1 Z Z2 g gp gr D (D1.asks i) key boot seq at_ sz e epoch count (k + 1) a n c l := ⟨C1, P1, R1, row1, stp1, sc1, by rw [HS.out, Bool.false_and]; rfl, hnew⟩
        have HI := hide hn2
        clear hn2 HS C1 P1 R1 row1 stp1 sc1 hrs hok hus hB1 hapart hnew hnew1
        go_wp2_with fail
        go_roundw
        case rel => exact ⟨k + 1, n, c, a, l, _, _, by omega, rfl, by go_num, HI.out⟩
        case measure => simp [intOf]; omega
      | true =>
        by_cases hnk : n = k
        · subst hnk
          have hlw := C1.dk.lt
          obtain ⟨a2, c2, W2, hr2, row2, b2, k2⟩ := row1.append ⟨a1, n1, c1, rs⟩ hB1 hapart (by omega) hbw hlw 22
          have hne2 : ∀ k, Z2.S k → W2.heap[k]? = W1.heap[k]? := fun k hs => k2 k (hlw k hs) (fun e' => row1.aside k e' hs)
          have hapk : ∀ k, k < W.heap.size → W2.heap[k]? = W1.heap[k]? := fun k hk => b2.block k hk
          have hn2 : LoadI w0 W W2 Z Z2 g gp gr D (D1.asks i) key boot seq at_ sz e epoch count (n + 1) a2 (n + 1) c2 (l ++ [⟨a1, n1, c1, rs⟩]) :=
            ⟨C1.keep hne2 (b2.mono hfr), ⟨P1.at_.keep (hapk _ hpl), P1.frm, P1.kb, P1.kl, P1.bt, P1.sq⟩, ⟨R1.has.keep (hapk _ hrl), R1.frm⟩, row2, stp1.later b2, sc1, by
              rw [HS.out, decide_eq_true rfl, List.map_append, ← hrs.out]; rfl, hnew1⟩
          have HI := hide hn2
          clear hn2 HS C1 P1 R1 row1 stp1 sc1 hrs hok hus hB1 hapart hnew hnew1 row2 b2 k2 hne2 hapk hlw
          go_wp2_with (at_builtin; refine wpList_append_run (by rfl) (.tmp 30) (.tmp 32) 22 (by rfl) _ _ _ _ (by rfl) (by rfl) hr2 ?_)
          go_roundw
          case rel => exact ⟨n + 1, n + 1, c2, a2, _, _, _, by omega, rfl, by go_num, HI.out⟩
          case measure => simp [intOf]; omega
        · have hnk2 : ¬ (n : Int) = (k : Int) := by omega
          have hn2 : LoadI w0 W W1 Z Z2 g gp gr D (D1.asks i) key boot seq at_ sz e epoch count (k + 1) a n c l := ⟨C1, P1, R1, row1, stp1, sc1, by rw [HS.out, decide_eq_false hnk]; rfl, hnew⟩
          have HI := hide hn2
          clear hn2 HS C1 P1 R1 row1 stp1 sc1 hrs hok hus hB1 hapart hnew hnew1 hnk
          go_wp2_with fail
          go_roundw
          case rel => exact ⟨k + 1, n, c, a, l, _, _, by omega, rfl, by go_num, HI.out⟩
          case measure => simp [intOf]; omega
    · have hks : k = sz := by omega
      subst hks
      have R1 := hI.rg.set3 e
      have f1 := hI.rg.froz 3
      have f2 := R1.froz 4
      have d3 := hI.rg.c3
      have d4 := R1.c4
      have o1 := OnlyAt.setCell gr 3 wr (.int .u64 e)
      have o2 := OnlyAt.setCell gr 4 (wr.setCell ⟨gr, 3, none⟩ (.int .u64 e)) (.int .i64 (n : Int))
      have R2 := R1.set4 (n : Int)
      have C2 := (hI.cl.only o1 hI.rg.has.2 hI.rg.frm).only o2 hI.rg.has.2 hI.rg.frm
      have P2 : Pn w0 Z1 ((wr.setCell ⟨gr, 3, none⟩ (.int .u64 e)).setCell ⟨gr, 4, none⟩ (.int .i64 (n : Int))) gp g key boot seq := ⟨(hI.pn.at_.only o1 (Ne.symm hne)).only o2 (Ne.symm hne), hI.pn.frm, hI.pn.kb, hI.pn.kl, hI.pn.bt, hI.pn.sq⟩
      have s2 := ((hI.st.wide gr).trans (Step.only (Z := Z1) o1)).trans (Step.only (Z := Z1) o2)
      have hrow := hI.row.only o1 hrl fun x hx h0 p hp => by have := hI.new x hx h0 p hp; omega
      replace hrow := hrow.only o2 hrl fun x hx h0 p hp => by have := hI.new x hx h0 p hp; omega
      have HE := hide (And.intro hI.sc (And.intro hI.is (And.intro hrow (And.intro C2 (And.intro P2 (And.intro R2 s2))))))
      clear hI R1 o1 o2 R2 C2 P2 s2 hrow hlt
      go_wp2_with fail
      go_ret
      obtain ⟨h1, h2, h3, h4, h5, h6, h7⟩ := HE.out
      exact ⟨Z1, D1, a, n, c, l, rfl, h1, h2, h3, h4, h5, h6, h7⟩
end
#print axioms ring_load
end Go.Proofs.YtkpkipjelpedeaaDoor

/- Logs on devices, rec by rec; the calls of package ring where the power stays, at places that are there. The variable of package quar reads as its text says. No conditions but those that each line states. -/
namespace Go.Proofs.YtkpkipjelpedeaaDoor
open Go.RowKit
set_option maxRecDepth 20000

/-- What stands in place j of a log from block b on. -/
def txtR (key : List Int) (D : DS) (b j : Nat) : List Int := openR key (D.at_ (b + j))
theorem txt_closed {key : List Int} {D : DS} {b j : Nat} (h : openB key (D.at_ (b + j)) = false) : txtR key D b j = [] := openR_closed h
theorem txt_sealed {key : List Int} {D : DS} {b j : Nat} {bt sq : Int} {zs : List Int} {m : Nat} (h : D.at_ (b + j) = sealL key bt sq zs m) (hb : 0 ≤ bt ∧ bt < 4294967296) (hs : 0 ≤ sq ∧ sq < 18446744073709551616) (hz : IsBytes zs) (hl : zs.length ≤ m) (hm : m ≤ 60000) : txtR key D b j = zs := by
  unfold txtR
  rw [h]
  exact (open_is key bt sq zs m hb hs hz hl hm).1
theorem loadL_congr {f g : Nat → List Int} (e : Int) : ∀ k, (∀ j, j < k → f j = g j) → loadL f e k = loadL g e k := by
  intro k
  induction k with
  | zero => intro _; rfl
  | succ k ih =>
    intro h
    unfold loadL
    rw [ih fun j hj => h j (by omega), h k (by omega)]
/-- The log of epoch e, from block b on, of sz places, holds rs. -/
structure Logd (key : List Int) (D : DS) (b sz : Nat) (e : Int) (rs : List (List Int)) : Prop where
  ok : ∀ j (h : j < rs.length), txtR key D b j = headR e (j : Int) ++ rs[j]
  le : rs.length ≤ sz
  rest : ∀ j, rs.length ≤ j → j < sz → okR (txtR key D b j) e (j : Int) = false
theorem Logd.start {key : List Int} {D : DS} {b sz : Nat} {e : Int} (h : ∀ j, j < sz → okR (txtR key D b j) e (j : Int) = false) : Logd key D b sz e [] :=
  ⟨fun j hj => absurd hj (Nat.not_lt_zero j), Nat.zero_le _, fun j _ hj => h j hj⟩
theorem Logd.load {key : List Int} {D : DS} {b sz : Nat} {e : Int} {rs : List (List Int)} (h : Logd key D b sz e rs) : loadL (txtR key D b) e sz = rs := loadL_all h.ok h.le fun hlt => h.rest _ (Nat.le_refl _) hlt
theorem Logd.same {key : List Int} {D D' : DS} {b sz : Nat} {e : Int} {rs : List (List Int)} (h : Logd key D b sz e rs) (ha : ∀ j, D'.at_ j = D.at_ j) : Logd key D' b sz e rs := by
  have e1 : ∀ j, txtR key D' b j = txtR key D b j := fun j => by unfold txtR; rw [ha]
  exact ⟨fun j hj => (e1 j).trans (h.ok j hj), h.le, fun j h1 h2 => by rw [e1]; exact h.rest j h1 h2⟩
theorem Logd.add {key : List Int} {D D' : DS} {b sz : Nat} {e : Int} {rs : List (List Int)} {r : List Int} {bt sq : Int} {m : Nat} (h : Logd key D b sz e rs) (hlt : rs.length < sz) (S : Stands D D' (b + rs.length) (sealL key bt sq (headR e (rs.length : Int) ++ r) m)) (hb : 0 ≤ bt ∧ bt < 4294967296) (hs : 0 ≤ sq ∧ sq < 18446744073709551616) (hr : IsBytes r) (hl : r.length + 12 ≤ m) (hm : m ≤ 60000) : Logd key D' b sz e (rs ++ [r]) := by
  have e1 : ∀ j, j ≠ rs.length → txtR key D' b j = txtR key D b j := fun j hj => by
    unfold txtR
    rw [S.at_, if_neg (by omega)]
  have e2 : txtR key D' b rs.length = headR e (rs.length : Int) ++ r := txt_sealed (by rw [S.at_, if_pos rfl]) hb hs ((headR_bytes _ _).append hr) (by rw [List.length_append, headR_length]; omega) hm
  refine ⟨fun j hj => ?_, by rw [List.length_append, List.length_singleton]; omega, fun j h1 h2 => ?_⟩
  · rw [List.length_append, List.length_singleton] at hj
    by_cases hje : j = rs.length
    · subst hje
      rw [e2, List.getElem_append_right (Nat.le_refl _)]
      simp
    · rw [e1 j hje, List.getElem_append_left (by omega)]
      exact h.ok j (by omega)
  · rw [List.length_append, List.length_singleton] at h1
    rw [e1 j (by omega)]
    exact h.rest j (by omega) h2

section
variable {w0 W : World} {Z : Own} {g gp gr : Nat} {D : DS} {key : List Int} {boot seq e : Int} {b sz c : Nat}
theorem rnew_at (h : Cl w0 W Z g D) (gp : Nat) (at_ size : Int) (b sz : Nat) (hb : at_ = (b : Int)) (hs : min (max size 0) 100000 = (sz : Int)) :
    Calls Tryd.prog 9 #[.pointer (some ⟨gp, 0, none⟩), .int .i64 at_, .int .i64 size] W fun ex W' => ∃ gr, ex = .returned (.pointer (some ⟨gr, 0, none⟩)) ∧ W.heap.size ≤ gr ∧ Rg w0 Z W' gr gp (b : Int) (sz : Int) 0 ((0 : Nat) : Int) ∧ Below W.heap.size W W' := by
  refine (ring_new h gp at_ size).mono ?_
  rintro ex W' ⟨rfl, R, b1⟩
  rw [hs, hb] at R
  exact ⟨_, rfl, Nat.le_refl _, R, b1⟩
theorem rstart_at {count e0 : Int} (R : Rg w0 Z W gr gp (b : Int) (sz : Int) e0 count) (e : Int) :
    Calls Tryd.prog 10 #[.pointer (some ⟨gr, 0, none⟩), .int .u64 e] W fun ex W' => ex = .returned (.tuple #[]) ∧ Rg w0 Z W' gr gp (b : Int) (sz : Int) e ((0 : Nat) : Int) ∧ OnlyAt gr W W' := ring_start R e
theorem radd_at (h : Cl w0 W Z g D) (P : Pn w0 Z W gp g key boot seq) (R : Rg w0 Z W gr gp (b : Int) (sz : Int) e (c : Int)) (hne : gr ≠ gp) (hq : Glob w0) (hl : D.left = -1) (hlim : D.tr.length < 999999) (hlw : D.wait.length < 1000000) (hs : seq < 18446744073709551615) (he : 0 ≤ e ∧ e < 18446744073709551616) (hc : c < sz) (hsz : sz ≤ 100000) (hb : b ≤ 1000000) (hbn : b + c < D.n) {a : Option Addr} {len cap : Nat} {zs : List Int} (hz : Bs W a len cap zs) (m : Nat) (hm : D.size = m + 22) (hlen : len + 12 ≤ m) :
    Calls Tryd.prog 12 #[.pointer (some ⟨gr, 0, none⟩), .slice a len cap] W fun ex W' => ∃ Z' D', ex = .returned (.bool true) ∧ Stands D D' (b + c) (sealL key boot seq (headR e (c : Int) ++ zs) m) ∧ Cl w0 W' Z' g D' ∧ Pn w0 Z' W' gp g key boot (seq + 1) ∧ Rg w0 Z' W' gr gp (b : Int) (sz : Int) e ((c + 1 : Nat) : Int) ∧ Step ((Z.also gp).also gr) W ((Z'.also gp).also gr) W' := by
  have hzl := hz.length
  refine (add_ok h P R hne he (by omega) (by omega) (by omega) hz m hm hlen ((b + c : Nat) : Int) (by omega) hq (by omega) (by omega) hlim hlw hs).mono ?_
  rintro ex W' ⟨Z', x, rfl, hx, C, P', R', s⟩
  refine ⟨Z', _, rfl, Stands.done hl (b + c) hbn x _ hx.out ?_, C, P', ?_, s⟩
  · rw [sealL_length _ _ _ _ _ (by rw [List.length_append, headR_length, hzl]; omega), hm]
  · rw [show ((c + 1 : Nat) : Int) = (c : Int) + 1 by omega]
    exact R'
theorem rload_at (h : Cl w0 W Z g D) (P : Pn w0 Z W gp g key boot seq) {count e0 : Int} (R : Rg w0 Z W gr gp (b : Int) (sz : Int) e0 count) (hne : gr ≠ gp) (hq : Glob w0) (hl : D.left = -1) (hsz : sz ≤ 100000) (hlim : D.tr.length < 800000) (hb : b ≤ 1000000) (hbn : b + sz ≤ D.n) (e : Int) (he : 0 ≤ e ∧ e < 18446744073709551616) (rs : List (List Int)) (hrs : loadL (txtR key D b) e sz = rs) (n : Nat) (hn : rs.length = n) :
    Calls Tryd.prog 14 #[.pointer (some ⟨gr, 0, none⟩), .int .u64 e] W fun ex W' => ∃ Z' D' a c l, ex = .returned (.slice a n c) ∧ Scans D D' (b : Int) sz ∧ l.map BV.zs = rs ∧ Recs W.heap.size Z' W' a n c l ∧ Cl w0 W' Z' g D' ∧ Pn w0 Z' W' gp g key boot seq ∧ Rg w0 Z' W' gr gp (b : Int) (sz : Int) e (n : Int) ∧ Step (Z.also gr) W (Z'.also gr) W' := by
  subst hn hrs
  refine (ring_load h P sz R hne hq hl hsz hlim (by omega) e he).mono ?_
  rintro ex W' ⟨Z', D', a, n, c, l, rfl, h1, h2, h3, h4, h5, h6, h7⟩
  have h2' : l.map BV.zs = loadL (txtR key D b) e sz := by
    rw [h2]
    refine loadL_congr e sz fun j hj => ?_
    unfold txtR
    rw [shows_nat (b + j) (by omega) (by omega)]
  have hn : n = (loadL (txtR key D b) e sz).length := by rw [← h2', List.length_map, h3.len]
  subst hn
  exact ⟨Z', D', a, c, l, rfl, h1, h2', h3, h4, h5, h6, h7⟩
end
#print axioms radd_at
#print axioms rload_at
end Go.Proofs.YtkpkipjelpedeaaDoor

/- What a call of dumbwaiterlaw6.Since tells: the events from one on; all else is as it was. No conditions but those that each line states. -/
namespace Go.Proofs.YtkpkipjelpedeaaDoor
open Go.RowKit
set_option maxRecDepth 20000

theorem size_ev : (Tryd.prog.info? 40).map (·.size) = some 15 := by kernel_rfl
/-- The slice '.slice a n n' tells kinds and places of these events. -/
structure Sees (w : World) (a : Option Addr) (l : List Ev) : Prop where
  ev : ∀ (j : Nat) (e : Ev), l[j]? = some e → ∃ te o, a = some ⟨te, o, none⟩ ∧ te < w.heap.size ∧ w.cell? ⟨te, o + j * 15, none⟩ = some (.int .i64 e.kind) ∧ w.cell? ⟨te, o + j * 15 + 1, none⟩ = some (.int .i64 e.at_)
theorem Sees.below {w w' : World} {a : Option Addr} {l : List Ev} (h : Sees w a l) (b : Below w.heap.size w w') : Sees w' a l := ⟨fun j e he => by
  obtain ⟨te, o, h1, h2, h3, h4⟩ := h.ev j e he
  exact ⟨te, o, h1, Nat.lt_of_lt_of_le h2 b.size, keep_cell h3 b, keep_cell h4 b⟩⟩
set_option maxHeartbeats 2000000 in
theorem since_any {w0 W : World} {Z : Own} {g : Nat} {D : DS} (h : Cl w0 W Z g D) (k n : Nat) (hk : D.tr.length = k + n) (hlim : k + n < 900000) (l : List Ev) (hl : D.tr.drop k = l) :
    Calls Tryd.prog 13 #[.pointer (some ⟨g, 0, none⟩), .int .i64 (k : Int)] W fun e W' => ∃ a, e = .returned (.slice a n n) ∧ Sees W' a l ∧ Cl w0 W' Z g D ∧ Below W.heap.size W W' := by
  have HTr := hide (h.trace (by omega) (k + n) D.size hk rfl)
  have hsl : ∀ te w', (Instr.slice 33 (.slice (some ⟨te, 0, none⟩) (k + n) (k + n)) (some (.int .i64 (k : Int))) none none).run Tryd.prog w' = .ok (.slice (if n = 0 then some ⟨te, 0, none⟩ else some ⟨te, 15 * k, none⟩) n n) w' := fun te w' => by
    obtain ⟨info, hq, hsz⟩ := Option.map_eq_some_iff.1 size_ev
    have e : Tryd.prog.elem 33 = 40 := by simp [Program.elem, Tryd.underlying33]
    rw [run_slice_l w' 33 _ (k + n) (k + n) (by rw [e]; exact Tryd.underlying33) .i64 k (by omega) (by omega), e]
    by_cases h0 : n = 0
    · subst h0
      simp [sizeOf, typeInfo, hq, hsz, sliced]
    · simp [sizeOf, typeInfo, hq, hsz, sliced, addr_add, Nat.mul_comm, h0]
  have hmin : min (k : Int) ((k : Int) + (n : Int)) = (k : Int) := by omega
  subst hl
  clear h
  go_enter Tryd.func13, Tryd.ntmps13
  go_wp2_with fail
  refine HTr.out.mono ?_
  rintro e W1 ⟨rfl, T, C, b⟩
  have hs1 := hsl W.heap.size
  have hT : Sees W1 (if n = 0 then some ⟨W.heap.size, 0, none⟩ else some ⟨W.heap.size, 15 * k, none⟩) (D.tr.drop k) := ⟨fun j ev he => by
    rw [List.getElem?_drop] at he
    have hj : k + j < D.tr.length := (List.getElem?_eq_some_iff.1 he).1
    have hn : ¬ n = 0 := by omega
    have c1 := T.kind (k + j) ev he
    have c2 := T.place (k + j) ev he
    rw [if_neg hn]
    refine ⟨_, _, rfl, World.block_lt_of_cell? W1 _ c1, ?_, ?_⟩
    · rw [show 15 * k + j * 15 = (k + j) * 15 by omega]; exact c1
    · rw [show 15 * k + j * 15 = (k + j) * 15 by omega]; exact c2⟩
  clear HTr hsl T hk
  generalize (if n = 0 then some (⟨W.heap.size, 0, none⟩ : Addr) else some ⟨W.heap.size, 15 * k, none⟩) = a at *
  go_wp2_with fail
  go_ret
  exact ⟨a, rfl, hT, C, b⟩
#print axioms since_any
end Go.Proofs.YtkpkipjelpedeaaDoor
