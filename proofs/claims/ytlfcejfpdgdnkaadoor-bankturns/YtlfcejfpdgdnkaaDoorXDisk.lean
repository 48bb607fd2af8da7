
/- Several texts in one, in the order in which they lean on each other; what each says stands at its head. No conditions but those that each line states. -/
import Derived.Test.YtlfcejfpdgdnkaaDoorXBase
import Derived.Maps.AppendAt
import Derived.Test.YtlfcejfpdgdnkaaDoorRows
import Derived.WalkLawsBesides
import Derived.WalkSpells
import Derived.Great.Walk
import Derived.Recover
import Derived.OwnWalk
import Derived.Shelf.Abstract
import Derived.LaidEql
/- What a device is: bytes that it keeps, writes that wait, what was done; what of memory is its own; and how that goes on while other memory is made or turned. No function is named here; no conditions but those that each line states. -/
namespace Go.Proofs.YtlfcejfpdgdnkaaDoor
open Go.RowKit
set_option maxRecDepth 20000

/-! ### Rows as long as a block -/
/-- The first n of zs, noughts behind them. -/
def fitL (n : Nat) (zs : List Int) : List Int := zs.take n ++ zL (n - zs.length)
theorem fitL_length (n : Nat) (zs : List Int) : (fitL n zs).length = n := by
  simp only [fitL, List.length_append, List.length_take, zL_length]
  omega
theorem fitL_bytes (n : Nat) {zs : List Int} (h : IsBytes zs) : IsBytes (fitL n zs) := (h.take n).append (zL_bytes _)
theorem zL_drop (n k : Nat) : (zL n).drop k = zL (n - k) := by
  apply List.ext_getElem?
  intro i
  rw [List.getElem?_drop]
  rcases Nat.lt_or_ge i (n - k) with h | h
  · rw [zL, rowL_get _ _ _ (by omega), zL, rowL_get _ _ _ h]
  · rw [zL, rowL_none _ _ _ (by omega), zL, rowL_none _ _ _ h]
theorem fitL_splice (n : Nat) (zs : List Int) : splice (zL n) 0 (zs.take (min zs.length n)) = fitL n zs := by
  unfold splice fitL
  rw [List.take_zero, List.nil_append, zL_drop]
  have e : zs.take (min zs.length n) = zs.take n := by
    rcases Nat.le_total zs.length n with h | h
    · rw [Nat.min_eq_left h, List.take_of_length_le (Nat.le_refl _), List.take_of_length_le h]
    · rw [Nat.min_eq_right h]
  rw [e]
  congr 2
  rw [List.length_take]
  omega
theorem fitL_take (n : Nat) (zs : List Int) : fitL n (zs.take n) = fitL n zs := by
  unfold fitL
  rw [List.take_take, Nat.min_self, List.length_take]
  congr 2
  omega
theorem fitL_self (n : Nat) (zs : List Int) (h : zs.length = n) : fitL n zs = zs := by
  unfold fitL
  rw [List.take_of_length_le (by omega), h, Nat.sub_self]
  exact List.append_nil _
theorem fitL_nil (n : Nat) : fitL n [] = zL n := by
  unfold fitL
  rw [List.take_nil]
  rfl
theorem fitL_getD (n : Nat) (zs : List Int) (i : Nat) (h : i < n) : (fitL n zs).getD i 0 = zs.getD i 0 := by
  unfold fitL
  rcases Nat.lt_or_ge i zs.length with h1 | h1
  · rw [List.getD, List.getElem?_append_left (by rw [List.length_take]; omega), List.getElem?_take, if_pos h]; rfl
  · rw [List.getD, List.getElem?_append_right (by rw [List.length_take]; omega), List.getD, List.getElem?_eq_none h1]
    have := zL_getD (n - zs.length) (i - (zs.take n).length)
    rw [List.getD] at this
    exact this
/-- Each byte exclusive or with 165. -/
def badL (zs : List Int) : List Int := zs.map fun z => xr z 165
theorem badL_length (zs : List Int) : (badL zs).length = zs.length := by simp [badL]
theorem badL_bytes {zs : List Int} (h : IsBytes zs) : IsBytes (badL zs) := by
  intro z hz
  obtain ⟨y, hy, rfl⟩ := List.mem_map.1 hz
  exact xr_lt _ _ (h y hy) ⟨by decide, by decide⟩
theorem badL_getD (zs : List Int) (i : Nat) (h : i < zs.length) : (badL zs).getD i 0 = xr (zs.getD i 0) 165 := by
  simp [badL, List.getD, h]

/-! ### Lists of records, laid flat -/
theorem flat_get {α : Type} (m : Nat) (f : α → List Value) (hm : ∀ x, (f x).length = m) : ∀ (l : List α) (i j : Nat), j < m → (l.flatMap f)[m * i + j]? = l[i]?.bind fun x => (f x)[j]?
  | [], i, j, _ => by simp
  | x :: l, 0, j, h => by
    rw [List.flatMap_cons, Nat.mul_zero, Nat.zero_add, List.getElem?_append_left (by rw [hm]; exact h)]
    rfl
  | x :: l, i + 1, j, h => by
    have e : m * (i + 1) + j = (f x).length + (m * i + j) := by rw [hm, Nat.mul_add, Nat.mul_one]; omega
    rw [List.flatMap_cons, e, List.getElem?_append_right (by omega), Nat.add_sub_cancel_left, flat_get m f hm l i j h]
    rfl
theorem flat_length {α : Type} (m : Nat) (f : α → List Value) (hm : ∀ x, (f x).length = m) : ∀ l : List α, (l.flatMap f).length = l.length * m
  | [] => by simp
  | x :: l => by rw [List.flatMap_cons, List.length_append, hm, flat_length m f hm l, List.length_cons, Nat.add_mul, Nat.one_mul, Nat.add_comm]

/-! ### What a device keeps -/
/-- A slice of bytes: where it lies, and what it reads as. -/
structure BV where
  a : Option Addr
  len : Nat
  cap : Nat
  zs : List Int
abbrev BV.v (x : BV) : Value := .slice x.a x.len x.cap
def BV.nil : BV := ⟨none, 0, 0, []⟩
/-- It reads so, and lies in R. -/
structure BV.In (w : World) (R : Nat → Prop) (x : BV) : Prop where
  bs : Bs w x.a x.len x.cap x.zs
  mem : ∀ p, x.a = some p → R p.block
theorem BV.In.nil (w : World) (R : Nat → Prop) : BV.nil.In w R := ⟨Bs.nil w, fun _ h => by cases h⟩
theorem Bs.keepAt {w w' : World} {a : Option Addr} {len cap : Nat} {zs : List Int} (h : Bs w a len cap zs) (hb : 0 < len → ∀ p, a = some p → w'.heap[p.block]? = w.heap[p.block]?) : Bs w' a len cap zs := by
  refine ⟨h.length, h.le_cap, h.cap_le, h.bytes, ?_⟩
  rcases h.place with h1 | ⟨b, off, rfl, hc⟩
  · exact .inl h1
  · refine .inr ⟨b, off, rfl, fun i hi => ?_⟩
    have := hb (by omega) ⟨b, off, none⟩ rfl
    rw [World.cell?_of_block (w := w) (a := ⟨b, off + i, none⟩) this]
    exact hc i hi
theorem BV.In.keep {w w' : World} {R R' : Nat → Prop} {x : BV} (h : x.In w R) (hb : ∀ k, R k → w'.heap[k]? = w.heap[k]?) (hR : ∀ k, R k → R' k) : x.In w' R' :=
  ⟨h.bs.keepAt fun _ p hp => hb _ (h.mem p hp), fun p hp => hR _ (h.mem p hp)⟩

/-- Something done: its kind, its place, what is shown of it, its body. -/
structure Ev where
  kind : Int
  at_ : Int
  head : List Int
  body : BV
def Ev.cells (e : Ev) : List Value := .int .i64 e.kind :: .int .i64 e.at_ :: ((fitL 12 e.head).map (Value.int .u8) ++ [e.body.v])
theorem Ev.cells_length (e : Ev) : e.cells.length = 15 := by
  simp only [Ev.cells, List.length_cons, List.length_append, List.length_map, fitL_length, List.length_nil]
def wrC (p : Nat × BV) : List Value := [.int .i64 (p.1 : Int), p.2.v]
theorem wrC_length (p : Nat × BV) : (wrC p).length = 2 := rfl

/-- A device: the size of its blocks, how many there are, what was written and what was flushed of each, the writes that wait, what was done, how many more have power. -/
structure DS where
  size : Nat
  n : Nat
  blk : Nat → BV × BV
  wait : List (Nat × BV)
  tr : List Ev
  left : Int

/-- What is a device's own: all of it; of this what is never turned. -/
structure Own where
  S : Nat → Prop
  R : Nat → Prop
def Own.add (Z : Own) (k : Nat) : Own := ⟨fun i => Z.S i ∨ i = k, fun i => Z.R i ∨ i = k⟩
def Own.also (Z : Own) (k : Nat) : Own := ⟨fun i => Z.S i ∨ i = k, Z.R⟩

/-- All but what is Z's own is as it was, and what is Z' own was Z's, or is new. -/
structure Step (Z : Own) (w : World) (Z' : Own) (w' : World) : Prop where
  os : w'.os = w.os
  tape : w'.tape = w.tape
  output : w'.output = w.output
  size : w.heap.size ≤ w'.heap.size
  block : ∀ k, k < w.heap.size → ¬ Z.S k → w'.heap[k]? = w.heap[k]?
  fresh : ∀ k, Z'.S k → Z.S k ∨ w.heap.size ≤ k
theorem Step.refl (Z : Own) (w : World) : Step Z w Z w := ⟨rfl, rfl, rfl, Nat.le_refl _, fun _ _ _ => rfl, fun _ h => .inl h⟩
theorem Step.trans {Z Z' Z'' : Own} {a b c : World} (h : Step Z a Z' b) (k : Step Z' b Z'' c) : Step Z a Z'' c := by
  refine ⟨k.os.trans h.os, k.tape.trans h.tape, k.output.trans h.output, Nat.le_trans h.size k.size, fun i hi hn => ?_, fun i hi => ?_⟩
  · rw [k.block i (Nat.lt_of_lt_of_le hi h.size) (fun hs => (h.fresh i hs).elim hn (fun h' => absurd hi (Nat.not_lt.2 h'))), h.block i hi hn]
  · rcases k.fresh i hi with h1 | h1
    · exact h.fresh i h1
    · exact .inr (Nat.le_trans h.size h1)
theorem Step.of_below (Z : Own) {w w' : World} (h : Below w.heap.size w w') : Step Z w Z w' := ⟨h.os, h.tape, h.output, h.size, fun k hk _ => h.block k hk, fun _ h => .inl h⟩
theorem Step.below {Z Z' : Own} {B : Nat} {w0 w w' : World} (h : Step Z w Z' w') (hb : Below B w0 w) (hZ : ∀ k, Z.S k → B ≤ k) (hB : B ≤ w.heap.size) : Below B w0 w' :=
  hb.trans ⟨h.os, h.tape, h.output, h.size, fun k hk => h.block k (by omega) (fun hs => by have := hZ k hs; omega)⟩
theorem Step.from {Z Z' : Own} {B : Nat} {w w' : World} (h : Step Z w Z' w') (hZ : ∀ k, Z.S k → B ≤ k) (hB : B ≤ w.heap.size) : ∀ k, Z'.S k → B ≤ k := fun k hk => by
  rcases h.fresh k hk with h1 | h1
  · exact hZ k h1
  · omega
theorem Step.drew {Z Z' : Own} {w w' : World} (h : Step Z w Z' w') : Step Z w Z' w'.drew := ⟨h.os, h.tape, h.output, h.size, h.block, h.fresh⟩
theorem Step.add {Z Z' : Own} {w w' : World} (h : Step Z w Z' w') (k : Nat) (hk : w.heap.size ≤ k) : Step Z w (Z'.add k) w' :=
  ⟨h.os, h.tape, h.output, h.size, h.block, fun i hi => hi.elim (h.fresh i) fun e => .inr (by omega)⟩
theorem Step.also {Z Z' : Own} {w w' : World} (h : Step Z w Z' w') (k : Nat) (hk : w.heap.size ≤ k) : Step Z w (Z'.also k) w' :=
  ⟨h.os, h.tape, h.output, h.size, h.block, fun i hi => hi.elim (h.fresh i) fun e => .inr (by omega)⟩
/-- What is aside stays, and stays aside. -/
theorem Step.heap {Z Z' : Own} {w w' : World} {k : Nat} {o : Obj} (h : Step Z w Z' w') (hk : w.heap[k]? = some o) (hn : ¬ Z.S k) : w'.heap[k]? = some o := by
  rw [h.block k (Array.getElem?_eq_some_iff.1 hk).1 hn]; exact hk
theorem Step.aside {Z Z' : Own} {w w' : World} {k : Nat} (h : Step Z w Z' w') (hk : k < w.heap.size) (hn : ¬ Z.S k) : ¬ Z'.S k := fun hs => (h.fresh k hs).elim hn (fun h' => absurd hk (Nat.not_lt.2 h'))
/-- A slice of bytes that lies aside. -/
structure Bz (Z : Own) (w : World) (a : Option Addr) (len cap : Nat) (zs : List Int) : Prop where
  bs : Bs w a len cap zs
  out : 0 < len → ∀ p, a = some p → p.block < w.heap.size ∧ ¬ Z.S p.block
theorem Bz.step {Z Z' : Own} {w w' : World} {a : Option Addr} {len cap : Nat} {zs : List Int} (h : Bz Z w a len cap zs) (k : Step Z w Z' w') : Bz Z' w' a len cap zs :=
  ⟨h.bs.keepAt fun h0 p hp => k.block _ (h.out h0 p hp).1 (h.out h0 p hp).2, fun h0 p hp => ⟨Nat.lt_of_lt_of_le (h.out h0 p hp).1 k.size, k.aside (h.out h0 p hp).1 (h.out h0 p hp).2⟩⟩

/-! ### A device in memory -/
def dkV (size gb n : Nat) (wv tv : Value) (left : Int) : Array Value := #[.int .i64 (size : Int), .slice (some ⟨gb, 0, none⟩) n n, wv, tv, .int .i64 left]
/-- The cells of its blocks. -/
def bkF (blk : Nat → BV × BV) (k : Nat) : Value := if k % 2 = 0 then (blk (k / 2)).1.v else (blk (k / 2)).2.v

structure DkAt (w : World) (Z : Own) (g : Nat) (D : DS) (gb : Nat) (wv tv : Value) : Prop where
  disk : w.heap[g]? = some (.cells (dkV D.size gb D.n wv tv D.left) 58 (0, 0))
  blks : w.rowIs gb 83 (2 * D.n) (bkF D.blk)
  waits : w.ownsRow 0 85 2 wv D.wait.length (D.wait.flatMap wrC)
  trace : w.ownsRow 0 42 15 tv D.tr.length (D.tr.flatMap Ev.cells)
  okb : ∀ i, i < D.n → (D.blk i).1.In w Z.R ∧ (D.blk i).2.In w Z.R
  okw : ∀ p ∈ D.wait, p.1 < D.n ∧ p.2.In w Z.R
  okt : ∀ e ∈ D.tr, IsBytes e.head ∧ e.body.In w Z.R
  lt : ∀ k, Z.S k → k < w.heap.size
  sub : ∀ k, Z.R k → Z.S k
  gS : Z.S g
  bS : Z.S gb
  wS : ∀ k, wv.ownBlock = some k → Z.S k
  tS : ∀ k, tv.ownBlock = some k → Z.S k
  gR : ¬ Z.R g
  bR : ¬ Z.R gb
  wR : ∀ k, wv.ownBlock = some k → ¬ Z.R k
  tR : ∀ k, tv.ownBlock = some k → ¬ Z.R k
  gb_ne : gb ≠ g
  wg : wv.ownBlock ≠ some g
  wb : wv.ownBlock ≠ some gb
  tg : tv.ownBlock ≠ some g
  tb : tv.ownBlock ≠ some gb
  wt : ∀ k, wv.ownBlock = some k → tv.ownBlock ≠ some k
  size : D.size ≤ 60000
  n : D.n ≤ 100000
  left : -9223372036854775808 ≤ D.left ∧ D.left ≤ 9223372036854775807
def Dk (w : World) (Z : Own) (g : Nat) (D : DS) : Prop := ∃ gb wv tv, DkAt w Z g D gb wv tv

theorem ownsRow_keep {w w' : World} {base : Nat} {e : TypeId} {size : Nat} {v : Value} {n : Nat} {xs : List Value} (h : w.ownsRow base e size v n xs) (hb : ∀ k, v.ownBlock = some k → w'.heap[k]? = w.heap[k]?) : w'.ownsRow base e size v n xs := by
  refine ⟨h.1, ?_⟩
  rcases h.2 with h0 | ⟨g, c, cur, h3, h4, h5, h6⟩
  · exact .inl h0
  · exact .inr ⟨g, c, cur, h3, h4, by rw [hb g (by rw [h3]; rfl)]; exact h5, h6⟩

theorem DkAt.keep {w w' : World} {Z : Own} {g : Nat} {D : DS} {gb : Nat} {wv tv : Value} (h : DkAt w Z g D gb wv tv) (hb : ∀ k, Z.S k → w'.heap[k]? = w.heap[k]?) (hs : w.heap.size ≤ w'.heap.size) : DkAt w' Z g D gb wv tv :=
  { h with
    disk := by rw [hb g h.gS]; exact h.disk
    blks := h.blks.of_block (hb gb h.bS)
    waits := ownsRow_keep h.waits fun k hk => hb k (h.wS k hk)
    trace := ownsRow_keep h.trace fun k hk => hb k (h.tS k hk)
    okb := fun i hi => ⟨(h.okb i hi).1.keep (fun k hk => hb k (h.sub k hk)) (fun _ hk => hk), (h.okb i hi).2.keep (fun k hk => hb k (h.sub k hk)) (fun _ hk => hk)⟩
    okw := fun p hp => ⟨(h.okw p hp).1, (h.okw p hp).2.keep (fun k hk => hb k (h.sub k hk)) (fun _ hk => hk)⟩
    okt := fun e he => ⟨(h.okt e he).1, (h.okt e he).2.keep (fun k hk => hb k (h.sub k hk)) (fun _ hk => hk)⟩
    lt := fun k hk => Nat.lt_of_lt_of_le (h.lt k hk) hs }
theorem DkAt.below {w w' : World} {Z : Own} {g : Nat} {D : DS} {gb : Nat} {wv tv : Value} (h : DkAt w Z g D gb wv tv) (hb : Below w.heap.size w w') : DkAt w' Z g D gb wv tv :=
  h.keep (fun k hk => hb.block k (h.lt k hk)) hb.size
theorem DkAt.drew {w : World} {Z : Own} {g : Nat} {D : DS} {gb : Nat} {wv tv : Value} (h : DkAt w Z g D gb wv tv) : DkAt w.drew Z g D gb wv tv := h.keep (fun _ _ => rfl) (Nat.le_refl _)
theorem Dk.keep {w w' : World} {Z : Own} {g : Nat} {D : DS} (h : Dk w Z g D) (hb : ∀ k, Z.S k → w'.heap[k]? = w.heap[k]?) (hs : w.heap.size ≤ w'.heap.size) : Dk w' Z g D := by
  obtain ⟨gb, wv, tv, h⟩ := h
  exact ⟨gb, wv, tv, h.keep hb hs⟩
theorem Dk.below {w w' : World} {Z : Own} {g : Nat} {D : DS} (h : Dk w Z g D) (hb : Below w.heap.size w w') : Dk w' Z g D := by
  obtain ⟨gb, wv, tv, h⟩ := h
  exact ⟨gb, wv, tv, h.below hb⟩
theorem Dk.drew {w : World} {Z : Own} {g : Nat} {D : DS} (h : Dk w Z g D) : Dk w.drew Z g D := h.keep (fun _ _ => rfl) (Nat.le_refl _)
theorem Dk.lt {w : World} {Z : Own} {g : Nat} {D : DS} (h : Dk w Z g D) : ∀ k, Z.S k → k < w.heap.size := by
  obtain ⟨gb, wv, tv, h⟩ := h
  exact h.lt
theorem Dk.gS {w : World} {Z : Own} {g : Nat} {D : DS} (h : Dk w Z g D) : Z.S g := by
  obtain ⟨gb, wv, tv, h⟩ := h
  exact h.gS

/-- A new row of bytes becomes one of the device's. -/
theorem DkAt.adopt {w : World} {Z : Own} {g : Nat} {D : DS} {gb : Nat} {wv tv : Value} (h : DkAt w Z g D gb wv tv) (k : Nat) (hk : ¬ Z.S k) (hl : k < w.heap.size) : DkAt w (Z.add k) g D gb wv tv :=
  { h with
    okb := fun i hi => ⟨(h.okb i hi).1.keep (fun _ _ => rfl) (fun _ => .inl), (h.okb i hi).2.keep (fun _ _ => rfl) (fun _ => .inl)⟩
    okw := fun p hp => ⟨(h.okw p hp).1, (h.okw p hp).2.keep (fun _ _ => rfl) (fun _ => .inl)⟩
    okt := fun e he => ⟨(h.okt e he).1, (h.okt e he).2.keep (fun _ _ => rfl) (fun _ => .inl)⟩
    lt := fun i hi => hi.elim (h.lt i) fun e => by omega
    sub := fun i hi => hi.elim (fun h1 => .inl (h.sub i h1)) .inr
    gS := .inl h.gS
    bS := .inl h.bS
    wS := fun i hi => .inl (h.wS i hi)
    tS := fun i hi => .inl (h.tS i hi)
    gR := fun hi => hi.elim h.gR fun e => hk (e ▸ h.gS)
    bR := fun hi => hi.elim h.bR fun e => hk (e ▸ h.bS)
    wR := fun i hi hj => hj.elim (h.wR i hi) fun e => hk (e ▸ h.wS i hi)
    tR := fun i hi hj => hj.elim (h.tR i hi) fun e => hk (e ▸ h.tS i hi) }
#print axioms DkAt.adopt
end Go.Proofs.YtlfcejfpdgdnkaaDoor

/- How a device in memory is turned: a cell of it, of its blocks; a write that waits, or something done, behind the others. No function is named here; no conditions but those that each line states. -/
namespace Go.Proofs.YtlfcejfpdgdnkaaDoor
open Go.RowKit
set_option maxRecDepth 20000

theorem OnlyAt.setC (g j : Nat) (w : World) (v : Value) : OnlyAt g w (w.setCell ⟨g, j, none⟩ v) :=
  ⟨rfl, rfl, rfl, by simp, fun k hk => Below.heap_setCell w ⟨g, j, none⟩ v k hk⟩

section
variable {w : World} {Z : Own} {g : Nat} {D : DS} {gb : Nat} {wv tv : Value}

theorem DkAt.cell (h : DkAt w Z g D gb wv tv) (j : Nat) : w.cell? ⟨g, j, none⟩ = (dkV D.size gb D.n wv tv D.left)[j]? := cell_of_row w g j _ _ _ h.disk
theorem DkAt.c0 (h : DkAt w Z g D gb wv tv) : w.cell? ⟨g, 0, none⟩ = some (.int .i64 (D.size : Int)) := h.cell 0
theorem DkAt.c1 (h : DkAt w Z g D gb wv tv) : w.cell? ⟨g, 1, none⟩ = some (.slice (some ⟨gb, 0, none⟩) D.n D.n) := h.cell 1
theorem DkAt.c2 (h : DkAt w Z g D gb wv tv) : w.cell? ⟨g, 2, none⟩ = some wv := h.cell 2
theorem DkAt.c3 (h : DkAt w Z g D gb wv tv) : w.cell? ⟨g, 3, none⟩ = some tv := h.cell 3
theorem DkAt.c4 (h : DkAt w Z g D gb wv tv) : w.cell? ⟨g, 4, none⟩ = some (.int .i64 D.left) := h.cell 4
theorem DkAt.froz (h : DkAt w Z g D gb wv tv) (j : Nat) : w.frozen? ⟨g, j, none⟩ = false := frozen_of_row w g j _ _ h.disk
theorem DkAt.cb0 (h : DkAt w Z g D gb wv tv) (i : Nat) (hi : i < D.n) : w.cell? ⟨gb, 2 * i, none⟩ = some (D.blk i).1.v := by
  rw [h.blks.cell (show 2 * i < 2 * D.n by omega)]
  unfold bkF
  rw [if_pos (by omega), show 2 * i / 2 = i by omega]
theorem DkAt.cb1 (h : DkAt w Z g D gb wv tv) (i : Nat) (hi : i < D.n) : w.cell? ⟨gb, 2 * i + 1, none⟩ = some (D.blk i).2.v := by
  rw [h.blks.cell (show 2 * i + 1 < 2 * D.n by omega)]
  unfold bkF
  rw [if_neg (by omega), show (2 * i + 1) / 2 = i by omega]
theorem DkAt.frozb (h : DkAt w Z g D gb wv tv) (j : Nat) : w.frozen? ⟨gb, j, none⟩ = false := h.blks.frozen j

/-- The bodies read as they did where what is never turned is as it was. -/
theorem DkAt.again (h : DkAt w Z g D gb wv tv) {w' : World} (hR : ∀ k, Z.R k → w'.heap[k]? = w.heap[k]?) :
    (∀ i, i < D.n → (D.blk i).1.In w' Z.R ∧ (D.blk i).2.In w' Z.R) ∧ (∀ p ∈ D.wait, p.1 < D.n ∧ p.2.In w' Z.R) ∧ (∀ e ∈ D.tr, IsBytes e.head ∧ e.body.In w' Z.R) :=
  ⟨fun i hi => ⟨(h.okb i hi).1.keep hR (fun _ hk => hk), (h.okb i hi).2.keep hR (fun _ hk => hk)⟩,
   fun p hp => ⟨(h.okw p hp).1, (h.okw p hp).2.keep hR (fun _ hk => hk)⟩,
   fun e he => ⟨(h.okt e he).1, (h.okt e he).2.keep hR (fun _ hk => hk)⟩⟩

theorem DkAt.setLeft (h : DkAt w Z g D gb wv tv) (l : Int) (hl : -9223372036854775808 ≤ l ∧ l ≤ 9223372036854775807) :
    DkAt (w.setCell ⟨g, 4, none⟩ (.int .i64 l)) Z g { D with left := l } gb wv tv ∧ Step Z w Z (w.setCell ⟨g, 4, none⟩ (.int .i64 l)) := by
  have ho := OnlyAt.setC g 4 w (.int .i64 l)
  have hR := h.again (w' := w.setCell ⟨g, 4, none⟩ (.int .i64 l)) fun k hk => ho.block k (fun e => h.gR (e ▸ hk))
  refine ⟨{ h with
    disk := by rw [heap_setCell_same w g 4 _ _ _ h.disk]; rfl
    blks := h.blks.of_block (ho.block gb h.gb_ne)
    waits := ownsRow_keep h.waits fun k hk => ho.block k (fun e => h.wg (e ▸ hk))
    trace := ownsRow_keep h.trace fun k hk => ho.block k (fun e => h.tg (e ▸ hk))
    okb := hR.1
    okw := hR.2.1
    okt := hR.2.2
    lt := fun k hk => by rw [ho.size]; exact h.lt k hk
    left := hl }, ⟨ho.os, ho.tape, ho.output, Nat.le_of_eq ho.size.symm, fun k _ hn => ho.block k (fun e => hn (e ▸ h.gS)), fun _ hk => .inl hk⟩⟩

/-- What was written at i. -/
def updW (blk : Nat → BV × BV) (i : Nat) (x : BV) : Nat → BV × BV := fun j => if j = i then (x, (blk i).2) else blk j
/-- What was flushed at i. -/
def updF (blk : Nat → BV × BV) (i : Nat) (x : BV) : Nat → BV × BV := fun j => if j = i then ((blk i).1, x) else blk j

theorem DkAt.setBlk (h : DkAt w Z g D gb wv tv) (j : Nat) (v : Value) (b : Nat → BV × BV) (hv : ∀ k, k < 2 * D.n → bkF b k = if k = j then v else bkF D.blk k) (hb : ∀ i, i < D.n → (b i).1.In w Z.R ∧ (b i).2.In w Z.R) :
    DkAt (w.setCell ⟨gb, j, none⟩ v) Z g { D with blk := b } gb wv tv ∧ Step Z w Z (w.setCell ⟨gb, j, none⟩ v) := by
  have ho := OnlyAt.setC gb j w v
  have hk0 : ∀ k, Z.R k → (w.setCell ⟨gb, j, none⟩ v).heap[k]? = w.heap[k]? := fun k hk => ho.block k (fun e => h.bR (e ▸ hk))
  have hR := h.again hk0
  refine ⟨{ h with
    disk := by rw [ho.block g h.gb_ne.symm]; exact h.disk
    blks := (h.blks.set j v).congr fun k hk => (hv k hk).symm
    waits := ownsRow_keep h.waits fun k hk => ho.block k (fun e => h.wb (e ▸ hk))
    trace := ownsRow_keep h.trace fun k hk => ho.block k (fun e => h.tb (e ▸ hk))
    okb := fun i hi => ⟨(hb i hi).1.keep hk0 (fun _ hk => hk), (hb i hi).2.keep hk0 (fun _ hk => hk)⟩
    okw := hR.2.1
    okt := hR.2.2
    lt := fun k hk => by rw [ho.size]; exact h.lt k hk }, ⟨ho.os, ho.tape, ho.output, Nat.le_of_eq ho.size.symm, fun k _ hn => ho.block k (fun e => hn (e ▸ h.bS)), fun _ hk => .inl hk⟩⟩

theorem bkF_updW (blk : Nat → BV × BV) (i : Nat) (x : BV) (k : Nat) : bkF (updW blk i x) k = if k = 2 * i then x.v else bkF blk k := by
  unfold bkF updW
  by_cases h : k / 2 = i
  · rw [if_pos h]
    by_cases h2 : k % 2 = 0
    · rw [if_pos h2, if_pos (by omega)]
    · rw [if_neg h2, if_neg (by omega), if_neg h2, h]
  · rw [if_neg h, if_neg (show ¬ k = 2 * i by omega)]
theorem bkF_updF (blk : Nat → BV × BV) (i : Nat) (x : BV) (k : Nat) : bkF (updF blk i x) k = if k = 2 * i + 1 then x.v else bkF blk k := by
  unfold bkF updF
  by_cases h : k / 2 = i
  · rw [if_pos h]
    by_cases h2 : k % 2 = 0
    · rw [if_pos h2, if_neg (by omega), if_pos h2, h]
    · rw [if_neg h2, if_pos (by omega)]
  · rw [if_neg h, if_neg (show ¬ k = 2 * i + 1 by omega)]
theorem DkAt.setW (h : DkAt w Z g D gb wv tv) (i : Nat) (x : BV) (hx : x.In w Z.R) :
    DkAt (w.setCell ⟨gb, 2 * i, none⟩ x.v) Z g { D with blk := updW D.blk i x } gb wv tv ∧ Step Z w Z (w.setCell ⟨gb, 2 * i, none⟩ x.v) := by
  refine h.setBlk (2 * i) x.v (updW D.blk i x) (fun k _ => bkF_updW _ _ _ _) (fun j hj => ?_)
  unfold updW
  split
  · rename_i e
    subst e
    exact ⟨hx, (h.okb j hj).2⟩
  · exact h.okb j hj
theorem DkAt.setF (h : DkAt w Z g D gb wv tv) (i : Nat) (x : BV) (hx : x.In w Z.R) :
    DkAt (w.setCell ⟨gb, 2 * i + 1, none⟩ x.v) Z g { D with blk := updF D.blk i x } gb wv tv ∧ Step Z w Z (w.setCell ⟨gb, 2 * i + 1, none⟩ x.v) := by
  refine h.setBlk (2 * i + 1) x.v (updF D.blk i x) (fun k _ => bkF_updF _ _ _ _) (fun j hj => ?_)
  unfold updF
  split
  · rename_i e
    subst e
    exact ⟨(h.okb j hj).1, hx⟩
  · exact h.okb j hj

/-- A write waits no more, or one more waits. -/
theorem DkAt.setWait (h : DkAt w Z g D gb wv tv) (l : List (Nat × BV)) {w1 : World} {wv' : Value} (hg : w.grownBy w1 wv.ownBlock) (ho : w1.ownsRow 0 85 2 wv' l.length (l.flatMap wrC)) (hl : ∀ p ∈ l, p.1 < D.n ∧ p.2.In w Z.R)
    (hat : wv'.ownBlock = none ∨ wv'.ownBlock = wv.ownBlock ∨ wv'.ownBlock = some w.heap.size) :
    ∃ Z', DkAt (w1.setCell ⟨g, 2, none⟩ wv') Z' g { D with wait := l } gb wv' tv ∧ Step Z w Z' (w1.setCell ⟨g, 2, none⟩ wv') := by
  have hO := OnlyAt.setC g 2 w1 wv'
  have hold : ∀ k, k < w.heap.size → k ≠ g → some k ≠ wv.ownBlock → (w1.setCell ⟨g, 2, none⟩ wv').heap[k]? = w.heap[k]? := fun k hk h1 h2 => (hO.block k h1).trans (hg.block k hk h2)
  have hgl := h.lt g h.gS
  have hR0 : ∀ k, Z.R k → (w1.setCell ⟨g, 2, none⟩ wv').heap[k]? = w.heap[k]? := fun k hk => hold k (h.lt k (h.sub k hk)) (fun e => h.gR (e ▸ hk)) (fun e => h.wR k e.symm hk)
  have hR := h.again hR0
  have hsz : w.heap.size ≤ (w1.setCell ⟨g, 2, none⟩ wv').heap.size := by rw [hO.size]; exact hg.size
  have hgw : w1.heap[g]? = w.heap[g]? := hg.block g hgl (fun e => h.wg e.symm)
  have hnew : ∀ k, wv'.ownBlock = some k → (Z.S k ∧ ¬ Z.R k ∧ wv.ownBlock = some k) ∨ k = w.heap.size := fun k hk => by
    rcases hat with e | e | e
    · rw [e] at hk; cases hk
    · rw [e] at hk; exact .inl ⟨h.wS k hk, h.wR k hk, hk⟩
    · rw [e] at hk; exact .inr (Option.some.inj hk).symm
  have hw'g : wv'.ownBlock ≠ some g := fun e => by
    rcases hnew g e with h1 | h1
    · exact h.wg h1.2.2
    · omega
  have hw'b : wv'.ownBlock ≠ some gb := fun e => by
    rcases hnew gb e with h1 | h1
    · exact h.wb h1.2.2
    · have := h.lt gb h.bS; omega
  have hw'lt : ∀ k, wv'.ownBlock = some k → k < w1.heap.size := fun k hk => (ho.lt k hk).2
  have hmk : ∀ Z', (∀ k, Z.S k → Z'.S k) → Z'.R = Z.R → (∀ k, Z'.S k → Z.S k ∨ (k = w.heap.size ∧ k < w1.heap.size)) → (∀ k, wv'.ownBlock = some k → Z'.S k) →
      DkAt (w1.setCell ⟨g, 2, none⟩ wv') Z' g { D with wait := l } gb wv' tv ∧ Step Z w Z' (w1.setCell ⟨g, 2, none⟩ wv') := by
    intro Z' hS hRR hfr hws
    refine ⟨{ disk := by rw [heap_setCell_same w1 g 2 _ _ _ (hgw.trans h.disk)]; rfl
              blks := h.blks.of_block (hold gb (h.lt gb h.bS) h.gb_ne (fun e => h.wb e.symm))
              waits := ownsRow_keep ho fun k hk => hO.block k (fun e => hw'g (e ▸ hk))
              trace := ownsRow_keep h.trace fun k hk => hold k (h.lt k (h.tS k hk)) (fun e => h.tg (e ▸ hk)) (fun e => h.wt k e.symm hk)
              okb := by rw [hRR]; exact hR.1
              okw := by rw [hRR]; exact fun p hp => ⟨(hl p hp).1, (hl p hp).2.keep hR0 (fun _ hk => hk)⟩
              okt := by rw [hRR]; exact hR.2.2
              lt := fun k hk => by
                rw [hO.size]
                rcases hfr k hk with h1 | h1
                · exact Nat.lt_of_lt_of_le (h.lt k h1) hg.size
                · exact h1.2
              sub := by rw [hRR]; exact fun k hk => hS k (h.sub k hk)
              gS := hS g h.gS
              bS := hS gb h.bS
              wS := hws
              tS := fun k hk => hS k (h.tS k hk)
              gR := by rw [hRR]; exact h.gR
              bR := by rw [hRR]; exact h.bR
              wR := by
                rw [hRR]
                intro k hk hr
                rcases hnew k hk with h1 | h1
                · exact h1.2.1 hr
                · have := h.lt k (h.sub k hr); omega
              tR := by rw [hRR]; exact h.tR
              gb_ne := h.gb_ne
              wg := hw'g
              wb := hw'b
              tg := h.tg
              tb := h.tb
              wt := fun k hk e => by
                rcases hnew k hk with h1 | h1
                · exact h.wt k h1.2.2 e
                · have := h.lt k (h.tS k e); omega
              size := h.size
              n := h.n
              left := h.left }, ⟨hg.os, hg.tape, hg.output, hsz, fun k hk hn => hold k hk (fun e => hn (e ▸ h.gS)) (fun e => hn (h.wS k e.symm)), fun k hk => ?_⟩⟩
    rcases hfr k hk with h1 | h1
    · exact .inl h1
    · exact .inr (by omega)
  by_cases hc : wv'.ownBlock = some w.heap.size
  · refine ⟨Z.also w.heap.size, hmk _ (fun _ => .inl) rfl (fun k hk => hk.elim .inl fun e => .inr ⟨e, ?_⟩) (fun k hk => ?_)⟩
    · exact hw'lt k (by rw [e]; exact hc)
    · rw [hc] at hk
      exact .inr (Option.some.inj hk).symm
  · refine ⟨Z, hmk Z (fun _ hk => hk) rfl (fun _ => .inl) (fun k hk => ?_)⟩
    rcases hnew k hk with h1 | h1
    · exact h1.1
    · exact absurd (by rw [hk, h1]) hc

/-- Something more was done. -/
theorem DkAt.setTrace (h : DkAt w Z g D gb wv tv) (l : List Ev) {w1 : World} {tv' : Value} (hg : w.grownBy w1 tv.ownBlock) (ho : w1.ownsRow 0 42 15 tv' l.length (l.flatMap Ev.cells)) (hl : ∀ e ∈ l, IsBytes e.head ∧ e.body.In w Z.R)
    (hat : tv'.ownBlock = none ∨ tv'.ownBlock = tv.ownBlock ∨ tv'.ownBlock = some w.heap.size) :
    ∃ Z', DkAt (w1.setCell ⟨g, 3, none⟩ tv') Z' g { D with tr := l } gb wv tv' ∧ Step Z w Z' (w1.setCell ⟨g, 3, none⟩ tv') := by
  have hO := OnlyAt.setC g 3 w1 tv'
  have hold : ∀ k, k < w.heap.size → k ≠ g → some k ≠ tv.ownBlock → (w1.setCell ⟨g, 3, none⟩ tv').heap[k]? = w.heap[k]? := fun k hk h1 h2 => (hO.block k h1).trans (hg.block k hk h2)
  have hgl := h.lt g h.gS
  have hR0 : ∀ k, Z.R k → (w1.setCell ⟨g, 3, none⟩ tv').heap[k]? = w.heap[k]? := fun k hk => hold k (h.lt k (h.sub k hk)) (fun e => h.gR (e ▸ hk)) (fun e => h.tR k e.symm hk)
  have hR := h.again hR0
  have hsz : w.heap.size ≤ (w1.setCell ⟨g, 3, none⟩ tv').heap.size := by rw [hO.size]; exact hg.size
  have hgw : w1.heap[g]? = w.heap[g]? := hg.block g hgl (fun e => h.tg e.symm)
  have hnew : ∀ k, tv'.ownBlock = some k → (Z.S k ∧ ¬ Z.R k ∧ tv.ownBlock = some k) ∨ k = w.heap.size := fun k hk => by
    rcases hat with e | e | e
    · rw [e] at hk; cases hk
    · rw [e] at hk; exact .inl ⟨h.tS k hk, h.tR k hk, hk⟩
    · rw [e] at hk; exact .inr (Option.some.inj hk).symm
  have hw'g : tv'.ownBlock ≠ some g := fun e => by
    rcases hnew g e with h1 | h1
    · exact h.tg h1.2.2
    · omega
  have hw'b : tv'.ownBlock ≠ some gb := fun e => by
    rcases hnew gb e with h1 | h1
    · exact h.tb h1.2.2
    · have := h.lt gb h.bS; omega
  have hw'lt : ∀ k, tv'.ownBlock = some k → k < w1.heap.size := fun k hk => (ho.lt k hk).2
  have hmk : ∀ Z', (∀ k, Z.S k → Z'.S k) → Z'.R = Z.R → (∀ k, Z'.S k → Z.S k ∨ (k = w.heap.size ∧ k < w1.heap.size)) → (∀ k, tv'.ownBlock = some k → Z'.S k) →
      DkAt (w1.setCell ⟨g, 3, none⟩ tv') Z' g { D with tr := l } gb wv tv' ∧ Step Z w Z' (w1.setCell ⟨g, 3, none⟩ tv') := by
    intro Z' hS hRR hfr hws
    refine ⟨{ disk := by rw [heap_setCell_same w1 g 3 _ _ _ (hgw.trans h.disk)]; rfl
              blks := h.blks.of_block (hold gb (h.lt gb h.bS) h.gb_ne (fun e => h.tb e.symm))
              waits := ownsRow_keep h.waits fun k hk => hold k (h.lt k (h.wS k hk)) (fun e => h.wg (e ▸ hk)) (fun e => h.wt k hk e.symm)
              trace := ownsRow_keep ho fun k hk => hO.block k (fun e => hw'g (e ▸ hk))
              okb := by rw [hRR]; exact hR.1
              okw := by rw [hRR]; exact hR.2.1
              okt := by rw [hRR]; exact fun p hp => ⟨(hl p hp).1, (hl p hp).2.keep hR0 (fun _ hk => hk)⟩
              lt := fun k hk => by
                rw [hO.size]
                rcases hfr k hk with h1 | h1
                · exact Nat.lt_of_lt_of_le (h.lt k h1) hg.size
                · exact h1.2
              sub := by rw [hRR]; exact fun k hk => hS k (h.sub k hk)
              gS := hS g h.gS
              bS := hS gb h.bS
              wS := fun k hk => hS k (h.wS k hk)
              tS := hws
              gR := by rw [hRR]; exact h.gR
              bR := by rw [hRR]; exact h.bR
              wR := by rw [hRR]; exact h.wR
              tR := by
                rw [hRR]
                intro k hk hr
                rcases hnew k hk with h1 | h1
                · exact h1.2.1 hr
                · have := h.lt k (h.sub k hr); omega
              gb_ne := h.gb_ne
              wg := h.wg
              wb := h.wb
              tg := hw'g
              tb := hw'b
              wt := fun k hk e => by
                rcases hnew k e with h1 | h1
                · exact h.wt k hk h1.2.2
                · have := h.lt k (h.wS k hk); omega
              size := h.size
              n := h.n
              left := h.left }, ⟨hg.os, hg.tape, hg.output, hsz, fun k hk hn => hold k hk (fun e => hn (e ▸ h.gS)) (fun e => hn (h.tS k e.symm)), fun k hk => ?_⟩⟩
    rcases hfr k hk with h1 | h1
    · exact .inl h1
    · exact .inr (by omega)
  by_cases hc : tv'.ownBlock = some w.heap.size
  · refine ⟨Z.also w.heap.size, hmk _ (fun _ => .inl) rfl (fun k hk => hk.elim .inl fun e => .inr ⟨e, ?_⟩) (fun k hk => ?_)⟩
    · exact hw'lt k (by rw [e]; exact hc)
    · rw [hc] at hk
      exact .inr (Option.some.inj hk).symm
  · refine ⟨Z, hmk Z (fun _ hk => hk) rfl (fun _ => .inl) (fun k hk => ?_)⟩
    rcases hnew k hk with h1 | h1
    · exact h1.1
    · exact absurd (by rw [hk, h1]) hc
end

/-- 'append(v, x)' of one record of sz cells, laid in block b. -/
theorem run_append_elem {P : Program} {T E : TypeId} (sz by_ : Nat) (z : Value) (hT : P.underlying T = some (.slice E)) (hinfo : (P.info? E).map (fun i => (i.zero, i.size, i.bytes)) = some (some z, sz, by_)) (hzs : z.cells.size = sz) (h0 : 0 < sz) (hby : by_ ≤ 64)
    (ty : TypeId) (w : World) (v : Value) (n : Nat) (xs : List Value) (hown : w.ownsRow 0 E sz v n xs) (b : Nat) (news : List Value) (hl : news.length = sz) (hb : w.rangeAt b 0 news) (h1 : ∀ u ∈ news, u.oneCell' = true) (hlim : n < 1000000) :
    ∃ v' w', (Builtin.append_ #[T, T] ty #[v, .slice (some ⟨b, 0, none⟩) 1 1]).run P w = .ok v' w' ∧ w'.ownsRow 0 E sz v' (n + 1) (xs ++ news) ∧ w.grownBy w' v.ownBlock ∧ (v'.ownBlock = none ∨ v'.ownBlock = v.ownBlock ∨ v'.ownBlock = some w.heap.size) ∧ ∃ ga ca, v' = .slice (some ⟨ga, 0, none⟩) (n + 1) ca := by
  obtain ⟨i, hi, hz⟩ := Option.map_eq_some_iff.1 hinfo
  simp only [Prod.mk.injEq] at hz
  obtain ⟨hz, hsz, hbi⟩ := hz
  obtain ⟨v', w', hr, h2, h3, _, h5⟩ := run_append_own_at (P := P) w 0 T ty E i z sz by_ hT hi hz hsz hbi hzs h0 v n xs hown ⟨b, 0, none⟩ 1 1 news (by rw [hl, Nat.one_mul]) (fun j u hj => by rw [addr_add]; exact hb j u hj) h1
    (by unfold maxLen; omega) (Nat.le_trans (Nat.mul_le_mul (show n + 1 ≤ 1000000 by omega) hby) (by decide)) (Nat.zero_le _)
  refine ⟨v', w', hr, h2, h3, .inr h5, ?_⟩
  rcases h2.2 with ⟨_, h0⟩ | ⟨ga, ca, cur, h, _⟩
  · omega
  · exact ⟨ga, ca, h⟩
#print axioms DkAt.setWait
#print axioms run_append_elem
end Go.Proofs.YtlfcejfpdgdnkaaDoor

/- What the small calls of package disk do: for every device in memory; what is not the device's own is as it was. -/
namespace Go.Proofs.YtlfcejfpdgdnkaaDoor
open Go.RowKit
set_option maxRecDepth 20000

/-- What the calls panic with. -/
def errV (p : Addr) : Value := .iface 105 (.pointer (some p))
/-- The variable that holds it. -/
def Pow (p : Addr) (w : World) : Prop := w.cell? ⟨0, 0, none⟩ = some (errV p)
theorem Pow.lt {p : Addr} {w : World} (h : Pow p w) : 0 < w.heap.size := World.block_lt_of_cell? w ⟨0, 0, none⟩ h
theorem Pow.keep {p : Addr} {w w' : World} (h : Pow p w) (hb : w'.heap[0]? = w.heap[0]?) : Pow p w' := by
  unfold Pow at h ⊢
  rw [World.cell?_of_block (w := w) (a := ⟨0, 0, none⟩) hb]; exact h
theorem Pow.below {p : Addr} {w w' : World} (h : Pow p w) (hb : Below w.heap.size w w') : Pow p w' := h.keep (hb.block 0 h.lt)
theorem Pow.step {p : Addr} {w w' : World} {Z Z' : Own} (h : Pow p w) (hs : Step Z w Z' w') (hz : ¬ Z.S 0) : Pow p w' := h.keep (hs.block 0 h.lt hz)

/-- How many more have power, one less. -/
def spendL (l : Int) : Int := if 0 < l then l - 1 else l
def DS.spent (D : DS) : DS := { D with left := spendL D.left }

theorem held_any (n most : Int) (w : World) : Calls Tryd.prog 19 #[.int .i64 n, .int .i64 most] w fun e w' => e = .returned (.int .i64 (min (max n 0) most)) ∧ w = w' := by
  go_enter Tryd.func19, Tryd.ntmps19
  go_wp2
  go_ret
  exact ⟨rfl, rfl⟩

section
variable {w : World} {Z : Own} {g : Nat} {D : DS} {gb : Nat} {wv tv : Value}

theorem size_any (h : DkAt w Z g D gb wv tv) : Calls Tryd.prog 32 #[.pointer (some ⟨g, 0, none⟩)] w fun e w' => e = .returned (.int .i64 (D.size : Int)) ∧ w = w' := by
  have c := h.c0
  clear h
  go_enter Tryd.func32, Tryd.ntmps32
  go_wp2
  go_ret
  exact ⟨rfl, rfl⟩
theorem gone_any (h : DkAt w Z g D gb wv tv) : Calls Tryd.prog 57 #[.pointer (some ⟨g, 0, none⟩)] w fun e w' => e = .returned (.bool (decide (D.left = 0))) ∧ w = w' := by
  have c := h.c4
  clear h
  by_cases hl : D.left = 0
  · rw [hl] at c ⊢
    go_enter Tryd.func57, Tryd.ntmps57
    go_wp2
    go_ret
    exact ⟨rfl, rfl⟩
  · rw [decide_eq_false hl]
    have hb : (D.left == 0) = false := by simpa using hl
    go_enter Tryd.func57, Tryd.ntmps57
    go_wp2
    go_ret
    exact ⟨by first | rfl | simp [hl], rfl⟩

/-- Is i one of n places? -/
def hasI (n : Nat) (i : Int) : Bool := decide (0 ≤ i) && decide (i < (n : Int))
theorem has_any (h : DkAt w Z g D gb wv tv) (i : Int) : Calls Tryd.prog 48 #[.pointer (some ⟨g, 0, none⟩), .int .i64 i] w fun e w' => e = .returned (.bool (hasI D.n i)) ∧ w = w' := by
  have c := h.c1
  clear h
  by_cases h0 : 0 ≤ i
  · have e : hasI D.n i = decide (i < (D.n : Int)) := by simp [hasI, h0]
    rw [e]
    go_enter Tryd.func48, Tryd.ntmps48
    go_wp2
    go_ret
    exact ⟨rfl, rfl⟩
  · have e : hasI D.n i = false := by simp [hasI, h0]
    rw [e]
    go_enter Tryd.func48, Tryd.ntmps48
    go_wp2
    go_ret
    exact ⟨rfl, rfl⟩

theorem spend_no {p : Addr} (h : DkAt w Z g D gb wv tv) (hp : Pow p w) (hl : D.left = 0) :
    Calls Tryd.prog 46 #[.pointer (some ⟨g, 0, none⟩)] w fun e w' => e = .panicked [{ v := errV p, recovered := false }] ∧ w = w' := by
  have hG := gone_any h
  rw [decide_eq_true hl] at hG
  have c : w.cell? ⟨0, 0, none⟩ = some (.iface 105 (.pointer (some p))) := hp
  clear h hp
  go_enter Tryd.func46, Tryd.ntmps46
  go_wp2_with fail
  refine hG.mono ?_
  rintro e w1 ⟨rfl, rfl⟩
  go_wp2_with fail
  exact ⟨rfl, rfl, rfl⟩

theorem spend_ok (h : DkAt w Z g D gb wv tv) (hl : ¬ D.left = 0) :
    Calls Tryd.prog 46 #[.pointer (some ⟨g, 0, none⟩)] w fun e w' => e = .returned (.tuple #[]) ∧ DkAt w' Z g D.spent gb wv tv ∧ Step Z w Z w' := by
  have hG := gone_any h
  rw [decide_eq_false hl] at hG
  have c := h.c4
  have f := h.froz 4
  have hr := h.left
  by_cases h0 : 0 < D.left
  · have hS := h.setLeft (D.left - 1) (by omega)
    have e : ({ D with left := D.left - 1 } : DS) = D.spent := by unfold DS.spent spendL; rw [if_pos h0]
    rw [e] at hS
    have hw : IntKind.i64.wrap (D.left - 1) = D.left - 1 := by rw [IntKind.wrap_i64]; omega
    clear h e
    go_enter Tryd.func46, Tryd.ntmps46
    go_wp2_with fail
    refine hG.mono ?_
    rintro e w1 ⟨rfl, rfl⟩
    go_wp2_with fail
    refine bodyPost_end (results_none rfl _ _ _) rfl ?_
    exact ⟨rfl, hS⟩
  · have e : D = D.spent := by unfold DS.spent spendL; rw [if_neg h0]
    rw [← e]
    clear e
    go_enter Tryd.func46, Tryd.ntmps46
    go_wp2_with fail
    refine hG.mono ?_
    rintro e w1 ⟨rfl, rfl⟩
    go_wp2_with fail
    refine bodyPost_end (results_none rfl _ _ _) rfl ?_
    exact ⟨rfl, h, Step.refl _ _⟩


set_option maxHeartbeats 1000000 in
theorem fitted_any (h : DkAt w Z g D gb wv tv) {a : Option Addr} {len cap : Nat} {zs : List Int} (hx : Bs w a len cap zs) :
    Calls Tryd.prog 22 #[.pointer (some ⟨g, 0, none⟩), .slice a len cap] w fun e w' => e = .returned (.slice (some ⟨w.heap.size, 0, none⟩) D.size D.size) ∧ OwnB 5 w' w.heap.size (fitL D.size zs) ∧ Below w.heap.size w w' := by
  have c := h.c0
  have hs := h.size
  have hz := hx.length
  have hmk := run_make_row' (P := Tryd.prog) 36 5 (.int .u8 0) 1 Tryd.underlying36 Tryd.info_u8 rfl .i64 .i64 D.size (by omega) (by omega)
  have hO := made_zB w D.size 5
  have hb0 := below_alloc (Below.refl w.heap.size w) (Obj.cells (madeCells #[Value.int IntKind.u8 0] D.size) 5)
  obtain ⟨w2, hr2, hO2, ho2⟩ := run_copy_bytes (P := Tryd.prog) Tryd.underlying36 Tryd.size_u8 3 (w.alloc (Obj.cells (madeCells #[Value.int IntKind.u8 0] D.size) 5)) (some ⟨w.heap.size, 0, none⟩) a D.size D.size len cap w.heap.size 0 (min len D.size) (zL D.size) zs hO rfl (.inr rfl) (hx.below hb0) (by rw [zL_length]; omega)
  have hb2 := ho2.below hb0 (Nat.le_refl _)
  rw [← hz, fitL_splice] at hO2
  clear hO hb0 ho2 h hz hx
  generalize D.size = sz at *
  go_enter Tryd.func22, Tryd.ntmps22
  go_wp2_with fail
  go_ret
  exact ⟨rfl, hO2, hb2⟩

set_option maxHeartbeats 1000000 in
theorem kept_any (h : DkAt w Z g D gb wv tv) {a : Option Addr} {len cap : Nat} {zs : List Int} (hx : Bs w a len cap zs) :
    Calls Tryd.prog 47 #[.pointer (some ⟨g, 0, none⟩), .slice a len cap] w fun e w' => e = .returned (.slice (some ⟨w.heap.size, 0, none⟩) (min len D.size) (min len D.size)) ∧ OwnB 5 w' w.heap.size (zs.take D.size) ∧ Below w.heap.size w w' := by
  have c := h.c0
  have hs := h.size
  have hz := hx.length
  obtain ⟨m, hm⟩ : ∃ m : Nat, min len D.size = m := ⟨_, rfl⟩
  have hmi : min (len : Int) (D.size : Int) = (m : Int) := by omega
  have hmk := run_make_row' (P := Tryd.prog) 36 5 (.int .u8 0) 1 Tryd.underlying36 Tryd.info_u8 rfl .i64 .i64 m (by omega) (by omega)
  have hO := made_zB w m 5
  have hb0 := below_alloc (Below.refl w.heap.size w) (Obj.cells (madeCells #[Value.int IntKind.u8 0] m) 5)
  obtain ⟨w2, hr2, hO2, ho2⟩ := run_copy_bytes (P := Tryd.prog) Tryd.underlying36 Tryd.size_u8 3 (w.alloc (Obj.cells (madeCells #[Value.int IntKind.u8 0] m) 5)) (some ⟨w.heap.size, 0, none⟩) a m m len cap w.heap.size 0 m (zL m) zs hO (by omega) (.inr rfl) (hx.below hb0) (by rw [zL_length]; omega)
  have hb2 := ho2.below hb0 (Nat.le_refl _)
  have e : splice (zL m) 0 (zs.take m) = zs.take D.size := by
    have e1 : zs.take m = zs.take D.size := by
      rcases Nat.le_total len D.size with h1 | h1
      · rw [List.take_of_length_le (by omega), List.take_of_length_le (by omega)]
      · rw [show m = D.size by omega]
    have := fitL_splice m (zs.take m)
    rw [List.length_take, List.take_take, show min (min (min m zs.length) m) m = m by omega] at this
    rw [this, fitL_self _ _ (by rw [List.length_take]; omega), e1]
  rw [e] at hO2
  rw [hm]
  clear hO hb0 ho2 h hz hx e hm
  generalize D.size = sz at *
  go_enter Tryd.func47, Tryd.ntmps47
  go_wp2_with fail
  go_ret
  exact ⟨rfl, hO2, hb2⟩

/-- Choice i of a list. -/
def chL (zs : List Int) (i : Nat) : Int := if i < zs.length then zs.getD i 0 % 3 else 0
theorem chL_cases (zs : List Int) (i : Nat) : chL zs i = 0 ∨ chL zs i = 1 ∨ chL zs i = 2 := by
  unfold chL
  split
  · omega
  · exact .inl rfl
theorem mod3 (x : Int) : (x.tmod 3 + 3) % 3 = x % 3 := by
  have h1 := Int.tmod_eq_emod (a := x) (b := 3)
  rw [h1]
  split <;> omega
end
#print axioms spend_no
end Go.Proofs.YtlfcejfpdgdnkaaDoor

/- What a call of (*Disk).record does: for every device in memory; what is not the device's own is as it was. -/
namespace Go.Proofs.YtlfcejfpdgdnkaaDoor
open Go.RowKit
set_option maxRecDepth 20000

/-- The cells of an event. -/
def evL (k a : Int) (head : List Int) (v : Value) : List Value := .int .i64 k :: .int .i64 a :: (head.map (Value.int .u8) ++ [v])
theorem Ev.cells_ev (e : Ev) : e.cells = evL e.kind e.at_ (fitL 12 e.head) e.body.v := rfl
theorem evL_length (k a : Int) (head : List Int) (v : Value) (h : head.length = 12) : (evL k a head v).length = 15 := by simp [evL, h]
theorem evL_one (k a : Int) (head : List Int) (x : BV) : ∀ u ∈ evL k a head x.v, u.oneCell' = true := by
  intro u hu
  simp only [evL, List.mem_cons, List.mem_append, List.mem_map, List.not_mem_nil, or_false] at hu
  rcases hu with rfl | rfl | ⟨j, _, rfl⟩ | rfl <;> rfl
theorem evL_splice (k a : Int) (zs : List Int) (v : Value) : splice (evL k a (zL 12) v) 2 ((zs.take (min zs.length 12)).map (Value.int .u8)) = evL k a (fitL 12 zs) v := by
  have e := fitL_splice 12 zs
  unfold splice at e ⊢
  unfold evL
  rw [List.take_zero, List.nil_append] at e
  rw [← e]
  have hl : (zs.take (min zs.length 12)).length ≤ 12 := by rw [List.length_take]; omega
  generalize zs.take (min zs.length 12) = ys at *
  simp only [List.take_succ_cons, List.take_zero, List.cons_append, List.nil_append, List.length_map, List.map_append]
  rw [show 2 + ys.length = ys.length + 1 + 1 by omega, List.drop_succ_cons, List.drop_succ_cons, List.append_assoc, List.drop_append_of_le_length (by simp [zL_length]; omega), List.map_drop, Nat.zero_add]

/-- 'copy(dst, src)' of bytes into a part of a row of whatever cells. -/
theorem run_copy_into {P : Program} {T E E' : TypeId} (hT : P.underlying T = some (.slice E)) (hsz : (P.info? E).map (·.size) = some 1) (ty : TypeId) (w : World) (sp : Option Addr) (dLen dCap sLen sCap g off n : Nat) (cur : List Value) (zs : List Int)
    (hg : w.heap[g]? = some (.cells cur.toArray E' (0, 0))) (hn : min sLen dLen = n) (hs : Bs w sp sLen sCap zs) (hfit : off + n ≤ cur.length) :
    ∃ w2, (Builtin.copy_ #[T, T] ty #[.slice (some ⟨g, off, none⟩) dLen dCap, .slice sp sLen sCap]).run P w = .ok (goInt n) w2 ∧ w2.heap[g]? = some (.cells (splice cur off ((zs.take n).map (Value.int .u8))).toArray E' (0, 0)) ∧ OnlyAt g w w2 := by
  have hzl := hs.length
  by_cases h0 : n = 0
  · subst h0
    refine ⟨w, run_copy_none (P := P) w T T ty E _ sp dLen dCap sLen sCap hT hsz hn, ?_, ⟨rfl, rfl, rfl, rfl, fun _ _ => rfl⟩⟩
    simpa [splice] using hg
  · have hsl := hs.le_cap
    rcases hs.place with h | ⟨b, boff, rfl, hc⟩
    · omega
    have hlen : (zs.take n).length = n := by simp; omega
    have hr := run_copy_row (P := P) w T T ty E g off dLen dCap ⟨b, boff, none⟩ sLen sCap cur.toArray E' ((zs.take n).map (Value.int .u8)) hT hsz hg (by simp only [List.length_map, hlen]; exact hn.symm)
      (fun j v hj => by
        have hjl : j < n := by
          rcases Nat.lt_or_ge j n with h | h
          · exact h
          · rw [List.getElem?_eq_none (by simp; omega)] at hj; cases hj
        rw [addr_add, hc j (by omega), ← hj]
        have : j < zs.length := by omega
        simp [List.getD, List.getElem?_eq_getElem this, hjl])
      (by simp only [List.length_map, hlen, List.size_toArray]; exact hfit) (by intro v hv; obtain ⟨x, _, rfl⟩ := List.mem_map.1 hv; rfl)
    refine ⟨w.setRow g (splice cur off ((zs.take n).map (Value.int .u8))).toArray, ?_, setRow_heap w g _ _ E' _ hg, OnlyAt.setRow g w _⟩
    rw [hr]
    simp only [List.length_map, hlen, splice, List.append_assoc]

theorem run_arr_at {P : Program} {ty E : TypeId} {n : Nat} (hu : P.underlying ty = some (.array n E)) (hsz : (P.info? E).map (·.size) = some 1) (g o : Nat) (w : World) :
    (Instr.sliceAt ty (.pointer (some ⟨g, o, none⟩)) none none none).run P w = .ok (.slice (some ⟨g, o, none⟩) n n) w := by
  obtain ⟨info, hq, hs⟩ := Option.map_eq_some_iff.1 hsz
  have e1 : P.elem ty = E := by simp [Program.elem, hu]
  have e2 : P.arrayLen ty = n := by simp [Program.arrayLen, hu]
  rw [run_sliceAt_array_all w ty ⟨g, o, none⟩ (by rw [e1, e2]; exact hu), e1, e2]
  simp [sizeOf, typeInfo, hq, hs, slicedAt, addr_add]

/-- A store of a whole struct into its own block. -/
theorem wpList_putS {P : Program} {Q : Exit → Act → World → Prop} {ops : Array Oper} {rest : List Oper} {o : Oper} {a : Act} {w : World} {ty : TypeId} {n : Nat} (hi : (P.info? ty).map (·.size) = some n) (hw : Region.wanted o (yielded ops a.tmps) = true) (x y : Operand) (hop : o.op = .store ty x y) (g : Nat) (cs : Array Value) (hx : a.eval x = .pointer (some ⟨g, 0, none⟩)) (hy : a.eval y = .agg cs)
    (old : Array Value) (hg : w.heap[g]? = some (.cells old ty (0, 0))) (hn : cs.size = n) (ho : old.size = n) (h1 : cs.all (·.oneCell') = true) (h : wpList P ops Q rest (a.put o.dst undef) (w.setRow g cs)) : wpList P ops Q (o :: rest) a w := by
  refine wpList_step fun K hK => ?_
  rw [if_pos hw]
  exact wp_store_row _ x y hop g _ hx hy _ _ hg (by rw [hn, hi]) (by rw [hn, ho]) h1 (hK _ _ h)

/-- A load of a whole struct in a drawn region. -/
theorem wpOrd_loadM {P : Program} {Q : Exit → Act → World → Prop} {ty : TypeId} {md : Region.Mode} {T U : World → Prop} {c : Nat} {l : List Oper} {k : Nat} {rest : List Nat} {o : Oper} {a : Act} {w : World} (d : TypeDesc) (hu : P.underlying ty = some d) (hd : d.isRow = true) (ho : l[k]? = some o) (hst : stepOp o = false) (x : Operand) (hop : o.op = .load ty x)
    (b off : Nat) (cs : List Value) (hx : a.eval x = .pointer (some ⟨b, off, none⟩)) (hT : ∀ w, T w → w.rangeAt b off cs) (hn : (P.info? ty).map (·.size) = some cs.length)
    (hQ : ∀ c a w, Q (.panic c) (a.put o.dst (.agg cs.toArray)) w → Q (.panic c) a w) (hw : Region.wanted o (yielded l.toArray a.tmps) = true)
    (h : wpOrd P md l.toArray Q T U c rest (a.put o.dst (.agg cs.toArray)) w) : wpOrd P md l.toArray Q T U c (k :: rest) a w :=
  wpOrd_quiet ho hst hQ hw (fun w hw' _ => by
    unfold execOp
    simp only [hop, hx, Instr.loadAt, Instr.sureAddr, Sem.run_bind, Sem.run_pure, Result.andThen_ok, run_loadVar_mid w b off ty cs d (hT w hw') hu hd hn]) h

theorem built_ev (k a : Int) (v : BV) : Tryd.prog.built 42 [(0, .int .i64 k), (1, .int .i64 a), (3, v.v)] = some (evL k a (zL 12) v.v).toArray := by kernel_rfl
theorem zero_ev : (Tryd.prog.info? 42).bind (·.zero) = some (.agg (evL 0 0 (zL 12) (.slice none 0 0)).toArray) := by kernel_rfl
theorem Tryd.size_ev : (Tryd.prog.info? 42).map (·.size) = some 15 := by kernel_rfl
theorem Tryd.info_ev : (Tryd.prog.info? 42).map (fun i => (i.zero, i.size, i.bytes)) = some (some (.agg (evL 0 0 (zL 12) (.slice none 0 0)).toArray), 15, 56) := by kernel_rfl
theorem builtS_ev (k a : Int) (head : List Int) (x : BV) (h : head.length = 12) : Tryd.prog.builtSlice 42 1 [(0, .agg (evL k a head x.v).toArray)] = some (evL k a head x.v).toArray := by
  match head, h with
  | [h0, h1, h2, h3, h4, h5, h6, h7, h8, h9, h10, h11], _ => show (_ : Option (Array Value)) = _; kernel_rfl
theorem range_of_row {w : World} {g : Nat} {cs : List Value} {E : TypeId} (h : w.heap[g]? = some (.cells cs.toArray E (0, 0))) : w.rangeAt g 0 cs := fun j v hv => by
  rw [cell_of_row w g (0 + j) _ _ _ h, Nat.zero_add]
  simpa using hv

theorem evL_all (k a : Int) (head : List Int) (x : BV) : (evL k a head x.v).toArray.all (·.oneCell') = true := all_oneCell_toArray (evL_one k a head x)
theorem BV.In.out {w : World} {R : Nat → Prop} {x : BV} (h : x.In w R) : Bs w x.a x.len x.cap x.zs := h.bs

set_option maxRecDepth 100000 in
set_option maxHeartbeats 2000000 in
theorem record_any {w : World} {Z : Own} {g : Nat} {D : DS} {gb : Nat} {wv tv : Value} (h : DkAt w Z g D gb wv tv) (kind at_ : Int) {a : Option Addr} {len cap : Nat} {zs : List Int} (hx : Bs w a len cap zs) (body : BV) (hb : body.In w Z.R) (hlim : D.tr.length < 1000000) :
    Calls Tryd.prog 49 #[.pointer (some ⟨g, 0, none⟩), .int .i64 kind, .int .i64 at_, .slice a len cap, body.v] w fun e w' =>
      e = .returned (.tuple #[]) ∧ ∃ Z' tv', DkAt w' Z' g { D with tr := D.tr ++ [⟨kind, at_, zs, body⟩] } gb wv tv' ∧ Step Z w Z' w' := by
  have hz := hx.length
  have hzb := hx.bytes
  obtain ⟨W0, hW0⟩ : ∃ W0, (w.alloc (.cells (evL 0 0 (zL 12) (.slice none 0 0)).toArray 42)).setRow w.heap.size (evL kind at_ (zL 12) body.v).toArray = W0 := ⟨_, rfl⟩
  have n0 := heap_alloc_new w (.cells (evL 0 0 (zL 12) (.slice none 0 0)).toArray 42)
  have n1 : W0.heap[w.heap.size]? = some (.cells (evL kind at_ (zL 12) body.v).toArray 42 (0, 0)) := by rw [← hW0]; exact setRow_heap _ _ _ _ _ _ n0
  have b1 : Below w.heap.size w W0 := by
    rw [← hW0]
    exact (OnlyAt.setRow w.heap.size (w.alloc (.cells (evL 0 0 (zL 12) (.slice none 0 0)).toArray 42)) _).below (below_alloc (Below.refl _ w) _) (Nat.le_refl _)
  obtain ⟨w2, hr2, n2, o2⟩ := run_copy_into (P := Tryd.prog) Tryd.underlying36 Tryd.size_u8 3 W0 a 12 12 len cap w.heap.size 2 (min len 12) _ zs n1 rfl (hx.below b1) (by rw [evL_length _ _ _ _ (zL_length _)]; omega)
  rw [← hz, evL_splice] at n2
  have b2 := o2.below b1 (Nat.le_refl _)
  have hA := run_arr_at (P := Tryd.prog) Tryd.underlying40 Tryd.size_u8 w.heap.size 2
  have hB := built_ev kind at_ body
  have hE := evL_length 0 0 (zL 12) (.slice none 0 0) (zL_length _)
  have hE2 := evL_length kind at_ (zL 12) body.v (zL_length _)
  have HN := hide n0
  rw [← hW0] at hr2
  have H2 := hide n2
  have HB := hide b2
  clear n0 hW0 n1 b1 o2 n2 b2
  go_enter Tryd.func49, Tryd.ntmps49
  go_wp2_with (first
    | (refine wpList_newA (by rfl) 42 (by rfl) _ zero_ev w.heap.size rfl ?_)
    | (refine wpList_build_is rfl 42 _ rfl (evL kind at_ (zL 12) body.v).toArray (by rw [show (_ : List (Nat × Value)) = [(0, .int .i64 kind), (1, .int .i64 at_), (3, body.v)] from by kernel_rfl]; exact hB) ?_)
    | (refine wpList_putS Tryd.size_ev (by rfl) _ _ (by rfl) w.heap.size (evL kind at_ (zL 12) body.v).toArray (by rfl) (by rfl) _ HN.out (by simpa using hE2) (by simpa using hE) (evL_all _ _ _ _) ?_))
  clear hr2 hA hB HN hE hE2
  have n2 := H2.out
  have b2 := HB.out
  have h2 := h.below b2
  have hb2 : body.In w2 Z.R := hb.keep (fun k hk => b2.block k (h.lt k (h.sub k hk))) (fun _ hk => hk)
  have hNS : ¬ Z.S w.heap.size := fun hs => absurd (h.lt _ hs) (Nat.lt_irrefl _)
  clear H2 HB hx
  have c3 := h2.c3
  refine wp_region_ord 7 [0, 1, 2, 3, 4, 5, 6, 7, 8, 9, 10] (fun w' => w'.rangeAt w.heap.size 0 (evL kind at_ (fitL 12 zs) body.v)) (fun w' => w'.cell? ⟨g, 3, none⟩ = some tv) (by kernel_rfl) (by kernel_rfl) (by kernel_rfl) (range_of_row n2) c3 (fun _ _ => ?_)
  have h3 : DkAt w2.drew Z g D gb wv tv := h2.drew
  have b3 : Below w.heap.size w w2.drew := b2.drew
  have n3 : w2.drew.heap[w.heap.size]? = some (.cells (evL kind at_ (fitL 12 zs) body.v).toArray 42 (0, 0)) := n2
  have hb3 : body.In w2.drew Z.R := hb2.keep (fun _ _ => rfl) (fun _ hk => hk)
  clear h2 b2 n2 hb2 c3 h
  generalize w2.drew = W at *
  refine wpOrd_quiet (v := ?_) rfl rfl (fun _ _ _ h => h) (by rfl) ?_ ?_
  rotate_left
  · (intro w' _ _; go_simp; try rfl)
  simp only [Act.put, List.setIfInBounds_toArray, List.set_cons_zero, List.set_cons_succ]
  refine wpOrd_quiet (v := ?_) rfl rfl (fun _ _ _ h => h) (by rfl) ?_ ?_
  rotate_left
  · (intro w' _ _; go_simp; try rfl)
  simp only [Act.put, List.setIfInBounds_toArray, List.set_cons_zero, List.set_cons_succ]
  refine wpOrd_quiet (v := ?_) rfl rfl (fun _ _ _ h => h) (by rfl) ?_ ?_
  rotate_left
  · (intro w' _ _; go_simp; try rfl)
  simp only [Act.put, List.setIfInBounds_toArray, List.set_cons_zero, List.set_cons_succ]
  refine wpOrd_quiet (v := ?_) rfl rfl (fun _ _ _ h => h) (by rfl) ?_ ?_
  rotate_left
  · (intro w' _ _; go_simp; try rfl)
  simp only [Act.put, List.setIfInBounds_toArray, List.set_cons_zero, List.set_cons_succ]
  refine wpOrd_early (v := tv) rfl rfl (by kernel_rfl) (fun _ _ _ h => h) (by rfl) ?_ ?_
  · (intro w' _ hU; have hU : w'.cell? ⟨g, 3, none⟩ = some tv := hU; go_simp; done)
  simp only [Act.put, List.setIfInBounds_toArray, List.set_cons_zero, List.set_cons_succ]
  refine wpOrd_loadM _ Tryd.underlying42 rfl rfl rfl _ (by rfl) w.heap.size 0 (evL kind at_ (fitL 12 zs) body.v) (by rfl) (fun _ hT => hT) (by rw [evL_length _ _ _ _ (fitL_length _ _)]; exact Tryd.size_ev) (fun _ _ _ h => h) (by rfl) ?_
  simp only [Act.put, List.setIfInBounds_toArray, List.set_cons_zero, List.set_cons_succ]
  refine wpOrd_step rfl rfl (by rfl) (fun K' hK => ?_)
  refine wp_buildSliceTo 33 42 1 _ (by rfl) Tryd.underlying33 [(0, .agg (evL kind at_ (fitL 12 zs) body.v).toArray)] (by kernel_rfl) _ (builtS_ev kind at_ (fitL 12 zs) body (fitL_length _ _)) ?_
  have n4 := heap_alloc_new W (.cells (evL kind at_ (fitL 12 zs) body.v).toArray 42)
  have n5 := block_alloc n3 (.cells (evL kind at_ (fitL 12 zs) body.v).toArray 42)
  have ba := below_alloc (Below.refl W.heap.size W) (.cells (evL kind at_ (fitL 12 zs) body.v).toArray 42)
  have h4 := h3.below ba
  have b4 := b3.trans (ba.mono b3.size)
  have hb4 : body.In _ Z.R := hb3.keep (fun k hk => ba.block k (h3.lt k (h3.sub k hk))) (fun _ hk => hk)
  have hsz := size_alloc W (.cells (evL kind at_ (fitL 12 zs) body.v).toArray 42)
  refine hK.out _ _ (range_of_row n5) (fun _ => h4.c3) (fun _ => ?_)
  clear hK K' h3 b3 n3 hb3 ba
  generalize W.heap.size = N1 at *
  generalize W.alloc (.cells (evL kind at_ (fitL 12 zs) body.v).toArray 42) = W1 at *
  simp only [Act.put, List.setIfInBounds_toArray, List.set_cons_zero, List.set_cons_succ]
  obtain ⟨tv', w5, hr5, ow5, gr5, at5, ga, ca, hform⟩ := run_append_elem (P := Tryd.prog) 15 56 _ Tryd.underlying33 Tryd.info_ev (by rfl) (by decide) (by decide) 33 W1 tv D.tr.length _ h4.trace N1 (evL kind at_ (fitL 12 zs) body.v) (evL_length _ _ _ _ (fitL_length _ _)) (range_of_row n4) (evL_one _ _ _ _) hlim
  subst hform
  have hl : ∀ e ∈ D.tr ++ [⟨kind, at_, zs, body⟩], IsBytes e.head ∧ e.body.In W1 Z.R := by
    intro e he
    rcases List.mem_append.1 he with h1 | h1
    · exact h4.okt e h1
    · rw [List.mem_singleton] at h1
      subst h1
      exact ⟨hzb, hb4⟩
  obtain ⟨Z', h6, s6⟩ := h4.setTrace (D.tr ++ [⟨kind, at_, zs, body⟩]) gr5 (by rw [List.flatMap_append, List.length_append]; simpa [Ev.cells_ev] using ow5) hl at5
  have hgl := h4.lt g h4.gS
  have hg5 : w5.heap[g]? = W1.heap[g]? := gr5.block g hgl (fun e => h4.tg e.symm)
  have c5 : w5.cell? ⟨g, 3, none⟩ = some tv := (World.cell?_of_block (w := W1) (a := ⟨g, 3, none⟩) hg5).trans h4.c3
  have f5 : w5.frozen? ⟨g, 3, none⟩ = false := (World.frozen?_of_block (w := W1) (a := ⟨g, 3, none⟩) hg5).trans (h4.froz 3)
  have r5 : w5.rangeAt w.heap.size 0 (evL kind at_ (fitL 12 zs) body.v) := range_of_row ((gr5.block w.heap.size (Array.getElem?_eq_some_iff.1 n5).1 (fun e => hNS (h4.tS _ e.symm))).trans n5)
  have r6 : (w5.setCell ⟨g, 3, none⟩ (.slice (some ⟨ga, 0, none⟩) (D.tr.length + 1) ca)).rangeAt w.heap.size 0 (evL kind at_ (fitL 12 zs) body.v) := rangeAt_keep r5 (Below.heap_setCell w5 ⟨g, 3, none⟩ (.slice (some ⟨ga, 0, none⟩) (D.tr.length + 1) ca) _ (fun e => hNS (e ▸ h4.gS)))
  refine wpOrd_step rfl rfl (by rfl) (fun K' hK => ?_)
  refine wp_append_run (.tmp 23) (.tmp 25) 33 (by rfl) _ _ _ (by rfl) (by rfl) hr5 ?_
  refine hK.out _ _ r5 (fun h => absurd h (by decide)) (fun _ => ?_)
  clear hK K'
  simp only [Act.put, List.setIfInBounds_toArray, List.set_cons_zero, List.set_cons_succ]
  refine wpOrd_quiet (v := ?_) rfl rfl (fun _ _ _ h => h) (by rfl) ?_ ?_
  rotate_left
  · (intro w' _ _; go_simp; try rfl)
  simp only [Act.put, List.setIfInBounds_toArray, List.set_cons_zero, List.set_cons_succ]
  refine wpOrd_quiet (v := ?_) rfl rfl (fun _ _ _ h => h) (by rfl) ?_ ?_
  rotate_left
  · (intro w' _ _; go_simp; try rfl)
  simp only [Act.put, List.setIfInBounds_toArray, List.set_cons_zero, List.set_cons_succ]
  refine wpOrd_step rfl rfl (by rfl) (fun K' hK => ?_)
  go_simp
  refine hK.out _ _ r6 (fun h => absurd h (by decide)) (fun _ => ?_)
  clear hK K'
  refine wpOrd_nil ?_
  have S4 := (Step.of_below Z (b4.mono (Nat.le_refl _))).trans s6
  clear h4 s6 b4 hl n4 n5 hr5 ow5 gr5 at5 hgl hg5 c5 f5 r5 r6
  go_wp2_with fail
  refine bodyPost_end (results_none rfl _ _ _) rfl ?_
  exact ⟨rfl, Z', _, h6, S4⟩
#print axioms record_any
#print axioms builtS_ev
#print axioms built_ev
end Go.Proofs.YtlfcejfpdgdnkaaDoor

/- What calls of (*Disk).Read and Stable do: for every device in memory; what is not the device's own is as it was. -/
namespace Go.Proofs.YtlfcejfpdgdnkaaDoor
open Go.RowKit
set_option maxRecDepth 20000

def DS.did (D : DS) (e : Ev) : DS := { D with tr := D.tr ++ [e] }
/-- Block i was read. -/
def DS.reads (D : DS) (i : Nat) : DS := D.spent.did ⟨1, i, fitL D.size (D.blk i).1.zs, BV.nil⟩
/-- A place that is none was read. -/
def DS.misses (D : DS) (i : Int) : DS := D.spent.did ⟨1, i, [], BV.nil⟩

theorem hasI_nat {n i : Nat} (h : i < n) : hasI n (i : Int) = true := by simp [hasI, h]

set_option maxHeartbeats 2000000 in
theorem read_no {p : Addr} {w : World} {Z : Own} {g : Nat} {D : DS} (h : Dk w Z g D) (hp : Pow p w) (hl : D.left = 0) (i : Int) :
    Calls Tryd.prog 35 #[.pointer (some ⟨g, 0, none⟩), .int .i64 i] w fun e w' => e = .panicked [{ v := errV p, recovered := false }] ∧ w = w' := by
  obtain ⟨gb, wv, tv, h⟩ := h
  have hS := spend_no h hp hl
  clear h hp
  go_enter Tryd.func35, Tryd.ntmps35
  go_wp2_with fail
  refine hS.mono ?_
  rintro e w1 ⟨rfl, rfl⟩
  go_wp2_with fail
  exact ⟨rfl, rfl, rfl⟩

set_option maxHeartbeats 2000000 in
theorem read_at {w : World} {Z : Own} {g : Nat} {D : DS} (h : Dk w Z g D) (hl : ¬ D.left = 0) (hlim : D.tr.length < 1000000) (i : Nat) (hi : i < D.n) :
    Calls Tryd.prog 35 #[.pointer (some ⟨g, 0, none⟩), .int .i64 (i : Int)] w fun e w' =>
      ∃ k Z', e = .returned (.slice (some ⟨k, 0, none⟩) D.size D.size) ∧ w.heap.size ≤ k ∧ ¬ Z'.S k ∧ OwnB 5 w' k (fitL D.size (D.blk i).1.zs) ∧ Dk w' Z' g (D.reads i) ∧ Step Z w Z' w' := by
  obtain ⟨gb, wv, tv, h⟩ := h
  have hS := spend_ok h hl
  have hn := h.n
  clear h
  go_enter Tryd.func35, Tryd.ntmps35
  go_wp2_with fail
  refine hS.mono ?_
  rintro e w1 ⟨rfl, h1, s1⟩
  clear hS
  have hH := has_any h1 (i : Int)
  rw [show D.spent.n = D.n from rfl, hasI_nat hi] at hH
  have c1 : w1.cell? ⟨g, 1, none⟩ = some (.slice (some ⟨gb, 0, none⟩) D.n D.n) := h1.c1
  have hx := (h1.okb i hi).1
  have cb : w1.cell? ⟨gb, i * 2, none⟩ = some (D.blk i).1.v := by rw [Nat.mul_comm]; exact h1.cb0 i hi
  have hF := fitted_any h1 hx.bs
  have HF := hide hF
  clear hF
  go_wp2_with fail
  refine hH.mono ?_
  rintro e w2 ⟨rfl, rfl⟩
  clear hH
  go_wp2_with fail
  refine HF.out.mono ?_
  rintro e w3 ⟨rfl, hO, hb⟩
  have h3 := h1.below hb
  have hNS : ¬ Z.S w1.heap.size := fun hs => absurd (h1.lt _ hs) (Nat.lt_irrefl _)
  have hR := record_any h3 1 (i : Int) (hO.bs (fitL_bytes _ hx.bs.bytes) D.size (fitL_length _ _) (by have : D.size ≤ 60000 := h1.size; omega)) BV.nil (BV.In.nil _ _) hlim
  have s3 := s1.trans (Step.of_below Z hb)
  have hle : w.heap.size ≤ w1.heap.size := s1.size
  have HR := hide hR
  clear HF hb h1 s1 c1 cb hx hR
  go_wp2_with fail
  refine HR.out.mono ?_
  rintro e w4 ⟨rfl, Z', tv', h4, s4⟩
  clear HR
  have hO4 : OwnB 5 w4 w1.heap.size (fitL D.size (D.blk i).1.zs) := s4.heap hO hNS
  have hA := s4.aside hO.lt hNS
  go_wp2_with fail
  go_ret
  exact ⟨w1.heap.size, Z', rfl, hle, hA, hO4, ⟨gb, wv, tv', h4⟩, s3.trans s4⟩

set_option maxHeartbeats 2000000 in
theorem read_out {w : World} {Z : Own} {g : Nat} {D : DS} (h : Dk w Z g D) (hl : ¬ D.left = 0) (hlim : D.tr.length < 1000000) (i : Int) (hi : hasI D.n i = false) :
    Calls Tryd.prog 35 #[.pointer (some ⟨g, 0, none⟩), .int .i64 i] w fun e w' =>
      ∃ Z', e = .returned (.slice none 0 0) ∧ Dk w' Z' g (D.misses i) ∧ Step Z w Z' w' := by
  obtain ⟨gb, wv, tv, h⟩ := h
  have hS := spend_ok h hl
  clear h
  go_enter Tryd.func35, Tryd.ntmps35
  go_wp2_with fail
  refine hS.mono ?_
  rintro e w1 ⟨rfl, h1, s1⟩
  clear hS
  have hH := has_any h1 i
  rw [show D.spent.n = D.n from rfl, hi] at hH
  have HR := hide (record_any h1 1 i (Bs.nil w1) BV.nil (BV.In.nil _ _) hlim)
  clear h1
  go_wp2_with fail
  refine hH.mono ?_
  rintro e w2 ⟨rfl, rfl⟩
  clear hH
  go_wp2_with fail
  refine HR.out.mono ?_
  rintro e w4 ⟨rfl, Z', tv', h4, s4⟩
  clear HR
  go_wp2_with fail
  go_ret
  exact ⟨Z', rfl, ⟨gb, wv, tv', h4⟩, s1.trans s4⟩

#print axioms read_at
#print axioms read_no
end Go.Proofs.YtlfcejfpdgdnkaaDoor

/- What a call of (*Disk).Write does: for every device in memory; what is not the device's own is as it was. -/
namespace Go.Proofs.YtlfcejfpdgdnkaaDoor
open Go.RowKit
set_option maxRecDepth 20000

/-- x was written at block i. -/
def DS.writes (D : DS) (i : Nat) (x : BV) : DS := { D with left := spendL D.left, blk := updW D.blk i x, wait := D.wait ++ [(i, x)], tr := D.tr ++ [⟨2, i, x.zs, x⟩] }
/-- x was written at a place that is none. -/
def DS.loses (D : DS) (i : Int) (x : BV) : DS := D.spent.did ⟨2, i, x.zs, x⟩

set_option maxHeartbeats 2000000 in
theorem write_no {p : Addr} {w : World} {Z : Own} {g : Nat} {D : DS} (h : Dk w Z g D) (hp : Pow p w) (hl : D.left = 0) (i : Int) (v : Value) :
    Calls Tryd.prog 33 #[.pointer (some ⟨g, 0, none⟩), .int .i64 i, v] w fun e w' => e = .panicked [{ v := errV p, recovered := false }] ∧ w = w' := by
  obtain ⟨gb, wv, tv, h⟩ := h
  have hS := spend_no h hp hl
  clear h hp
  go_enter Tryd.func33, Tryd.ntmps33
  go_wp2_with fail
  refine hS.mono ?_
  rintro e w1 ⟨rfl, rfl⟩
  go_wp2_with fail
  exact ⟨rfl, rfl, rfl⟩

theorem builtS_wr (i : Int) (x : BV) : Tryd.prog.builtSlice 85 1 [(0, .agg #[.int .i64 i, x.v])] = some #[.int .i64 i, x.v] := by kernel_rfl
theorem built_wr (i : Int) (x : BV) : Tryd.prog.built 85 [(0, .int .i64 i), (1, x.v)] = some #[.int .i64 i, x.v] := by kernel_rfl
theorem Tryd.info_wr : (Tryd.prog.info? 85).map (fun i => (i.zero, i.size, i.bytes)) = some (some (.agg #[.int .i64 0, .slice none 0 0]), 2, 32) := by kernel_rfl
theorem wrC_one (p : Nat × BV) : ∀ u ∈ wrC p, u.oneCell' = true := by
  intro u hu
  simp only [wrC, List.mem_cons, List.not_mem_nil, or_false] at hu
  rcases hu with rfl | rfl <;> rfl

set_option maxHeartbeats 2000000 in
theorem write_out {w : World} {Z : Own} {g : Nat} {D : DS} (h : Dk w Z g D) (hl : ¬ D.left = 0) (hlim : D.tr.length < 1000000) (i : Int) (hi : hasI D.n i = false) {a : Option Addr} {len cap : Nat} {zs : List Int} (hx : Bz Z w a len cap zs) :
    Calls Tryd.prog 33 #[.pointer (some ⟨g, 0, none⟩), .int .i64 i, .slice a len cap] w fun e w' =>
      ∃ Z' x, e = .returned (.tuple #[]) ∧ x.zs = zs.take D.size ∧ Dk w' Z' g (D.loses i x) ∧ Step Z w Z' w' := by
  obtain ⟨gb, wv, tv, h⟩ := h
  have hS := spend_ok h hl
  clear h
  go_enter Tryd.func33, Tryd.ntmps33
  go_wp2_with fail
  refine hS.mono ?_
  rintro e w1 ⟨rfl, h1, s1⟩
  clear hS
  have hx1 := hx.step s1
  have HK := hide (kept_any h1 hx1.bs)
  have hNS : ¬ Z.S w1.heap.size := fun hs => absurd (h1.lt _ hs) (Nat.lt_irrefl _)
  go_wp2_with fail
  refine HK.out.mono ?_
  rintro e w2 ⟨rfl, hO, hb⟩
  clear HK
  obtain ⟨x, hxd⟩ : ∃ x : BV, x = ⟨some ⟨w1.heap.size, 0, none⟩, min len D.size, min len D.size, zs.take D.size⟩ := ⟨_, rfl⟩
  have h2 := (h1.below hb).adopt w1.heap.size hNS hO.lt
  have s2 := (s1.trans (Step.of_below Z hb)).add w1.heap.size s1.size
  have hsz : D.size ≤ 60000 := h1.size
  have hin : x.In w2 (Z.add w1.heap.size).R := by
    rw [hxd]
    exact ⟨hO.bs (hx1.bs.bytes.take _) _ (by rw [List.length_take, hx1.bs.length]; exact Nat.min_comm _ _) (by show min len D.size ≤ _; omega), fun p hp => .inr (by cases hp; rfl)⟩
  have hH := has_any h2 i
  rw [show D.spent.n = D.n from rfl, hi] at hH
  have HR := hide (record_any h2 2 i hin.bs x hin hlim)
  have hz : x.zs = zs.take D.size := by rw [hxd]
  have hv : Value.slice (some ⟨w1.heap.size, 0, none⟩) (min len D.size) (min len D.size) = x.v := by rw [hxd]
  rw [show D.spent.size = D.size from rfl, hv]
  clear h1 s1 hx hx1 hb hO h2 hin hxd hv
  go_wp2_with fail
  refine hH.mono ?_
  rintro e w3 ⟨rfl, rfl⟩
  clear hH
  go_wp2_with fail
  refine HR.out.mono ?_
  rintro e w4 ⟨rfl, Z', tv', h4, s4⟩
  clear HR
  go_wp2_with fail
  refine bodyPost_end (results_none rfl _ _ _) rfl ?_
  exact ⟨Z', x, rfl, hz, ⟨gb, wv, tv', h4⟩, s2.trans s4⟩

set_option maxHeartbeats 4000000 in
theorem write_at {w : World} {Z : Own} {g : Nat} {D : DS} (h : Dk w Z g D) (hl : ¬ D.left = 0) (hlim : D.tr.length < 1000000) (hlw : D.wait.length < 1000000) (i : Nat) (hi : i < D.n) {a : Option Addr} {len cap : Nat} {zs : List Int} (hx : Bz Z w a len cap zs) :
    Calls Tryd.prog 33 #[.pointer (some ⟨g, 0, none⟩), .int .i64 (i : Int), .slice a len cap] w fun e w' =>
      ∃ Z' x, e = .returned (.tuple #[]) ∧ x.zs = zs.take D.size ∧ Dk w' Z' g (D.writes i x) ∧ Step Z w Z' w' := by
  obtain ⟨gb, wv, tv, h⟩ := h
  have hS := spend_ok h hl
  have hn := h.n
  clear h
  go_enter Tryd.func33, Tryd.ntmps33
  go_wp2_with fail
  refine hS.mono ?_
  rintro e w1 ⟨rfl, h1, s1⟩
  clear hS
  have hx1 := hx.step s1
  have HK := hide (kept_any h1 hx1.bs)
  have hNS : ¬ Z.S w1.heap.size := fun hs => absurd (h1.lt _ hs) (Nat.lt_irrefl _)
  go_wp2_with fail
  refine HK.out.mono ?_
  rintro e w2 ⟨rfl, hO, hb⟩
  clear HK
  obtain ⟨x, hxd⟩ : ∃ x : BV, x = ⟨some ⟨w1.heap.size, 0, none⟩, min len D.size, min len D.size, zs.take D.size⟩ := ⟨_, rfl⟩
  have h2 := (h1.below hb).adopt w1.heap.size hNS hO.lt
  have s2 := (s1.trans (Step.of_below Z hb)).add w1.heap.size s1.size
  have hsz : D.size ≤ 60000 := h1.size
  have hin : x.In w2 (Z.add w1.heap.size).R := by
    rw [hxd]
    exact ⟨hO.bs (hx1.bs.bytes.take _) _ (by rw [List.length_take, hx1.bs.length]; exact Nat.min_comm _ _) (by show min len D.size ≤ _; omega), fun p hp => .inr (by cases hp; rfl)⟩
  have hH := has_any h2 (i : Int)
  rw [show D.spent.n = D.n from rfl, hasI_nat hi] at hH
  have hz : x.zs = zs.take D.size := by rw [hxd]
  have hv : Value.slice (some ⟨w1.heap.size, 0, none⟩) (min len D.size) (min len D.size) = x.v := by rw [hxd]
  rw [show D.spent.size = D.size from rfl, hv]
  clear h1 s1 hx hx1 hb hO hxd hv hNS
  generalize Z.add w1.heap.size = Z1 at *
  have c1 : w2.cell? ⟨g, 1, none⟩ = some (.slice (some ⟨gb, 0, none⟩) D.n D.n) := h2.c1
  have cb : w2.cell? ⟨gb, i * 2, none⟩ = some (D.blk i).1.v := by rw [Nat.mul_comm]; exact h2.cb0 i hi
  have fb := h2.frozb (i * 2)
  obtain ⟨h3, s3⟩ := h2.setW i x hin
  rw [Nat.mul_comm 2 i] at h3 s3
  have c2 : (w2.setCell ⟨gb, i * 2, none⟩ x.v).cell? ⟨g, 2, none⟩ = some wv := h3.c2
  have hin3 : x.In (w2.setCell ⟨gb, i * 2, none⟩ x.v) Z1.R := hin.keep (fun k hk => (OnlyAt.setC gb (i * 2) w2 x.v).block k (fun e => h2.bR (e ▸ hk))) (fun _ hk => hk)
  have s3' := s2.trans s3
  have hws : (w2.setCell ⟨gb, i * 2, none⟩ x.v).heap.size = w2.heap.size := (OnlyAt.setC gb (i * 2) w2 x.v).size
  have ba := below_alloc (Below.refl (w2.setCell ⟨gb, i * 2, none⟩ x.v).heap.size (w2.setCell ⟨gb, i * 2, none⟩ x.v)) (.cells #[.int .i64 (i : Int), x.v] 85)
  have n4 := heap_alloc_new (w2.setCell ⟨gb, i * 2, none⟩ x.v) (.cells #[.int .i64 (i : Int), x.v] 85)
  rw [hws] at n4
  have h4 := h3.below ba
  have s4 := s3'.trans (Step.of_below Z1 ba)
  have hin4 : x.In _ Z1.R := hin3.keep (fun k hk => ba.block k (h3.lt k (h3.sub k hk))) (fun _ hk => hk)
  obtain ⟨wv', w5, hr5, ow5, gr5, at5, ga, ca, hform⟩ := run_append_elem (P := Tryd.prog) 2 32 _ Tryd.underlying56 Tryd.info_wr (by rfl) (by decide) (by decide) 56 _ wv D.wait.length _ h4.waits w2.heap.size (wrC (i, x)) rfl (range_of_row n4) (wrC_one _) hlw
  subst hform
  have hlst : ∀ p ∈ D.wait ++ [(i, x)], p.1 < D.n ∧ p.2.In ((w2.setCell ⟨gb, i * 2, none⟩ x.v).alloc (.cells #[.int .i64 (i : Int), x.v] 85)) Z1.R := by
    intro p hp
    rcases List.mem_append.1 hp with h1 | h1
    · exact h4.okw p h1
    · rw [List.mem_singleton] at h1
      subst h1
      exact ⟨hi, hin4⟩
  have e6 : (D.wait ++ [(i, x)]).flatMap wrC = D.wait.flatMap wrC ++ wrC (i, x) := by rw [List.flatMap_append]; simp
  have ow6 : w5.ownsRow 0 85 2 (.slice (some ⟨ga, 0, none⟩) (D.wait.length + 1) ca) (D.wait ++ [(i, x)]).length ((D.wait ++ [(i, x)]).flatMap wrC) := by rw [e6, List.length_append]; exact ow5
  obtain ⟨Z2, h6, s6⟩ := h4.setWait (D.wait ++ [(i, x)]) gr5 ow6 hlst at5
  have hgl := h4.lt g h4.gS
  have hg5 := gr5.block g hgl (fun e => h4.wg e.symm)
  have c5 : w5.cell? ⟨g, 2, none⟩ = some wv := (World.cell?_of_block (a := ⟨g, 2, none⟩) hg5).trans h4.c2
  have f5 : w5.frozen? ⟨g, 2, none⟩ = false := (World.frozen?_of_block (a := ⟨g, 2, none⟩) hg5).trans (h4.froz 2)
  have hin6 := (h6.okw (i, x) (List.mem_append_right _ (List.mem_singleton.2 rfl))).2
  have HR := hide (record_any h6 2 (i : Int) hin6.bs x hin6 hlim)
  have S6 := s4.trans s6
  have HC := hide c2
  clear h2 s2 s3 hin c2 h3 hin3 s3' h4 s4 hin4 ow5 ow6 e6 gr5 at5 hlst h6 s6 hgl hg5 hin6 ba n4 hws
  go_wp2_with fail
  refine hH.mono ?_
  rintro e w3 ⟨rfl, rfl⟩
  clear hH
  have c2 := HC.out
  clear HC
  go_wp2_with (at_builtin; refine wpList_append_run (by rfl) (.tmp 27) (.tmp 31) 56 (by rfl) _ _ _ _ (by rfl) (by rfl) hr5 ?_)
  refine HR.out.mono ?_
  rintro e w6 ⟨rfl, Z', tv', h7, s7⟩
  clear HR hr5 c2 c5 f5
  go_wp2_with fail
  refine bodyPost_end (results_none rfl _ _ _) rfl ?_
  exact ⟨Z', x, rfl, hz, ⟨gb, _, tv', h7⟩, S6.trans s7⟩
#print axioms write_at
#print axioms write_out
end Go.Proofs.YtlfcejfpdgdnkaaDoor

/- What a call of (*Disk).Flush does: for every device in memory; what is not the device's own is as it was. -/
namespace Go.Proofs.YtlfcejfpdgdnkaaDoor
open Go.RowKit
set_option maxRecDepth 20000

/-- Writes that waited are flushed, in their order. -/
def flushN (b : Nat → BV × BV) (l : List (Nat × BV)) : Nat → BV × BV := l.foldl (fun b p => updF b p.1 p.2) b
theorem flushN_snoc (b : Nat → BV × BV) (l : List (Nat × BV)) (p : Nat × BV) : flushN b (l ++ [p]) = updF (flushN b l) p.1 p.2 := by simp [flushN]
theorem take_next {α : Type} (l : List α) (k : Nat) (x : α) (h : l[k]? = some x) : l.take (k + 1) = l.take k ++ [x] := by
  rw [List.take_add_one, h]; rfl
def DS.flush (D : DS) : DS := { D with left := spendL D.left, blk := flushN D.blk D.wait, wait := [], tr := D.tr ++ [⟨3, 0, [], BV.nil⟩] }

section
variable {w : World} {Z : Own} {g : Nat} {D : DS} {gb : Nat} {wv tv : Value}
theorem ownsRow_form {w : World} {base : Nat} {e : TypeId} {size : Nat} {v : Value} {n : Nat} {xs : List Value} (h : w.ownsRow base e size v n xs) : ∃ a cap, v = .slice a n cap ∧ n ≤ cap ∧ cap ≤ maxLen ∧ (0 < n → ∃ gw, a = some ⟨gw, 0, none⟩ ∧ v.ownBlock = some gw) := by
  rcases h.2 with ⟨h1, h0⟩ | ⟨ga, ca, cur, h1, _, _, h4, h5, _⟩
  · subst h0
    exact ⟨none, 0, h1, Nat.le_refl _, by unfold maxLen; omega, fun h => absurd h (Nat.lt_irrefl _)⟩
  · exact ⟨_, ca, h1, h4, h5, fun _ => ⟨ga, rfl, by rw [h1]; rfl⟩⟩
/-- Record i of a row that is owned. -/
theorem ownsRow_rec {α : Type} {w : World} {base : Nat} {e : TypeId} {m : Nat} {v : Value} {l : List α} {f : α → List Value} (hm : ∀ x, (f x).length = m) (h : w.ownsRow base e m v l.length (l.flatMap f)) {gw : Nat} (hg : v.ownBlock = some gw) (i : Nat) (x : α) (hx : l[i]? = some x) : w.rangeAt gw (m * i) (f x) := by
  intro j u hj
  have hjl : j < m := by rw [← hm x]; exact (List.getElem?_eq_some_iff.1 hj).1
  have := h.cells hg (m * i + j) u (by rw [flat_get m f hm l i j hjl, hx]; exact hj)
  rw [addr_add, Nat.zero_add] at this
  exact this
end

theorem zero_wr : (Tryd.prog.info? 85).bind (·.zero) = some (.agg #[.int .i64 0, .slice none 0 0]) := by kernel_rfl
theorem Tryd.size_wr : (Tryd.prog.info? 85).map (·.size) = some 2 := by kernel_rfl

end Go.Proofs.YtlfcejfpdgdnkaaDoor

/- What calls of (*Disk).spoiled and settle do: for every device in memory; what is not the device's own is as it was. -/
namespace Go.Proofs.YtlfcejfpdgdnkaaDoor
open Go.RowKit
set_option maxRecDepth 20000

theorem OwnB.set {E : TypeId} {w : World} {g : Nat} {zs : List Int} (h : OwnB E w g zs) (k : Nat) (z : Int) : OwnB E (w.setCell ⟨g, k, none⟩ (.int .u8 z)) g (zs.set k z) := by
  unfold OwnB at h ⊢
  rw [heap_setCell_same w g k _ _ _ h]
  simp [List.map_set]

/-- The first k bytes are garbled. -/
def halfL (k : Nat) (ys : List Int) : List Int := badL (ys.take k) ++ ys.drop k
theorem halfL_zero (ys : List Int) : halfL 0 ys = ys := by simp [halfL, badL]
theorem halfL_all (ys : List Int) : halfL ys.length ys = badL ys := by simp [halfL]
theorem halfL_length (k : Nat) (ys : List Int) : (halfL k ys).length = ys.length := by
  simp only [halfL, List.length_append, badL_length, List.length_take, List.length_drop]; omega
theorem halfL_get (k : Nat) (ys : List Int) (h : k < ys.length) : (halfL k ys).getD k 0 = ys.getD k 0 := by
  unfold halfL
  rw [List.getD, List.getElem?_append_right (by rw [badL_length, List.length_take]; omega), badL_length, List.length_take, List.getElem?_drop, show k + (k - min k ys.length) = k by omega]
  rfl
theorem halfL_step (k : Nat) (ys : List Int) (h : k < ys.length) : (halfL k ys).set k (xr (ys.getD k 0) 165) = halfL (k + 1) ys := by
  unfold halfL
  have hl : (badL (ys.take k)).length = k := by rw [badL_length, List.length_take]; omega
  rw [List.set_append_right _ _ (by omega), hl, Nat.sub_self, take_snoc ys k h]
  have : ys.drop k = ys.getD k 0 :: ys.drop (k + 1) := by
    rw [List.drop_eq_getElem_cons h]
    simp [List.getD, h]
  rw [this, List.set_cons_zero]
  simp [badL]

section
variable {w : World} {Z : Own} {g : Nat} {D : DS} {gb : Nat} {wv tv : Value}

theorem DkAt.cd0 (h : DkAt w Z g D gb wv tv) (i : Nat) (hi : i < D.n) : w.cell? ⟨gb, i * 2, none⟩ = some (D.blk i).1.v := by rw [Nat.mul_comm]; exact h.cb0 i hi
theorem DkAt.cd1 (h : DkAt w Z g D gb wv tv) (i : Nat) (hi : i < D.n) : w.cell? ⟨gb, i * 2 + 1, none⟩ = some (D.blk i).2.v := by rw [Nat.mul_comm]; exact h.cb1 i hi

/-- Both of block i. -/
def updB (blk : Nat → BV × BV) (i : Nat) (y : BV) : Nat → BV × BV := fun j => if j = i then (y, y) else blk j
theorem updB_updF (blk : Nat → BV × BV) (i : Nat) (y : BV) : updW (updF blk i y) i y = updB blk i y := by
  funext j
  unfold updW updF updB
  by_cases h : j = i
  · rw [if_pos h, if_pos h, if_pos rfl]
  · rw [if_neg h, if_neg h, if_neg h]
theorem updB_updW (blk : Nat → BV × BV) (i : Nat) : updW blk i (blk i).2 = updB blk i (blk i).2 := by
  funext j
  unfold updW updB
  by_cases h : j = i
  · rw [if_pos h]
  · rw [if_neg h]

/-- What becomes of a write by its choice. -/
def Settled (size : Nat) (zs old : List Int) (c : Int) (ys : List Int) : Prop := (c = 0 → ys = zs) ∧ (c = 1 → ys = old) ∧ (c = 2 → ys = badL (fitL size zs))

end
end Go.Proofs.YtlfcejfpdgdnkaaDoor

/- What a call of (*Disk).Crash does: for every device in memory, any choices; what is not the device's own is as it was. -/
namespace Go.Proofs.YtlfcejfpdgdnkaaDoor
open Go.RowKit
set_option maxRecDepth 20000

/-- What the blocks hold, written and flushed. -/
def zOf (blk : Nat → BV × BV) : Nat → List Int × List Int := fun j => ((blk j).1.zs, (blk j).2.zs)
/-- What a write comes to by its choice. -/
def pickZ (size : Nat) (zs old : List Int) (c : Int) : List Int := if c = 1 then old else if c = 2 then badL (fitL size zs) else zs
theorem Settled.pick {size : Nat} {zs old : List Int} {c : Int} {ys : List Int} (h : Settled size zs old c ys) (hc : c = 0 ∨ c = 1 ∨ c = 2) : ys = pickZ size zs old c := by
  unfold pickZ
  rcases hc with rfl | rfl | rfl
  · rw [if_neg (by decide), if_neg (by decide)]; exact h.1 rfl
  · rw [if_pos rfl]; exact h.2.1 rfl
  · rw [if_neg (by decide), if_pos rfl]; exact h.2.2 rfl
def settleZ (size : Nat) (f : Nat → List Int × List Int) (i : Nat) (zs : List Int) (c : Int) : Nat → List Int × List Int := fun j => if j = i then (pickZ size zs (f i).2 c, pickZ size zs (f i).2 c) else f j
def crashN (size : Nat) (ch : List Int) (f : Nat → List Int × List Int) (l : List (Nat × List Int)) : Nat → List Int × List Int := l.zipIdx.foldl (fun f p => settleZ size f p.1.1 p.1.2 (chL ch p.2)) f
theorem crashN_snoc (size : Nat) (ch : List Int) (f : Nat → List Int × List Int) (l : List (Nat × List Int)) (p : Nat × List Int) : crashN size ch f (l ++ [p]) = settleZ size (crashN size ch f l) p.1 p.2 (chL ch l.length) := by
  simp [crashN, List.zipIdx_append]
def wz (l : List (Nat × BV)) : List (Nat × List Int) := l.map fun p => (p.1, p.2.zs)
def DS.crash (D : DS) (b : Nat → BV × BV) : DS := { D with blk := b, wait := [], tr := D.tr ++ [⟨4, 0, [], BV.nil⟩], left := -1 }

/-- A slice of numbers that lies aside. -/
structure Nz (k : IntKind) (Z : Own) (w : World) (a : Option Addr) (len cap : Nat) (zs : List Int) : Prop where
  ns : Ns k w a len cap zs
  out : 0 < len → ∀ p, a = some p → p.block < w.heap.size ∧ ¬ Z.S p.block
theorem Ns.keepAt {k : IntKind} {w w' : World} {a : Option Addr} {len cap : Nat} {zs : List Int} (h : Ns k w a len cap zs) (hb : 0 < len → ∀ p, a = some p → w'.heap[p.block]? = w.heap[p.block]?) : Ns k w' a len cap zs := by
  refine ⟨h.length, h.le_cap, h.cap_le, h.wf, ?_⟩
  rcases h.place with h1 | ⟨b, off, rfl, hc⟩
  · exact .inl h1
  · refine .inr ⟨b, off, rfl, fun i hi => ?_⟩
    have := hb (by omega) ⟨b, off, none⟩ rfl
    rw [World.cell?_of_block (w := w) (a := ⟨b, off + i, none⟩) this]
    exact hc i hi
theorem Nz.step {k : IntKind} {Z Z' : Own} {w w' : World} {a : Option Addr} {len cap : Nat} {zs : List Int} (h : Nz k Z w a len cap zs) (s : Step Z w Z' w') : Nz k Z' w' a len cap zs :=
  ⟨h.ns.keepAt fun h0 p hp => s.block _ (h.out h0 p hp).1 (h.out h0 p hp).2, fun h0 p hp => ⟨Nat.lt_of_lt_of_le (h.out h0 p hp).1 s.size, s.aside (h.out h0 p hp).1 (h.out h0 p hp).2⟩⟩

end Go.Proofs.YtlfcejfpdgdnkaaDoor

/- What a call of (*Disk).Trace does: for every device in memory it answers what was done, in order, in new memory; all else is as it was. -/
namespace Go.Proofs.YtlfcejfpdgdnkaaDoor
open Go.RowKit
set_option maxRecDepth 20000

theorem evL_14 (k a : Int) (head : List Int) (v : Value) (h : head.length = 12) : (evL k a head v)[14]? = some v := by
  unfold evL
  rw [List.getElem?_cons_succ, List.getElem?_cons_succ, List.getElem?_append_right (by simp [h])]
  simp [h]
theorem evL_set (k a : Int) (head : List Int) (v u : Value) (h : head.length = 12) : (evL k a head v).set 14 u = evL k a head u := by
  unfold evL
  rw [List.set_cons_succ, List.set_cons_succ, List.set_append_right _ _ (by simp [h])]
  simp [h]
theorem evL_head (k a : Int) (head : List Int) (v : Value) (h : head.length = 12) (j : Nat) (hj : j < 12) : (evL k a head v)[2 + j]? = some (.int .u8 (head.getD j 0)) := by
  unfold evL
  rw [show 2 + j = j + 1 + 1 by omega, List.getElem?_cons_succ, List.getElem?_cons_succ, List.getElem?_append_left (by simp [h]; omega)]
  have : j < head.length := by omega
  simp [List.getD, this]

/-- A row of events that lies aside: what it tells. -/
structure Tr (Z : Own) (w : World) (te n size : Nat) (l : List Ev) : Prop where
  there : w.there te 0 (15 * n)
  out : ¬ Z.S te
  ev : ∀ i e, l[i]? = some e → ∃ v : BV, w.rangeAt te (15 * i) (evL e.kind e.at_ (fitL 12 e.head) v.v) ∧
    ((e.kind = 2 ∧ ∃ m, v = ⟨some ⟨m, 0, none⟩, size, size, fitL size e.body.zs⟩ ∧ te < m ∧ ¬ Z.S m ∧ OwnB 5 w m (fitL size e.body.zs)) ∨ (e.kind ≠ 2 ∧ v = e.body))
theorem there_keep {w w' : World} {b o n : Nat} (h : w.there b o n) (hb : w'.heap[b]? = w.heap[b]?) : w'.there b o n := fun j hj =>
  ⟨by rw [World.cell?_of_block (w := w) (a := ⟨b, o + j, none⟩) hb]; exact (h j hj).1, by rw [World.frozen?_of_block (w := w) (a := ⟨b, o + j, none⟩) hb]; exact (h j hj).2⟩
theorem Tr.keep {Z Z' : Own} {w w' : World} {te n size : Nat} {l : List Ev} (h : Tr Z w te n size l) (hb : ∀ k, ¬ Z.S k → k = te ∨ k < w.heap.size → w'.heap[k]? = w.heap[k]? ∧ ¬ Z'.S k) : Tr Z' w' te n size l := by
  have ht := hb te h.out (.inl rfl)
  refine ⟨there_keep h.there ht.1, ht.2, fun i e he => ?_⟩
  obtain ⟨v, hv, h2⟩ := h.ev i e he
  refine ⟨v, rangeAt_keep hv ht.1, ?_⟩
  rcases h2 with ⟨hk, m, rfl, hm, hs, hO⟩ | h2
  · have hm' := hb m hs (.inr hO.lt)
    refine .inl ⟨hk, m, rfl, hm, hm'.2, ?_⟩
    unfold OwnB at hO ⊢
    rw [hm'.1]; exact hO
  · exact .inr h2

theorem made_there (w : World) (z : Array Value) (n : Nat) (E : TypeId) : (w.alloc (.cells (madeCells z n) E)).there w.heap.size 0 n := fun j hj => by
  have h := heap_alloc_new w (.cells (madeCells z n) E)
  refine ⟨?_, frozen_of_row _ _ _ _ _ h⟩
  rw [cell_of_row _ _ _ _ _ _ h, Nat.zero_add]
  have : j < (madeCells z n).size := by rw [size_madeCells]; exact hj
  simp [this]

theorem setCells_only (b : Nat) : ∀ (vs : List Value) (o : Nat) (w : World), OnlyAt b w (w.setCells b o vs)
  | [], o, w => ⟨rfl, rfl, rfl, rfl, fun _ _ => rfl⟩
  | v :: vs, o, w => by
    have h1 := OnlyAt.setC b o w v
    have h2 := setCells_only b vs (o + 1) (w.setCell ⟨b, o, none⟩ v)
    exact ⟨h2.os.trans h1.os, h2.tape.trans h1.tape, h2.output.trans h1.output, h2.size.trans h1.size, fun k hk => (h2.block k hk).trans (h1.block k hk)⟩

theorem Tr.push {Z : Own} {w w1 : World} {te n size : Nat} {l : List Ev} (h : Tr Z w te n size l) (e : Ev) (v : BV) (k : Nat) (hk : l.length = k) (hkn : k < n) (hb : ∀ i, i < w.heap.size → w1.heap[i]? = w.heap[i]?) (hte : te < w.heap.size)
    (hv : (e.kind = 2 ∧ ∃ m, v = ⟨some ⟨m, 0, none⟩, size, size, fitL size e.body.zs⟩ ∧ te < m ∧ ¬ Z.S m ∧ OwnB 5 w1 m (fitL size e.body.zs)) ∨ (e.kind ≠ 2 ∧ v = e.body)) :
    Tr Z (w1.setCells te (15 * k) (evL e.kind e.at_ (fitL 12 e.head) v.v)) te n size (l ++ [e]) := by
  subst hk
  have hlen : (evL e.kind e.at_ (fitL 12 e.head) v.v).length = 15 := evL_length _ _ _ _ (fitL_length _ _)
  have ho := setCells_only te (evL e.kind e.at_ (fitL 12 e.head) v.v) (15 * l.length) w1
  have ht1 : w1.there te 0 (15 * n) := there_keep h.there (hb te hte)
  have hold : ∀ m, m ≠ te → ∀ zs, OwnB 5 w1 m zs → OwnB 5 (w1.setCells te (15 * l.length) (evL e.kind e.at_ (fitL 12 e.head) v.v)) m zs := fun m hm zs hO => ho.own hO hm
  refine ⟨World.there_setCells ht1 _ _ _, h.out, fun i e' he => ?_⟩
  rcases Nat.lt_or_ge i l.length with hi | hi
  · rw [List.getElem?_append_left hi] at he
    obtain ⟨u, hu, h2⟩ := h.ev i e' he
    refine ⟨u, World.rangeAt_setCells_apart (rangeAt_keep hu (hb te hte)) _ _ _ (.inr (.inl (by rw [evL_length _ _ _ _ (fitL_length _ _)]; omega))), ?_⟩
    rcases h2 with ⟨hk, m, rfl, hm, hs, hO⟩ | h2
    · refine .inl ⟨hk, m, rfl, hm, hs, hold m (Nat.ne_of_gt hm) _ ?_⟩
      unfold OwnB at hO ⊢
      rw [hb m (Array.getElem?_eq_some_iff.1 hO).1]; exact hO
    · exact .inr h2
  · rw [List.getElem?_append_right hi] at he
    have hi0 : i = l.length := by
      have := (List.getElem?_eq_some_iff.1 he).1
      simp at this
      omega
    subst hi0
    simp only [Nat.sub_self, List.getElem?_cons_zero, Option.some.injEq] at he
    subst he
    refine ⟨v, World.rangeAt_setCells_same _ _ _ _ (fun j hj => ?_), ?_⟩
    · have := ht1 (15 * l.length + j) (by rw [hlen] at hj; omega)
      rw [Nat.zero_add] at this
      exact this
    · rcases hv with ⟨hk, m, rfl, hm, hs, hO⟩ | h2
      · exact .inl ⟨hk, m, rfl, hm, hs, hold m (Nat.ne_of_gt hm) _ hO⟩
      · exact .inr h2
theorem Tr.there_at {Z : Own} {w : World} {te n size : Nat} {l : List Ev} (h : Tr Z w te n size l) (k : Nat) (hk : k < n) : w.there te (15 * k) 15 := fun j hj => by
  have := h.there (15 * k + j) (by omega)
  rw [Nat.zero_add] at this
  exact this

/-- The cells of n new events. -/
def zE (n : Nat) : Array Value := madeCells (evL 0 0 (zL 12) (.slice none 0 0)).toArray (15 * n)
theorem run_make_ev (n : Nat) (hn : n < 1000000) (w : World) : (Instr.makeSlice 33 (.int .i64 (n : Int)) (.int .i64 (n : Int))).run Tryd.prog w = .ok (.slice (some ⟨w.heap.size, 0, none⟩) n n) (w.alloc (.cells (zE n) 42)) := by
  obtain ⟨ie, hie, hzz⟩ := Option.map_eq_some_iff.1 Tryd.info_ev
  simp only [Prod.mk.injEq] at hzz
  obtain ⟨hz, hs, hby⟩ := hzz
  have hmk := run_make (P := Tryd.prog) w 33 42 ie _ Tryd.underlying33 hie hz .i64 .i64 (n : Int) (n : Int) (by omega) (Int.le_refl _) (by rw [hby]; omega) (by omega)
  rw [Int.toNat_natCast, hs, Nat.mul_comm] at hmk
  exact hmk

set_option maxRecDepth 100000 in
set_option maxHeartbeats 4000000 in
theorem trace_any {w : World} {Z : Own} {g : Nat} {D : DS} (h : Dk w Z g D) (hlim : D.tr.length < 1000000) :
    Calls Tryd.prog 10 #[.pointer (some ⟨g, 0, none⟩)] w fun e w' =>
      e = .returned (.slice (some ⟨w.heap.size, 0, none⟩) D.tr.length D.tr.length) ∧ Tr Z w' w.heap.size D.tr.length D.size D.tr ∧ Below w.heap.size w w' := by
  obtain ⟨gb, wv, tv, h⟩ := h
  obtain ⟨ta, tc, rfl, htc, htm, htg⟩ := ownsRow_form h.trace
  unfold maxLen at htm
  have c3 : w.cell? ⟨g, 3, none⟩ = some (.slice ta D.tr.length tc) := h.c3
  have hNS0 : ¬ Z.S w.heap.size := fun hs => absurd (h.lt _ hs) (Nat.lt_irrefl _)
  have hmk := run_make_ev D.tr.length hlim
  have ht0 : (w.alloc (.cells (zE D.tr.length) 42)).there w.heap.size 0 (15 * D.tr.length) := made_there w _ _ _
  have b0 := below_alloc (Below.refl _ w) (.cells (zE D.tr.length) 42)
  have h0 := h.below b0
  have c3' : (w.alloc (.cells (zE D.tr.length) 42)).cell? ⟨g, 3, none⟩ = some (.slice ta D.tr.length tc) := h0.c3
  have H0 := hide h0
  have HT := hide ht0
  have HB := hide b0
  have hlt := h.lt
  have hall : ∀ k, Z.S k → k < w.heap.size := hlt
  have hsz := h.size
  have hW0 : w.heap.size < (w.alloc (.cells (zE D.tr.length) 42)).heap.size := by rw [size_alloc]; omega
  clear h ht0 b0 h0 hlt
  go_enter Tryd.func10, Tryd.ntmps10
  go_wp2_with fail
  clear hmk c3 c3'
  generalize (w.alloc (.cells (zE D.tr.length) 42)) = W0 at *
  go_loopw [17] (fun v wr => ∃ k : Nat, k ≤ D.tr.length ∧ v = .int .i64 k ∧ DkAt wr Z g D gb wv (.slice ta D.tr.length tc) ∧ Tr Z wr w.heap.size D.tr.length D.size (D.tr.take k) ∧ Below w.heap.size w wr ∧ w.heap.size < wr.heap.size) (fun v _ => D.tr.length - (intOf v).toNat)
  case atStart => exact ⟨0, Nat.zero_le _, rfl, H0.out, ⟨HT.out, hNS0, fun i e he => by simp at he⟩, HB.out, hW0⟩
  case round =>
    obtain ⟨k, hk, rfl, hD, hT, hB, hW⟩ := hrel
    clear H0 HT HB hW0
    by_cases hlt : k < D.tr.length
    · obtain ⟨gw, hgw, hob⟩ := htg (by omega)
      obtain ⟨e, hp⟩ : ∃ p, D.tr[k]? = some p := ⟨_, List.getElem?_eq_getElem hlt⟩
      have hr := ownsRow_rec Ev.cells_length hD.trace hob k e hp
      rw [Ev.cells_ev] at hr
      have hpm := hD.okt e (List.mem_of_getElem? hp)
      subst hgw
      rw [Nat.mul_comm] at hr
      have hE0 : (evL 0 0 (zL 12) (.slice none 0 0)).length = 15 := evL_length _ _ _ _ (zL_length _)
      have hh12 := fitL_length 12 e.head
      have hE1 : (evL e.kind e.at_ (fitL 12 e.head) e.body.v).length = 15 := evL_length _ _ _ _ hh12
      have n0 := heap_alloc_new wr (.cells (evL 0 0 (zL 12) (.slice none 0 0)).toArray 42)
      have HN := hide n0
      have n1 : ((wr.alloc (.cells (evL 0 0 (zL 12) (.slice none 0 0)).toArray 42)).setRow wr.heap.size (evL e.kind e.at_ (fitL 12 e.head) e.body.v).toArray).heap[wr.heap.size]? = some (.cells (evL e.kind e.at_ (fitL 12 e.head) e.body.v).toArray 42 (0, 0)) := setRow_heap _ _ _ _ _ _ n0
      have b1 := (OnlyAt.setRow wr.heap.size (wr.alloc (.cells (evL 0 0 (zL 12) (.slice none 0 0)).toArray 42)) (evL e.kind e.at_ (fitL 12 e.head) e.body.v).toArray).below (below_alloc (Below.refl _ wr) _) (Nat.le_refl _)
      have hal := evL_all e.kind e.at_ (fitL 12 e.head) e.body
      have hNS : ¬ Z.S wr.heap.size := fun hs => absurd (hD.lt _ hs) (Nat.lt_irrefl _)
      have h2 := hD.below b1
      have hx2 : e.body.In _ Z.R := hpm.2.keep (fun k hk => b1.block k (hD.lt k (hD.sub k hk))) (fun _ hk => hk)
      have HS := hide (Tryd.size_ev.trans (by rw [hE1]) : (Tryd.prog.info? 42).map (·.size) = some (evL e.kind e.at_ (fitL 12 e.head) e.body.v).length)
      obtain ⟨W1, hW1⟩ : ∃ W1, ((wr.alloc (.cells (evL 0 0 (zL 12) (.slice none 0 0)).toArray 42)).setRow wr.heap.size (evL e.kind e.at_ (fitL 12 e.head) e.body.v).toArray) = W1 := ⟨_, rfl⟩
      have k0 : ((wr.alloc (.cells (evL 0 0 (zL 12) (.slice none 0 0)).toArray 42)).setRow wr.heap.size (evL e.kind e.at_ (fitL 12 e.head) e.body.v).toArray).cell? ⟨wr.heap.size, 0, none⟩ = some (.int .i64 e.kind) := cell_of_row _ _ 0 _ _ _ n1
      have k14 : ((wr.alloc (.cells (evL 0 0 (zL 12) (.slice none 0 0)).toArray 42)).setRow wr.heap.size (evL e.kind e.at_ (fitL 12 e.head) e.body.v).toArray).cell? ⟨wr.heap.size, 14, none⟩ = some e.body.v := by
        rw [cell_of_row _ _ 14 _ _ _ n1]
        simpa using evL_14 e.kind e.at_ (fitL 12 e.head) e.body.v hh12
      rw [hW1] at h2 hx2 n1 b1
      have H2 := hide h2
      have HX := hide hx2
      have HT := hide hT
      have HB := hide hB
      have H1 := hide b1
      have HN1 := hide n1
      have HW := hide hW1
      clear hD n0 n1 b1 h2 htg hob hx2 hT hB hpm hW1
      have hsz15 : (Tryd.prog.info? 42).map (·.size) = some (evL e.kind e.at_ (fitL 12 e.head) e.body.v).toArray.size := by rw [Tryd.size_ev]; simp [hE1]
      by_cases hk2 : e.kind = 2
      · have hkb : (e.kind == 2) = true := by simpa using hk2
        have HK2 := hide hk2
        clear hk2
        go_wp2_with (first
          | (refine wpList_newA (by rfl) 42 (by rfl) _ zero_ev wr.heap.size rfl ?_)
          | (refine wpList_load_mid rfl 42 _ (by rfl) gw (k * 15) (by rfl) (evL e.kind e.at_ (fitL 12 e.head) e.body.v) _ hr Tryd.underlying42 rfl HS.out ?_)
          | (refine wpList_putS Tryd.size_ev (by rfl) _ _ (by rfl) wr.heap.size (evL e.kind e.at_ (fitL 12 e.head) e.body.v).toArray (by rfl) (by rfl) _ HN.out (by simpa using hE1) (by simpa using hE0) hal ?_))
        rw [HW.out]
        have h2 := H2.out
        refine (fitted_any h2 HX.out.bs).mono ?_
        rintro e3 w3 ⟨rfl, hO, hb3⟩
        have n3 : w3.heap[wr.heap.size]? = some (.cells (evL e.kind e.at_ (fitL 12 e.head) e.body.v).toArray 42 (0, 0)) := by rw [hb3.block _ (Array.getElem?_eq_some_iff.1 HN1.out).1]; exact HN1.out
        have hVlt : wr.heap.size < W1.heap.size := (Array.getElem?_eq_some_iff.1 HN1.out).1
        have b3 := H1.out.trans (hb3.mono H1.out.size)
        have h3 := h2.below hb3
        have hNS1 : ¬ Z.S W1.heap.size := fun hs => absurd (h2.lt _ hs) (Nat.lt_irrefl _)
        have c14 : w3.cell? ⟨wr.heap.size, 14, none⟩ = some e.body.v := by
          rw [cell_of_row _ _ 14 _ _ _ n3]
          simpa using evL_14 e.kind e.at_ (fitL 12 e.head) e.body.v hh12
        have f14 : w3.frozen? ⟨wr.heap.size, 14, none⟩ = false := frozen_of_row _ _ _ _ _ n3
        obtain ⟨v, hv⟩ : ∃ v : BV, v = ⟨some ⟨W1.heap.size, 0, none⟩, D.size, D.size, fitL D.size e.body.zs⟩ := ⟨_, rfl⟩
        have hvv : Value.slice (some ⟨W1.heap.size, 0, none⟩) D.size D.size = v.v := by rw [hv]
        rw [hvv]
        have hE2 : (evL e.kind e.at_ (fitL 12 e.head) v.v).length = 15 := evL_length _ _ _ _ hh12
        have hal2 := evL_all e.kind e.at_ (fitL 12 e.head) v
        have hsz2 : (Tryd.prog.info? 42).map (·.size) = some (evL e.kind e.at_ (fitL 12 e.head) v.v).length := by rw [Tryd.size_ev, hE2]
        have hsz3 : (Tryd.prog.info? 42).map (·.size) = some (evL e.kind e.at_ (fitL 12 e.head) v.v).toArray.size := by rw [Tryd.size_ev]; simp [hE2]
        have o4 := OnlyAt.setC wr.heap.size 14 w3 v.v
        have n4 : (w3.setCell ⟨wr.heap.size, 14, none⟩ v.v).heap[wr.heap.size]? = some (.cells (evL e.kind e.at_ (fitL 12 e.head) v.v).toArray 42 (0, 0)) := by
          rw [heap_setCell_same w3 wr.heap.size 14 _ _ _ n3, List.setIfInBounds_toArray, evL_set _ _ _ _ _ hh12]
        have b4 : Below wr.heap.size wr (w3.setCell ⟨wr.heap.size, 14, none⟩ v.v) := b3.setCell (p := ⟨wr.heap.size, 14, none⟩) (Nat.le_refl _) v.v
        have hO4 : OwnB 5 (w3.setCell ⟨wr.heap.size, 14, none⟩ v.v) W1.heap.size (fitL D.size e.body.zs) := o4.own hO (by omega)
        have hT := HT.out
        have hB := HB.out
        have hpush := hT.push (w1 := w3.setCell ⟨wr.heap.size, 14, none⟩ v.v) e v k (by rw [List.length_take]; omega) hlt (fun i hi => b4.block i hi) hW (.inl ⟨HK2.out, W1.heap.size, hv, by omega, hNS1, hO4⟩)
        rw [← take_next _ _ _ hp, Nat.mul_comm] at hpush
        have hth : (w3.setCell ⟨wr.heap.size, 14, none⟩ v.v).there w.heap.size (k * 15) (evL e.kind e.at_ (fitL 12 e.head) v.v).toArray.size := by
          have := there_keep (hT.there_at k hlt) (b4.block _ hW)
          rw [Nat.mul_comm] at this
          simpa [hE2] using this
        have h4 := h3.keep (w' := w3.setCell ⟨wr.heap.size, 14, none⟩ v.v) (fun i hi => o4.block i (fun e => hNS (e ▸ hi))) (Nat.le_of_eq o4.size.symm)
        have o5 := setCells_only w.heap.size (evL e.kind e.at_ (fitL 12 e.head) v.v) (k * 15) (w3.setCell ⟨wr.heap.size, 14, none⟩ v.v)
        have h5 := h4.keep (fun i hi => o5.block i (fun e => hNS0 (e ▸ hi))) (Nat.le_of_eq o5.size.symm)
        have b5 : Below w.heap.size w ((w3.setCell ⟨wr.heap.size, 14, none⟩ v.v).setCells w.heap.size (k * 15) (evL e.kind e.at_ (fitL 12 e.head) v.v)) := o5.below (hB.trans (b4.mono (Nat.le_of_lt hW))) (Nat.le_refl _)
        have hW5 : w.heap.size < ((w3.setCell ⟨wr.heap.size, 14, none⟩ v.v).setCells w.heap.size (k * 15) (evL e.kind e.at_ (fitL 12 e.head) v.v)).heap.size := by
          have := b4.size
          rw [o5.size]
          omega
        have HR4 := hide (range_of_row n4)
        have HP := hide hpush
        have HTh := hide hth
        have H5 := hide h5
        have HB5 := hide b5
        clear H2 HX HT HB H1 HN1 HW h2 hO hb3 n3 b3 h3 hv hvv o4 n4 b4 hO4 hT hB hpush hth h4 o5 h5 b5 hr k0 k14 hE1 hal hsz15 HN HS
        go_wp2_with (first
          | (refine wpList_load_mid rfl 42 _ (by rfl) wr.heap.size 0 (by rfl) (evL e.kind e.at_ (fitL 12 e.head) v.v) _ HR4.out Tryd.underlying42 rfl hsz2 ?_)
          | (refine wpList_store_mid rfl 42 _ _ (by rfl) w.heap.size (k * 15) (evL e.kind e.at_ (fitL 12 e.head) v.v).toArray (by rfl) (by rfl) HTh.out hsz3 hal2 ?_))
        go_roundw
        case rel => exact ⟨k + 1, by omega, by go_num, H5.out, HP.out, HB5.out, hW5⟩
        case measure => simp [intOf]; omega
      · have hkb : (e.kind == 2) = false := by simpa using hk2
        have hT := HT.out
        have hB := HB.out
        have b1 := H1.out
        have hpush := hT.push (w1 := W1) e e.body k (by rw [List.length_take]; omega) hlt (fun i hi => b1.block i hi) hW (.inr ⟨hk2, rfl⟩)
        rw [← take_next _ _ _ hp, Nat.mul_comm] at hpush
        have hth : W1.there w.heap.size (k * 15) (evL e.kind e.at_ (fitL 12 e.head) e.body.v).toArray.size := by
          have := there_keep (hT.there_at k hlt) (b1.block _ hW)
          rw [Nat.mul_comm] at this
          simpa [hE1] using this
        have o5 := setCells_only w.heap.size (evL e.kind e.at_ (fitL 12 e.head) e.body.v) (k * 15) W1
        have h5 := H2.out.keep (fun i hi => o5.block i (fun e => hNS0 (e ▸ hi))) (Nat.le_of_eq o5.size.symm)
        have b5 : Below w.heap.size w (W1.setCells w.heap.size (k * 15) (evL e.kind e.at_ (fitL 12 e.head) e.body.v)) := o5.below (hB.trans (b1.mono (Nat.le_of_lt hW))) (Nat.le_refl _)
        have hW5 : w.heap.size < (W1.setCells w.heap.size (k * 15) (evL e.kind e.at_ (fitL 12 e.head) e.body.v)).heap.size := by
          have := b1.size
          rw [o5.size]
          omega
        have HR4 := hide (range_of_row HN1.out)
        rw [← HW.out] at hpush hth h5 b5 hW5 HR4
        have HP := hide hpush
        have HTh := hide hth
        have H5 := hide h5
        have HB5 := hide b5
        clear H2 HX HT HB H1 HN1 HW hT hB b1 hpush hth o5 h5 b5
        go_wp2_with (first
          | (refine wpList_newA (by rfl) 42 (by rfl) _ zero_ev wr.heap.size rfl ?_)
          | (refine wpList_load_mid rfl 42 _ (by rfl) gw (k * 15) (by rfl) (evL e.kind e.at_ (fitL 12 e.head) e.body.v) _ hr Tryd.underlying42 rfl HS.out ?_)
          | (refine wpList_load_mid rfl 42 _ (by rfl) wr.heap.size 0 (by rfl) (evL e.kind e.at_ (fitL 12 e.head) e.body.v) _ HR4.out Tryd.underlying42 rfl HS.out ?_)
          | (refine wpList_putS Tryd.size_ev (by rfl) _ _ (by rfl) wr.heap.size (evL e.kind e.at_ (fitL 12 e.head) e.body.v).toArray (by rfl) (by rfl) _ HN.out (by simpa using hE1) (by simpa using hE0) hal ?_)
          | (refine wpList_store_mid rfl 42 _ _ (by rfl) w.heap.size (k * 15) (evL e.kind e.at_ (fitL 12 e.head) e.body.v).toArray (by rfl) (by rfl) HTh.out hsz15 hal ?_))
        go_roundw
        case rel => exact ⟨k + 1, by omega, by go_num, H5.out, HP.out, HB5.out, hW5⟩
        case measure => simp [intOf]; omega
    · obtain rfl : k = D.tr.length := by omega
      rw [List.take_length] at hT
      go_wp2_with fail
      go_ret
      exact ⟨rfl, hT, hB⟩
#print axioms trace_any
end Go.Proofs.YtlfcejfpdgdnkaaDoor

/- What a call of disk.New does: for any numbers it answers a new device; nothing that was there is turned. -/
namespace Go.Proofs.YtlfcejfpdgdnkaaDoor
open Go.RowKit
set_option maxRecDepth 20000

def DS.new (n size : Nat) : DS := ⟨size, n, fun _ => (BV.nil, BV.nil), [], [], -1⟩
theorem Tryd.info_bk : (Tryd.prog.info? 83).map (fun i => (i.zero, i.size, i.bytes)) = some (some (.agg #[.slice none 0 0, .slice none 0 0]), 2, 48) := by kernel_rfl
/-- The cells of n new blocks. -/
def zK (n : Nat) : Array Value := madeCells #[.slice none 0 0, .slice none 0 0] (2 * n)
theorem run_make_bk (n : Nat) (hn : n ≤ 100000) (w : World) : (Instr.makeSlice 55 (.int .i64 (n : Int)) (.int .i64 (n : Int))).run Tryd.prog w = .ok (.slice (some ⟨w.heap.size, 0, none⟩) n n) (w.alloc (.cells (zK n) 83)) := by
  obtain ⟨ie, hie, hzz⟩ := Option.map_eq_some_iff.1 Tryd.info_bk
  simp only [Prod.mk.injEq] at hzz
  obtain ⟨hz, hs, hby⟩ := hzz
  have hmk := run_make (P := Tryd.prog) w 55 83 ie _ Tryd.underlying55 hie hz .i64 .i64 (n : Int) (n : Int) (by omega) (Int.le_refl _) (by rw [hby]; omega) (by omega)
  rw [Int.toNat_natCast, hs, Nat.mul_comm] at hmk
  exact hmk
theorem zK_row (w : World) (n : Nat) : (w.alloc (.cells (zK n) 83)).rowIs w.heap.size 83 (2 * n) (bkF fun _ => (BV.nil, BV.nil)) := by
  have h := World.rowIs_alloc w (zK n) 83 (bkF fun _ => (BV.nil, BV.nil)) (fun i hi => by
    have e : bkF (fun _ => (BV.nil, BV.nil)) i = .slice none 0 0 := by unfold bkF; split <;> rfl
    rw [e]
    unfold zK madeCells at *
    rcases Nat.mod_two_eq_zero_or_one i with h2 | h2
    all_goals
      simp at hi
      simp [hi, h2])
  rw [show (zK n).size = 2 * n from size_madeCells _ _] at h
  exact h
theorem built_dk (size gb n : Nat) : Tryd.prog.built 58 [(0, .int .i64 (size : Int)), (1, .slice (some ⟨gb, 0, none⟩) n n), (4, .int .i64 (-1))] = some (dkV size gb n (.slice none 0 0) (.slice none 0 0) (-1)) := by kernel_rfl

set_option maxHeartbeats 2000000 in
theorem new_any (blocks size : Int) (n sz : Nat) (hn : min (max blocks 0) 100000 = (n : Int)) (hs : min (max size 0) 60000 = (sz : Int)) (w : World) :
    Calls Tryd.prog 6 #[.int .i64 blocks, .int .i64 size] w fun e w' => ∃ g Z, e = .returned (.pointer (some ⟨g, 0, none⟩)) ∧ Dk w' Z g (DS.new n sz) ∧ (∀ k, Z.S k → w.heap.size ≤ k) ∧ Below w.heap.size w w' := by
  have h1 := held_any size 60000 w
  rw [hs] at h1
  have h2 := held_any blocks 100000 w
  rw [hn] at h2
  have hnl : n ≤ 100000 := by omega
  have hsl : sz ≤ 60000 := by omega
  have hmk := run_make_bk n hnl
  have hB := built_dk sz w.heap.size n
  have r1 := zK_row w n
  have b1 := below_alloc (Below.refl _ w) (.cells (zK n) 83)
  have n2 := heap_alloc_new (w.alloc (.cells (zK n) 83)) (.cells (dkV sz w.heap.size n (.slice none 0 0) (.slice none 0 0) (-1)) 58)
  rw [size_alloc] at n2
  have b2 := below_alloc b1 (.cells (dkV sz w.heap.size n (.slice none 0 0) (.slice none 0 0) (-1)) 58)
  have r2 := r1.alloc (.cells (dkV sz w.heap.size n (.slice none 0 0) (.slice none 0 0) (-1)) 58)
  have hsz : ((w.alloc (.cells (zK n) 83)).alloc (.cells (dkV sz w.heap.size n (.slice none 0 0) (.slice none 0 0) (-1)) 58)).heap.size = w.heap.size + 2 := by rw [size_alloc, size_alloc]
  have hD : DkAt ((w.alloc (.cells (zK n) 83)).alloc (.cells (dkV sz w.heap.size n (.slice none 0 0) (.slice none 0 0) (-1)) 58)) ⟨fun k => k = w.heap.size ∨ k = w.heap.size + 1, fun _ => False⟩ (w.heap.size + 1) (DS.new n sz) w.heap.size (.slice none 0 0) (.slice none 0 0) :=
    { disk := n2
      blks := r2
      waits := World.ownsRow_nil _ _ _ _
      trace := World.ownsRow_nil _ _ _ _
      okb := fun i _ => ⟨BV.In.nil _ _, BV.In.nil _ _⟩
      okw := fun _ h => by cases h
      okt := fun _ h => by cases h
      lt := fun k hk => by rw [hsz]; rcases hk with rfl | rfl <;> omega
      sub := fun _ h => h.elim
      gS := .inr rfl
      bS := .inl rfl
      wS := fun k h => by cases h
      tS := fun k h => by cases h
      gR := fun h => h
      bR := fun h => h
      wR := fun _ _ h => h
      tR := fun _ _ h => h
      gb_ne := by omega
      wg := by intro h; cases h
      wb := by intro h; cases h
      tg := by intro h; cases h
      tb := by intro h; cases h
      wt := fun k h => by cases h
      size := hsl
      n := hnl
      left := by show -9223372036854775808 ≤ (-1 : Int) ∧ (-1 : Int) ≤ 9223372036854775807; omega }
  have HD := hide hD
  have HB := hide b2
  clear r1 b1 n2 b2 r2 hsz hD hn hs
  go_enter Tryd.func6, Tryd.ntmps6
  go_wp2_with fail
  refine h1.mono ?_
  rintro e w1 ⟨rfl, rfl⟩
  clear h1
  go_wp2_with fail
  refine h2.mono ?_
  rintro e w1 ⟨rfl, rfl⟩
  clear h2
  go_wp2_with (refine wpList_build_is rfl 58 _ rfl (dkV sz w.heap.size n (.slice none 0 0) (.slice none 0 0) (-1)) (by rw [show (_ : List (Nat × Value)) = [(0, .int .i64 (sz : Int)), (1, .slice (some ⟨w.heap.size, 0, none⟩) n n), (4, .int .i64 (-1))] from by kernel_rfl]; exact hB) ?_)
  go_ret
  exact ⟨w.heap.size + 1, _, rfl, ⟨_, _, _, HD.out⟩, fun k hk => by rcases hk with rfl | rfl <;> omega, HB.out⟩
#print axioms new_any
end Go.Proofs.YtlfcejfpdgdnkaaDoor

/- What a call of disk.Try does: for every function handed in that ends, that panics with the power's error, or with a value of another type. -/
namespace Go.Proofs.YtlfcejfpdgdnkaaDoor
open Go.RowKit
set_option maxRecDepth 20000

theorem tmps10 (v : Value) : ((Array.replicate 10 undef).setIfInBounds 1 v).setIfInBounds 0 v = #[v, v, undef, undef, undef, undef, undef, undef, undef, undef] := by
  rfl

theorem run_neq_same (p : Addr) (w : World) : (binOp .neq 20 (.iface 105 (.pointer (some p))) (.iface 105 (.pointer (some p)))).run Tryd.prog w = .ok (.bool false) w := by
  have hc : (Tryd.prog.info? 105).map (·.comparable) = some true := by kernel_rfl
  obtain ⟨i, hi, hcc⟩ := Option.map_eq_some_iff.1 hc
  have hs : (Tryd.prog.info? 121).isSome = true := by kernel_rfl
  obtain ⟨j, hj⟩ := Option.isSome_iff_exists.1 hs
  have h := run_equalIn_iface_ptr_same (P := Tryd.prog) w 9998 (ti := 20) (tp := 105) p Tryd.underlying20 Tryd.underlying105 hi hcc hj
  simp only [binOp]
  simp [Op.equal, Op.maxDepth, h]
theorem run_neq_other (t : TypeId) (v : Value) (p : Addr) (ht : t ≠ 105) (w : World) : (binOp .neq 20 (.iface t v) (.iface 105 (.pointer (some p)))).run Tryd.prog w = .ok (.bool true) w := by
  have h : ∀ d : Nat, (Op.equalIn (d + 1) 20 (.iface t v) (.iface 105 (.pointer (some p)))).run Tryd.prog w = .ok false w := fun d => by
    simp [Op.equalIn, run_underlying Tryd.underlying20, ht]
  simp only [binOp]
  simp [Op.equal, Op.maxDepth, h 9999]

theorem run_func_nil (fn : Fn) (first cap : Array Value) (w : World) : (binOp .eql 1 (.func fn first cap) .nilFunc).run Tryd.prog w = .ok (.bool false) w := by
  have h : ∀ d : Nat, (Op.equalIn (d + 1) 1 (.func fn first cap) .nilFunc).run Tryd.prog w = .ok false w := fun d => by
    simp [Op.equalIn, run_underlying Tryd.underlying1]
  simp only [binOp]
  simp [Op.equal, Op.maxDepth, h 9999]

section
variable {w : World} {f : Nat} {cap : Array Value} {R : World → Prop}
end
end Go.Proofs.YtlfcejfpdgdnkaaDoor

/- A device as a caller has it, what lies aside of it, rows of rows of bytes; its calls. The variable of package disk holds its error. No conditions but those that each line states. -/
namespace Go.Proofs.YtlfcejfpdgdnkaaDoor
open Go.RowKit
set_option maxRecDepth 20000

/-- A caller's world: a device that was made since w0, and nothing turned that was there in w0. -/
structure Cl (w0 W : World) (Z : Own) (g : Nat) (D : DS) : Prop where
  dk : Dk W Z g D
  frm : ∀ k, Z.S k → w0.heap.size ≤ k
  bel : Below w0.heap.size w0 W
theorem Cl.step {w0 W W' : World} {Z Z' : Own} {g : Nat} {D D' : DS} (h : Cl w0 W Z g D) (s : Step Z W Z' W') (hd : Dk W' Z' g D') : Cl w0 W' Z' g D' :=
  ⟨hd, s.from h.frm h.bel.size, s.below h.bel h.frm h.bel.size⟩
theorem Cl.below {w0 W W' : World} {Z : Own} {g : Nat} {D : DS} (h : Cl w0 W Z g D) (b : Below W.heap.size W W') : Cl w0 W' Z g D :=
  ⟨h.dk.below b, h.frm, h.bel.trans (b.mono h.bel.size)⟩
theorem Cl.alloc {w0 W : World} {Z : Own} {g : Nat} {D : DS} (h : Cl w0 W Z g D) (o : Obj) : Cl w0 (W.alloc o) Z g D := h.below (below_alloc (Below.refl _ W) o)
theorem Cl.only {w0 W W' : World} {Z : Own} {g k : Nat} {D : DS} (h : Cl w0 W Z g D) (o : OnlyAt k W W') (hk : ¬ Z.S k) (hw : w0.heap.size ≤ k) : Cl w0 W' Z g D :=
  ⟨h.dk.keep (fun i hi => o.block i (fun e => hk (e ▸ hi))) (Nat.le_of_eq o.size.symm), h.frm, o.below h.bel hw⟩
theorem Cl.drew {w0 W : World} {Z : Own} {g : Nat} {D : DS} (h : Cl w0 W Z g D) : Cl w0 W.drew Z g D := ⟨h.dk.drew, h.frm, h.bel.drew⟩
theorem Cl.pow {w0 W : World} {Z : Own} {g : Nat} {D : DS} {p : Addr} (h : Cl w0 W Z g D) (hp : Pow p w0) : Pow p W := hp.below h.bel
theorem Cl.size {w0 W : World} {Z : Own} {g : Nat} {D : DS} (h : Cl w0 W Z g D) : w0.heap.size ≤ W.heap.size := h.bel.size
/-- A block that lies aside. -/
def Has (Z : Own) (W : World) (k : Nat) (o : Obj) : Prop := W.heap[k]? = some o ∧ ¬ Z.S k
theorem Has.step {W W' : World} {Z Z' : Own} {k : Nat} {o : Obj} (h : Has Z W k o) (s : Step Z W Z' W') : Has Z' W' k o := ⟨s.heap h.1 h.2, s.aside (Array.getElem?_eq_some_iff.1 h.1).1 h.2⟩
theorem Has.below {W W' : World} {Z : Own} {k : Nat} {o : Obj} (h : Has Z W k o) (b : Below W.heap.size W W') : Has Z W' k o := ⟨(b.block k (Array.getElem?_eq_some_iff.1 h.1).1).trans h.1, h.2⟩
theorem Has.alloc {W : World} {Z : Own} {k : Nat} {o : Obj} (h : Has Z W k o) (x : Obj) : Has Z (W.alloc x) k o := h.below (below_alloc (Below.refl _ W) x)
theorem Has.only {W W' : World} {Z : Own} {k i : Nat} {o : Obj} (h : Has Z W k o) (s : OnlyAt i W W') (hk : k ≠ i) : Has Z W' k o := ⟨(s.block k hk).trans h.1, h.2⟩
theorem Has.lt {W : World} {Z : Own} {k : Nat} {o : Obj} (h : Has Z W k o) : k < W.heap.size := (Array.getElem?_eq_some_iff.1 h.1).1
/-- What was just made lies aside. -/
theorem Cl.new {w0 W : World} {Z : Own} {g : Nat} {D : DS} (h : Cl w0 W Z g D) (o : Obj) : Has Z (W.alloc o) W.heap.size o := ⟨heap_alloc_new W o, fun hs => absurd (h.dk.lt _ hs) (Nat.lt_irrefl _)⟩
theorem Has.bz {W : World} {Z : Own} {k : Nat} {E : TypeId} {zs : List Int} (h : Has Z W k (.cells (zs.map (Value.int .u8)).toArray E (0, 0))) (hz : IsBytes zs) (n : Nat) (hn : zs.length = n) (hl : n ≤ 9223372036854775807) : Bz Z W (some ⟨k, 0, none⟩) n n zs :=
  ⟨OwnB.bs (E := E) h.1 hz n hn hl, fun _ p hp => by cases hp; exact ⟨h.lt, h.2⟩⟩
theorem Has.nz {W : World} {Z : Own} {k : Nat} {E : TypeId} {zs : List Int} (h : Has Z W k (.cells (zs.map (Value.int .i64)).toArray E (0, 0))) (hz : AllK .i64 zs) (n : Nat) (hn : zs.length = n) (hl : n ≤ 9223372036854775807) : Nz .i64 Z W (some ⟨k, 0, none⟩) n n zs :=
  ⟨OwnN.ns (E := E) h.1 hz n hn hl, fun _ p hp => by cases hp; exact ⟨h.lt, h.2⟩⟩
/-- A variable that holds a value of one cell. -/
theorem Has.var {W : World} {Z : Own} {k : Nat} {E : TypeId} {v : Value} (h : Has Z W k (.cells #[v] E (0, 0))) : W.cell? ⟨k, 0, none⟩ = some v := cell_of_row W k 0 _ _ _ h.1

/-- The value '.slice a len cap', a slice of slices of bytes, reads in w as xs. -/
structure BBs (w : World) (a : Option Addr) (len cap : Nat) (xs : Nat → BV) : Prop where
  le_cap : len ≤ cap
  cap_le : cap ≤ 9223372036854775807
  item : ∀ i, i < len → (∃ b off, a = some ⟨b, off, none⟩ ∧ w.cell? ⟨b, off + i, none⟩ = some (xs i).v) ∧ Bs w (xs i).a (xs i).len (xs i).cap (xs i).zs
theorem BBs.below {w w' : World} {a : Option Addr} {len cap : Nat} {xs : Nat → BV} (h : BBs w a len cap xs) (hb : Below w.heap.size w w') : BBs w' a len cap xs := by
  refine ⟨h.le_cap, h.cap_le, fun i hi => ⟨?_, (h.item i hi).2.below hb⟩⟩
  obtain ⟨b, off, e, hc⟩ := (h.item i hi).1
  exact ⟨b, off, e, by rw [hb.cell (World.block_lt_of_cell? w _ hc)]; exact hc⟩
/-- What was there in w0 lies aside. -/
theorem Cl.bz {w0 W : World} {Z : Own} {g : Nat} {D : DS} (h : Cl w0 W Z g D) {a : Option Addr} {len cap : Nat} {zs : List Int} (hb : Bs w0 a len cap zs) : Bz Z W a len cap zs := by
  refine ⟨hb.below h.bel, fun h0 p hp => ?_⟩
  subst hp
  have hlt : p.block < w0.heap.size := by
    rcases hb.place with h1 | ⟨b, off, e, hc⟩
    · have := hb.le_cap; omega
    · simp only [Option.some.injEq] at e
      subst e
      exact World.block_lt_of_cell? w0 _ (hc 0 h0)
  exact ⟨Nat.lt_of_lt_of_le hlt h.size, fun hs => by have := h.frm _ hs; omega⟩
theorem Cl.nz {w0 W : World} {Z : Own} {g : Nat} {D : DS} (h : Cl w0 W Z g D) {a : Option Addr} {len cap : Nat} {zs : List Int} (hb : Ns .i64 w0 a len cap zs) : Nz .i64 Z W a len cap zs := by
  refine ⟨hb.below h.bel, fun h0 p hp => ?_⟩
  subst hp
  have hlt : p.block < w0.heap.size := by
    rcases hb.place with h1 | ⟨b, off, e, hc⟩
    · have := hb.le_cap; omega
    · simp only [Option.some.injEq] at e
      subst e
      exact World.block_lt_of_cell? w0 _ (hc 0 h0)
  exact ⟨Nat.lt_of_lt_of_le hlt h.size, fun hs => by have := h.frm _ hs; omega⟩

/-! ### The calls, as a caller has them -/
theorem Cl.read {w0 W : World} {Z : Own} {g : Nat} {D : DS} (h : Cl w0 W Z g D) (hl : ¬ D.left = 0) (hlim : D.tr.length < 1000000) (i : Nat) (hi : i < D.n) (sz : Nat) (zs : List Int) (hs : D.size = sz) (hz : fitL sz (D.blk i).1.zs = zs) :
    Calls Tryd.prog 35 #[.pointer (some ⟨g, 0, none⟩), .int .i64 (i : Int)] W fun e W' =>
      ∃ k Z', e = .returned (.slice (some ⟨k, 0, none⟩) sz sz) ∧ W.heap.size ≤ k ∧ Has Z' W' k (.cells (zs.map (Value.int .u8)).toArray 5 (0, 0)) ∧ Cl w0 W' Z' g (D.reads i) ∧ Step Z W Z' W' := by
  subst hs hz
  refine (read_at h.dk hl hlim i hi).mono ?_
  rintro e W' ⟨k, Z', rfl, h1, h2, h3, h4, h5⟩
  exact ⟨k, Z', rfl, h1, ⟨h3, h2⟩, h.step h5 h4, h5⟩
theorem Cl.write {w0 W : World} {Z : Own} {g : Nat} {D : DS} (h : Cl w0 W Z g D) (hl : ¬ D.left = 0) (hlim : D.tr.length < 1000000) (hlw : D.wait.length < 1000000) (i : Nat) (hi : i < D.n) {a : Option Addr} {len cap : Nat} {zs : List Int} (hx : Bz Z W a len cap zs) (ys : List Int) (hy : zs.take D.size = ys) :
    Calls Tryd.prog 33 #[.pointer (some ⟨g, 0, none⟩), .int .i64 (i : Int), .slice a len cap] W fun e W' =>
      ∃ Z' x, e = .returned (.tuple #[]) ∧ Hid (x.zs = ys) ∧ Cl w0 W' Z' g (D.writes i x) ∧ Step Z W Z' W' := by
  subst hy
  refine (write_at h.dk hl hlim hlw i hi hx).mono ?_
  rintro e W' ⟨Z', x, rfl, h1, h2, h3⟩
  exact ⟨Z', x, rfl, h1, h.step h3 h2, h3⟩
theorem Cl.trace {w0 W : World} {Z : Own} {g : Nat} {D : DS} (h : Cl w0 W Z g D) (hlim : D.tr.length < 1000000) (n sz : Nat) (hn : D.tr.length = n) (hs : D.size = sz) :
    Calls Tryd.prog 10 #[.pointer (some ⟨g, 0, none⟩)] W fun e W' =>
      e = .returned (.slice (some ⟨W.heap.size, 0, none⟩) n n) ∧ Tr Z W' W.heap.size n sz D.tr ∧ Cl w0 W' Z g D ∧ Below W.heap.size W W' := by
  subst hn hs
  refine (trace_any h.dk hlim).mono ?_
  rintro e W' ⟨rfl, h1, h2⟩
  exact ⟨rfl, h1, h.below h2, h2⟩
/-! ### A row of the caller's own, beside a device -/
theorem Cl.own {w0 W W' : World} {Z : Own} {g : Nat} {D : DS} {E : TypeId} {k n c : Nat} {xs : List Int} (h : Cl w0 W Z g D) (ho : OwnS E W.heap.size W' (some ⟨k, 0, none⟩) n c xs) : Bz Z W' (some ⟨k, 0, none⟩) n c xs :=
  ⟨ho.bs, fun h0 p hp => by
    cases hp
    obtain ⟨k', e, h1, h2⟩ := ho.form h0
    cases e
    exact ⟨h2, fun hs => absurd (h.dk.lt _ hs) (Nat.not_lt.2 h1)⟩⟩
/-- What lies beside S is kept. -/
def KeptBut (S : Nat → Prop) (w w' : World) : Prop := w.heap.size ≤ w'.heap.size ∧ ∀ k, k < w.heap.size → ¬ S k → w'.heap[k]? = w.heap[k]?
theorem KeptBut.refl (S : Nat → Prop) (w : World) : KeptBut S w w := ⟨Nat.le_refl _, fun _ _ _ => rfl⟩
theorem KeptBut.trans {S : Nat → Prop} (a b c : World) (h : KeptBut S a b) (k : KeptBut S b c) : KeptBut S a c := ⟨Nat.le_trans h.1 k.1, fun i hi hs => (k.2 i (Nat.lt_of_lt_of_le hi h.1) hs).trans (h.2 i hi hs)⟩
theorem KeptBut.of_below (S : Nat → Prop) {w w' : World} (h : Below w.heap.size w w') : KeptBut S w w' := ⟨h.size, fun k hk _ => h.block k hk⟩
theorem KeptBut.of_step {Z Z' : Own} {w w' : World} (h : Step Z w Z' w') : KeptBut Z.S w w' := ⟨h.size, fun k hk hs => h.block k hk hs⟩
theorem KeptBut.bs {S : Nat → Prop} {w w' : World} (h : KeptBut S w w') {g o len cap : Nat} {zs : List Int} (hb : Bs w (some ⟨g, o, none⟩) len cap zs) (hg : g < w.heap.size) (hs : ¬ S g) : Bs w' (some ⟨g, o, none⟩) len cap zs :=
  hb.keepAt fun _ p hp => by cases hp; exact h.2 g hg hs
end Go.Proofs.YtlfcejfpdgdnkaaDoor

/- How slices of slices of bytes that came in are opened. No conditions but those that each line states. -/
namespace Go.Proofs.YtlfcejfpdgdnkaaDoor
open Go.ChangeShapes Go.WideShapes Go.ChangeAt Go.RowKit
set_option maxRecDepth 20000

theorem cells_bs : Tryd.prog.cellsOf 36 = 1 := by kernel_rfl
section
variable {H : Type} {enc : TypeId × Value → H} {W : World} {base : Nat} {sp : Nat → Bool} {held : Bool}
theorem bs_of_trod {fuel : Nat} {v : Value} {x : DataW H × List MemPlace} (hf : DataW.trod enc Tryd.prog W base (fun _ => true) held fuel 36 [v] = some x) : ∃ y : BV, v = y.v ∧ Bs W y.a y.len y.cap y.zs := by
  rcases open_ints Tryd.underlying36 Tryd.underlying5 cells_u8 hf with ⟨hcs, _⟩ | ⟨x, l, c, zs, hcs, _, hl, hm, hz, _, hcell, hwz⟩
  · simp only [List.cons.injEq, and_true] at hcs
    exact ⟨BV.nil, hcs, Bs.nil W⟩
  · simp only [List.cons.injEq, and_true] at hcs
    exact ⟨⟨some x, l, c, zs.take l⟩, hcs, bs_of_row (.inr ⟨_, rfl, hl, hm, by simpa using hz, hcell, hwz⟩)⟩
/-- A slice of slices of bytes that came in. -/
theorem open_bss {r : Reach} {b0 : Nat} {v : Value} {d : DataW H} {p : List MemPlace} (hok : Value.okWide Tryd.prog W r b0 93 v)
    (h : DataW.Trod enc Tryd.prog W base (fun _ => true) held 93 v d p) : ∃ a len cap xs, v = .slice a len cap ∧ BBs W a len cap xs := by
  obtain ⟨a, len, cap, rfl⟩ := okWide_slice Tryd.underlying93 hok
  obtain ⟨fuel, hf⟩ := h
  rcases Deep.open_slice1 Tryd.underlying93 cells_bs hf with ⟨hcs, _⟩ | ⟨x, l, c, m, n, V, D, Pl, hcs, _, hl, hm, hmm, _, hV⟩
  · simp [Value.cells] at hcs
    obtain ⟨rfl, rfl, rfl⟩ := hcs
    exact ⟨none, 0, 0, fun _ => BV.nil, rfl, Nat.le_refl _, by omega, fun i hi => absurd hi (Nat.not_lt_zero _)⟩
  · simp [Value.cells] at hcs
    obtain ⟨rfl, rfl, rfl⟩ := hcs
    simp only [if_true] at hmm
    unfold maxLen at hm
    have key : ∀ i, ∃ y : BV, i < len → W.cell? (x.add i) = some y.v ∧ Bs W y.a y.len y.cap y.zs := fun i => by
      by_cases hi : i < len
      · obtain ⟨h1, h2⟩ := hV i (by omega)
        obtain ⟨y, hy, hb⟩ := bs_of_trod h2
        exact ⟨y, fun _ => ⟨by rw [h1, hy], hb⟩⟩
      · exact ⟨BV.nil, fun h => absurd h hi⟩
    obtain ⟨f, hf'⟩ := Classical.axiomOfChoice key
    refine ⟨some x, len, cap, f, rfl, hl, by omega, fun i hi => ?_⟩
    obtain ⟨b, off, spot⟩ := x
    have hspot : spot = none := by
      have := World.cell?_spot (hf' 0 (by omega)).1
      simpa [Addr.add] using this
    subst hspot
    have := (hf' i hi).1
    rw [addr_add] at this
    exact ⟨⟨b, off, rfl, this⟩, (hf' i hi).2⟩
end
#print axioms open_bss
end Go.Proofs.YtlfcejfpdgdnkaaDoor

/- What the condition on disk.errPower gives, whatever else is laid behind it. No conditions but those that each line states. -/
namespace Go.Proofs.YtlfcejfpdgdnkaaDoor
open Go.ChangeShapes Go.WideShapes Go.ChangeAt Go.RowKit
set_option maxRecDepth 20000

theorem gPower : Tryd.prog.globalNamed "dumbwaiter/disk.errPower" = some 0 := by kernel_rfl
theorem tPower : (Tryd.prog.globals[0]?).map (·.type) = some 95 := by kernel_rfl
theorem starErr : "*" ++ "errors.errorString" = "*errors.errorString" := by decide
theorem rowErr (u : TypeId) (h : Tryd.prog.typeName? 3 u = some "*errors.errorString") : u = 105 :=
  typeName_ptr_named (nm := "errors.errorString") (by rw [starErr]; kernel_rfl) (by kernel_rfl) (by decide) u (by rw [starErr]; exact h)
theorem cells_err : Tryd.prog.cellsOf 121 = 1 := by kernel_rfl
theorem cells_str : Tryd.prog.cellsOf 9 = 1 := by kernel_rfl

theorem pow_of_laid {W : World} {r : List (String × DataW Unit)} (h : laidMet Tryd.prog (("dumbwaiter/disk.errPower", Rows.laid_dumbwaiter_disk_errPower) :: r) W) : ∃ p, Pow p W := by
  obtain ⟨a0, s0, hv0, hc0, hs0, hz0⟩ := laid_sentinel h gPower tPower Tryd.underlying95 rowErr Tryd.underlying105 Tryd.underlying121 rfl rfl Tryd.underlying9 cells_err cells_str
  refine ⟨a0, ?_⟩
  have := World.var?_cell gPower hv0 0
  simpa [Pow, errV] using this
#print axioms pow_of_laid
end Go.Proofs.YtlfcejfpdgdnkaaDoor
