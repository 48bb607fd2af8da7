/- What a device is: bytes that it keeps, writes that wait, what was done; what of memory is its own; and how that goes on while other memory is made or turned. No function is named here; no conditions but those that each line states. -/
import Derived.Test.YtlicafjhkbofbaaDoorBytes
import Derived.Maps.AppendAt
namespace Go.Proofs.YtlicafjhkbofbaaDoor
open Go.RowKit

/-! ### Rows as long as a block -/
/-- The first n of zs, noughts behind them. -/
def fitL (n : Nat) (zs : List Int) : List Int := zs.take n ++ zL (n - zs.length)
theorem fitL_length (n : Nat) (zs : List Int) : (fitL n zs).length = n := by
  simp only [fitL, List.length_append, List.length_take, zL_length]
  omega
theorem fitL_bytes (n : Nat) {zs : List Int} (h : IsBytes zs) : IsBytes (fitL n zs) := (h.take n).append (zL_bytes _)
theorem zL_drop (n k : Nat) : (zL n).drop k = zL (n - k) := by
  apply List.ext_getElem?
  intro i
  rw [List.getElem?_drop]
  rcases Nat.lt_or_ge i (n - k) with h | h
  · rw [zL, rowL_get _ _ _ (by omega), zL, rowL_get _ _ _ h]
  · rw [zL, rowL_none _ _ _ (by omega), zL, rowL_none _ _ _ h]
theorem fitL_splice (n : Nat) (zs : List Int) : splice (zL n) 0 (zs.take (min zs.length n)) = fitL n zs := by
  unfold splice fitL
  rw [List.take_zero, List.nil_append, zL_drop]
  have e : zs.take (min zs.length n) = zs.take n := by
    rcases Nat.le_total zs.length n with h | h
    · rw [Nat.min_eq_left h, List.take_of_length_le (Nat.le_refl _), List.take_of_length_le h]
    · rw [Nat.min_eq_right h]
  rw [e]
  congr 2
  rw [List.length_take]
  omega
theorem fitL_take (n : Nat) (zs : List Int) : fitL n (zs.take n) = fitL n zs := by
  unfold fitL
  rw [List.take_take, Nat.min_self, List.length_take]
  congr 2
  omega
theorem fitL_self (n : Nat) (zs : List Int) (h : zs.length = n) : fitL n zs = zs := by
  unfold fitL
  rw [List.take_of_length_le (by omega), h, Nat.sub_self]
  exact List.append_nil _
theorem fitL_nil (n : Nat) : fitL n [] = zL n := by
  unfold fitL
  rw [List.take_nil]
  rfl
theorem fitL_getD (n : Nat) (zs : List Int) (i : Nat) (h : i < n) : (fitL n zs).getD i 0 = zs.getD i 0 := by
  unfold fitL
  rcases Nat.lt_or_ge i zs.length with h1 | h1
  · rw [List.getD, List.getElem?_append_left (by rw [List.length_take]; omega), List.getElem?_take, if_pos h]; rfl
  · rw [List.getD, List.getElem?_append_right (by rw [List.length_take]; omega), List.getD, List.getElem?_eq_none h1]
    have := zL_getD (n - zs.length) (i - (zs.take n).length)
    rw [List.getD] at this
    exact this
/-- Each byte exclusive or with 165. -/
def badL (zs : List Int) : List Int := zs.map fun z => xr z 165
theorem badL_length (zs : List Int) : (badL zs).length = zs.length := by simp [badL]
theorem badL_bytes {zs : List Int} (h : IsBytes zs) : IsBytes (badL zs) := by
  intro z hz
  obtain ⟨y, hy, rfl⟩ := List.mem_map.1 hz
  exact xr_lt _ _ (h y hy) ⟨by decide, by decide⟩
theorem badL_getD (zs : List Int) (i : Nat) (h : i < zs.length) : (badL zs).getD i 0 = xr (zs.getD i 0) 165 := by
  simp [badL, List.getD, h]

/-! ### Lists of records, laid flat -/
theorem flat_get {α : Type} (m : Nat) (f : α → List Value) (hm : ∀ x, (f x).length = m) : ∀ (l : List α) (i j : Nat), j < m → (l.flatMap f)[m * i + j]? = l[i]?.bind fun x => (f x)[j]?
  | [], i, j, _ => by simp
  | x :: l, 0, j, h => by
    rw [List.flatMap_cons, Nat.mul_zero, Nat.zero_add, List.getElem?_append_left (by rw [hm]; exact h)]
    rfl
  | x :: l, i + 1, j, h => by
    have e : m * (i + 1) + j = (f x).length + (m * i + j) := by rw [hm, Nat.mul_add, Nat.mul_one]; omega
    rw [List.flatMap_cons, e, List.getElem?_append_right (by omega), Nat.add_sub_cancel_left, flat_get m f hm l i j h]
    rfl
theorem flat_length {α : Type} (m : Nat) (f : α → List Value) (hm : ∀ x, (f x).length = m) : ∀ l : List α, (l.flatMap f).length = l.length * m
  | [] => by simp
  | x :: l => by rw [List.flatMap_cons, List.length_append, hm, flat_length m f hm l, List.length_cons, Nat.add_mul, Nat.one_mul, Nat.add_comm]

/-! ### What a device keeps -/
/-- A slice of bytes: where it lies, and what it reads as. -/
structure BV where
  a : Option Addr
  len : Nat
  cap : Nat
  zs : List Int
abbrev BV.v (x : BV) : Value := .slice x.a x.len x.cap
def BV.nil : BV := ⟨none, 0, 0, []⟩
/-- It reads so, and lies in R. -/
structure BV.In (w : World) (R : Nat → Prop) (x : BV) : Prop where
  bs : Bs w x.a x.len x.cap x.zs
  mem : ∀ p, x.a = some p → R p.block
theorem BV.In.nil (w : World) (R : Nat → Prop) : BV.nil.In w R := ⟨Bs.nil w, fun _ h => by cases h⟩
theorem Bs.keepAt {w w' : World} {a : Option Addr} {len cap : Nat} {zs : List Int} (h : Bs w a len cap zs) (hb : 0 < len → ∀ p, a = some p → w'.heap[p.block]? = w.heap[p.block]?) : Bs w' a len cap zs := by
  refine ⟨h.length, h.le_cap, h.cap_le, h.bytes, ?_⟩
  rcases h.place with h1 | ⟨b, off, rfl, hc⟩
  · exact .inl h1
  · refine .inr ⟨b, off, rfl, fun i hi => ?_⟩
    have := hb (by omega) ⟨b, off, none⟩ rfl
    rw [World.cell?_of_block (w := w) (a := ⟨b, off + i, none⟩) this]
    exact hc i hi
theorem BV.In.keep {w w' : World} {R R' : Nat → Prop} {x : BV} (h : x.In w R) (hb : ∀ k, R k → w'.heap[k]? = w.heap[k]?) (hR : ∀ k, R k → R' k) : x.In w' R' :=
  ⟨h.bs.keepAt fun _ p hp => hb _ (h.mem p hp), fun p hp => hR _ (h.mem p hp)⟩

/-- Something done: its kind, its place, what is shown of it, its body. -/
structure Ev where
  kind : Int
  at_ : Int
  head : List Int
  body : BV
def Ev.cells (e : Ev) : List Value := .int .i64 e.kind :: .int .i64 e.at_ :: ((fitL 12 e.head).map (Value.int .u8) ++ [e.body.v])
theorem Ev.cells_length (e : Ev) : e.cells.length = 15 := by
  simp only [Ev.cells, List.length_cons, List.length_append, List.length_map, fitL_length, List.length_nil]
def wrC (p : Nat × BV) : List Value := [.int .i64 (p.1 : Int), p.2.v]
theorem wrC_length (p : Nat × BV) : (wrC p).length = 2 := rfl

/-- A device: the size of its blocks, how many there are, what was written and what was flushed of each, the writes that wait, what was done, how many more have power. -/
structure DS where
  size : Nat
  n : Nat
  blk : Nat → BV × BV
  wait : List (Nat × BV)
  tr : List Ev
  left : Int

/-- What is a device's own: all of it; of this what is never turned. -/
structure Own where
  S : Nat → Prop
  R : Nat → Prop
def Own.add (Z : Own) (k : Nat) : Own := ⟨fun i => Z.S i ∨ i = k, fun i => Z.R i ∨ i = k⟩
def Own.also (Z : Own) (k : Nat) : Own := ⟨fun i => Z.S i ∨ i = k, Z.R⟩

/-- All but what is Z's own is as it was, and what is Z' own was Z's, or is new. -/
structure Step (Z : Own) (w : World) (Z' : Own) (w' : World) : Prop where
  os : w'.os = w.os
  tape : w'.tape = w.tape
  output : w'.output = w.output
  size : w.heap.size ≤ w'.heap.size
  block : ∀ k, k < w.heap.size → ¬ Z.S k → w'.heap[k]? = w.heap[k]?
  fresh : ∀ k, Z'.S k → Z.S k ∨ w.heap.size ≤ k
theorem Step.refl (Z : Own) (w : World) : Step Z w Z w := ⟨rfl, rfl, rfl, Nat.le_refl _, fun _ _ _ => rfl, fun _ h => .inl h⟩
theorem Step.trans {Z Z' Z'' : Own} {a b c : World} (h : Step Z a Z' b) (k : Step Z' b Z'' c) : Step Z a Z'' c := by
  refine ⟨k.os.trans h.os, k.tape.trans h.tape, k.output.trans h.output, Nat.le_trans h.size k.size, fun i hi hn => ?_, fun i hi => ?_⟩
  · rw [k.block i (Nat.lt_of_lt_of_le hi h.size) (fun hs => (h.fresh i hs).elim hn (fun h' => absurd hi (Nat.not_lt.2 h'))), h.block i hi hn]
  · rcases k.fresh i hi with h1 | h1
    · exact h.fresh i h1
    · exact .inr (Nat.le_trans h.size h1)
theorem Step.of_below (Z : Own) {w w' : World} (h : Below w.heap.size w w') : Step Z w Z w' := ⟨h.os, h.tape, h.output, h.size, fun k hk _ => h.block k hk, fun _ h => .inl h⟩
theorem Step.below {Z Z' : Own} {B : Nat} {w0 w w' : World} (h : Step Z w Z' w') (hb : Below B w0 w) (hZ : ∀ k, Z.S k → B ≤ k) (hB : B ≤ w.heap.size) : Below B w0 w' :=
  hb.trans ⟨h.os, h.tape, h.output, h.size, fun k hk => h.block k (by omega) (fun hs => by have := hZ k hs; omega)⟩
theorem Step.from {Z Z' : Own} {B : Nat} {w w' : World} (h : Step Z w Z' w') (hZ : ∀ k, Z.S k → B ≤ k) (hB : B ≤ w.heap.size) : ∀ k, Z'.S k → B ≤ k := fun k hk => by
  rcases h.fresh k hk with h1 | h1
  · exact hZ k h1
  · omega
theorem Step.drew {Z Z' : Own} {w w' : World} (h : Step Z w Z' w') : Step Z w Z' w'.drew := ⟨h.os, h.tape, h.output, h.size, h.block, h.fresh⟩
theorem Step.add {Z Z' : Own} {w w' : World} (h : Step Z w Z' w') (k : Nat) (hk : w.heap.size ≤ k) : Step Z w (Z'.add k) w' :=
  ⟨h.os, h.tape, h.output, h.size, h.block, fun i hi => hi.elim (h.fresh i) fun e => .inr (by omega)⟩
theorem Step.also {Z Z' : Own} {w w' : World} (h : Step Z w Z' w') (k : Nat) (hk : w.heap.size ≤ k) : Step Z w (Z'.also k) w' :=
  ⟨h.os, h.tape, h.output, h.size, h.block, fun i hi => hi.elim (h.fresh i) fun e => .inr (by omega)⟩
/-- What is aside stays, and stays aside. -/
theorem Step.heap {Z Z' : Own} {w w' : World} {k : Nat} {o : Obj} (h : Step Z w Z' w') (hk : w.heap[k]? = some o) (hn : ¬ Z.S k) : w'.heap[k]? = some o := by
  rw [h.block k (Array.getElem?_eq_some_iff.1 hk).1 hn]; exact hk
theorem Step.aside {Z Z' : Own} {w w' : World} {k : Nat} (h : Step Z w Z' w') (hk : k < w.heap.size) (hn : ¬ Z.S k) : ¬ Z'.S k := fun hs => (h.fresh k hs).elim hn (fun h' => absurd hk (Nat.not_lt.2 h'))
/-- A slice of bytes that lies aside. -/
structure Bz (Z : Own) (w : World) (a : Option Addr) (len cap : Nat) (zs : List Int) : Prop where
  bs : Bs w a len cap zs
  out : 0 < len → ∀ p, a = some p → p.block < w.heap.size ∧ ¬ Z.S p.block
theorem Bz.step {Z Z' : Own} {w w' : World} {a : Option Addr} {len cap : Nat} {zs : List Int} (h : Bz Z w a len cap zs) (k : Step Z w Z' w') : Bz Z' w' a len cap zs :=
  ⟨h.bs.keepAt fun h0 p hp => k.block _ (h.out h0 p hp).1 (h.out h0 p hp).2, fun h0 p hp => ⟨Nat.lt_of_lt_of_le (h.out h0 p hp).1 k.size, k.aside (h.out h0 p hp).1 (h.out h0 p hp).2⟩⟩

/-! ### A device in memory -/
def dkV (size gb n : Nat) (wv tv : Value) (left : Int) : Array Value := #[.int .i64 (size : Int), .slice (some ⟨gb, 0, none⟩) n n, wv, tv, .int .i64 left]
/-- The cells of its blocks. -/
def bkF (blk : Nat → BV × BV) (k : Nat) : Value := if k % 2 = 0 then (blk (k / 2)).1.v else (blk (k / 2)).2.v

structure DkAt (w : World) (Z : Own) (g : Nat) (D : DS) (gb : Nat) (wv tv : Value) : Prop where
  disk : w.heap[g]? = some (.cells (dkV D.size gb D.n wv tv D.left) 52 (0, 0))
  blks : w.rowIs gb 56 (2 * D.n) (bkF D.blk)
  waits : w.ownsRow 0 58 2 wv D.wait.length (D.wait.flatMap wrC)
  trace : w.ownsRow 0 35 15 tv D.tr.length (D.tr.flatMap Ev.cells)
  okb : ∀ i, i < D.n → (D.blk i).1.In w Z.R ∧ (D.blk i).2.In w Z.R
  okw : ∀ p ∈ D.wait, p.1 < D.n ∧ p.2.In w Z.R
  okt : ∀ e ∈ D.tr, IsBytes e.head ∧ e.body.In w Z.R
  lt : ∀ k, Z.S k → k < w.heap.size
  sub : ∀ k, Z.R k → Z.S k
  gS : Z.S g
  bS : Z.S gb
  wS : ∀ k, wv.ownBlock = some k → Z.S k
  tS : ∀ k, tv.ownBlock = some k → Z.S k
  gR : ¬ Z.R g
  bR : ¬ Z.R gb
  wR : ∀ k, wv.ownBlock = some k → ¬ Z.R k
  tR : ∀ k, tv.ownBlock = some k → ¬ Z.R k
  gb_ne : gb ≠ g
  wg : wv.ownBlock ≠ some g
  wb : wv.ownBlock ≠ some gb
  tg : tv.ownBlock ≠ some g
  tb : tv.ownBlock ≠ some gb
  wt : ∀ k, wv.ownBlock = some k → tv.ownBlock ≠ some k
  size : D.size ≤ 60000
  n : D.n ≤ 100000
  left : -9223372036854775808 ≤ D.left ∧ D.left ≤ 9223372036854775807
def Dk (w : World) (Z : Own) (g : Nat) (D : DS) : Prop := ∃ gb wv tv, DkAt w Z g D gb wv tv

theorem ownsRow_keep {w w' : World} {base : Nat} {e : TypeId} {size : Nat} {v : Value} {n : Nat} {xs : List Value} (h : w.ownsRow base e size v n xs) (hb : ∀ k, v.ownBlock = some k → w'.heap[k]? = w.heap[k]?) : w'.ownsRow base e size v n xs := by
  refine ⟨h.1, ?_⟩
  rcases h.2 with h0 | ⟨g, c, cur, h3, h4, h5, h6⟩
  · exact .inl h0
  · exact .inr ⟨g, c, cur, h3, h4, by rw [hb g (by rw [h3]; rfl)]; exact h5, h6⟩

theorem DkAt.keep {w w' : World} {Z : Own} {g : Nat} {D : DS} {gb : Nat} {wv tv : Value} (h : DkAt w Z g D gb wv tv) (hb : ∀ k, Z.S k → w'.heap[k]? = w.heap[k]?) (hs : w.heap.size ≤ w'.heap.size) : DkAt w' Z g D gb wv tv :=
  { h with
    disk := by rw [hb g h.gS]; exact h.disk
    blks := h.blks.of_block (hb gb h.bS)
    waits := ownsRow_keep h.waits fun k hk => hb k (h.wS k hk)
    trace := ownsRow_keep h.trace fun k hk => hb k (h.tS k hk)
    okb := fun i hi => ⟨(h.okb i hi).1.keep (fun k hk => hb k (h.sub k hk)) (fun _ hk => hk), (h.okb i hi).2.keep (fun k hk => hb k (h.sub k hk)) (fun _ hk => hk)⟩
    okw := fun p hp => ⟨(h.okw p hp).1, (h.okw p hp).2.keep (fun k hk => hb k (h.sub k hk)) (fun _ hk => hk)⟩
    okt := fun e he => ⟨(h.okt e he).1, (h.okt e he).2.keep (fun k hk => hb k (h.sub k hk)) (fun _ hk => hk)⟩
    lt := fun k hk => Nat.lt_of_lt_of_le (h.lt k hk) hs }
theorem DkAt.below {w w' : World} {Z : Own} {g : Nat} {D : DS} {gb : Nat} {wv tv : Value} (h : DkAt w Z g D gb wv tv) (hb : Below w.heap.size w w') : DkAt w' Z g D gb wv tv :=
  h.keep (fun k hk => hb.block k (h.lt k hk)) hb.size
theorem DkAt.drew {w : World} {Z : Own} {g : Nat} {D : DS} {gb : Nat} {wv tv : Value} (h : DkAt w Z g D gb wv tv) : DkAt w.drew Z g D gb wv tv := h.keep (fun _ _ => rfl) (Nat.le_refl _)
theorem Dk.keep {w w' : World} {Z : Own} {g : Nat} {D : DS} (h : Dk w Z g D) (hb : ∀ k, Z.S k → w'.heap[k]? = w.heap[k]?) (hs : w.heap.size ≤ w'.heap.size) : Dk w' Z g D := by
  obtain ⟨gb, wv, tv, h⟩ := h
  exact ⟨gb, wv, tv, h.keep hb hs⟩
theorem Dk.below {w w' : World} {Z : Own} {g : Nat} {D : DS} (h : Dk w Z g D) (hb : Below w.heap.size w w') : Dk w' Z g D := by
  obtain ⟨gb, wv, tv, h⟩ := h
  exact ⟨gb, wv, tv, h.below hb⟩
theorem Dk.drew {w : World} {Z : Own} {g : Nat} {D : DS} (h : Dk w Z g D) : Dk w.drew Z g D := h.keep (fun _ _ => rfl) (Nat.le_refl _)
theorem Dk.lt {w : World} {Z : Own} {g : Nat} {D : DS} (h : Dk w Z g D) : ∀ k, Z.S k → k < w.heap.size := by
  obtain ⟨gb, wv, tv, h⟩ := h
  exact h.lt
theorem Dk.gS {w : World} {Z : Own} {g : Nat} {D : DS} (h : Dk w Z g D) : Z.S g := by
  obtain ⟨gb, wv, tv, h⟩ := h
  exact h.gS

/-- A new row of bytes becomes one of the device's. -/
theorem DkAt.adopt {w : World} {Z : Own} {g : Nat} {D : DS} {gb : Nat} {wv tv : Value} (h : DkAt w Z g D gb wv tv) (k : Nat) (hk : ¬ Z.S k) (hl : k < w.heap.size) : DkAt w (Z.add k) g D gb wv tv :=
  { h with
    okb := fun i hi => ⟨(h.okb i hi).1.keep (fun _ _ => rfl) (fun _ => .inl), (h.okb i hi).2.keep (fun _ _ => rfl) (fun _ => .inl)⟩
    okw := fun p hp => ⟨(h.okw p hp).1, (h.okw p hp).2.keep (fun _ _ => rfl) (fun _ => .inl)⟩
    okt := fun e he => ⟨(h.okt e he).1, (h.okt e he).2.keep (fun _ _ => rfl) (fun _ => .inl)⟩
    lt := fun i hi => hi.elim (h.lt i) fun e => by omega
    sub := fun i hi => hi.elim (fun h1 => .inl (h.sub i h1)) .inr
    gS := .inl h.gS
    bS := .inl h.bS
    wS := fun i hi => .inl (h.wS i hi)
    tS := fun i hi => .inl (h.tS i hi)
    gR := fun hi => hi.elim h.gR fun e => hk (e ▸ h.gS)
    bR := fun hi => hi.elim h.bR fun e => hk (e ▸ h.bS)
    wR := fun i hi hj => hj.elim (h.wR i hi) fun e => hk (e ▸ h.wS i hi)
    tR := fun i hi hj => hj.elim (h.tR i hi) fun e => hk (e ▸ h.tS i hi) }
#print axioms DkAt.adopt
end Go.Proofs.YtlicafjhkbofbaaDoor
