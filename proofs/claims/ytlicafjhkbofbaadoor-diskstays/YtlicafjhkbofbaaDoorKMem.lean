/- How a device in memory is turned: a cell of it, of its blocks; a write that waits, or something done, behind the others. No function is named here; no conditions but those that each line states. -/
import Derived.Test.YtlicafjhkbofbaaDoorKBase
namespace Go.Proofs.YtlicafjhkbofbaaDoor
open Go.RowKit

theorem OnlyAt.setC (g j : Nat) (w : World) (v : Value) : OnlyAt g w (w.setCell ⟨g, j, none⟩ v) :=
  ⟨rfl, rfl, rfl, by simp, fun k hk => Below.heap_setCell w ⟨g, j, none⟩ v k hk⟩

section
variable {w : World} {Z : Own} {g : Nat} {D : DS} {gb : Nat} {wv tv : Value}

theorem DkAt.cell (h : DkAt w Z g D gb wv tv) (j : Nat) : w.cell? ⟨g, j, none⟩ = (dkV D.size gb D.n wv tv D.left)[j]? := cell_of_row w g j _ _ _ h.disk
theorem DkAt.c0 (h : DkAt w Z g D gb wv tv) : w.cell? ⟨g, 0, none⟩ = some (.int .i64 (D.size : Int)) := h.cell 0
theorem DkAt.c1 (h : DkAt w Z g D gb wv tv) : w.cell? ⟨g, 1, none⟩ = some (.slice (some ⟨gb, 0, none⟩) D.n D.n) := h.cell 1
theorem DkAt.c2 (h : DkAt w Z g D gb wv tv) : w.cell? ⟨g, 2, none⟩ = some wv := h.cell 2
theorem DkAt.c3 (h : DkAt w Z g D gb wv tv) : w.cell? ⟨g, 3, none⟩ = some tv := h.cell 3
theorem DkAt.c4 (h : DkAt w Z g D gb wv tv) : w.cell? ⟨g, 4, none⟩ = some (.int .i64 D.left) := h.cell 4
theorem DkAt.froz (h : DkAt w Z g D gb wv tv) (j : Nat) : w.frozen? ⟨g, j, none⟩ = false := frozen_of_row w g j _ _ h.disk
theorem DkAt.cb0 (h : DkAt w Z g D gb wv tv) (i : Nat) (hi : i < D.n) : w.cell? ⟨gb, 2 * i, none⟩ = some (D.blk i).1.v := by
  rw [h.blks.cell (show 2 * i < 2 * D.n by omega)]
  unfold bkF
  rw [if_pos (by omega), show 2 * i / 2 = i by omega]
theorem DkAt.cb1 (h : DkAt w Z g D gb wv tv) (i : Nat) (hi : i < D.n) : w.cell? ⟨gb, 2 * i + 1, none⟩ = some (D.blk i).2.v := by
  rw [h.blks.cell (show 2 * i + 1 < 2 * D.n by omega)]
  unfold bkF
  rw [if_neg (by omega), show (2 * i + 1) / 2 = i by omega]
theorem DkAt.frozb (h : DkAt w Z g D gb wv tv) (j : Nat) : w.frozen? ⟨gb, j, none⟩ = false := h.blks.frozen j

/-- The bodies read as they did where what is never turned is as it was. -/
theorem DkAt.again (h : DkAt w Z g D gb wv tv) {w' : World} (hR : ∀ k, Z.R k → w'.heap[k]? = w.heap[k]?) :
    (∀ i, i < D.n → (D.blk i).1.In w' Z.R ∧ (D.blk i).2.In w' Z.R) ∧ (∀ p ∈ D.wait, p.1 < D.n ∧ p.2.In w' Z.R) ∧ (∀ e ∈ D.tr, IsBytes e.head ∧ e.body.In w' Z.R) :=
  ⟨fun i hi => ⟨(h.okb i hi).1.keep hR (fun _ hk => hk), (h.okb i hi).2.keep hR (fun _ hk => hk)⟩,
   fun p hp => ⟨(h.okw p hp).1, (h.okw p hp).2.keep hR (fun _ hk => hk)⟩,
   fun e he => ⟨(h.okt e he).1, (h.okt e he).2.keep hR (fun _ hk => hk)⟩⟩

theorem DkAt.setLeft (h : DkAt w Z g D gb wv tv) (l : Int) (hl : -9223372036854775808 ≤ l ∧ l ≤ 9223372036854775807) :
    DkAt (w.setCell ⟨g, 4, none⟩ (.int .i64 l)) Z g { D with left := l } gb wv tv ∧ Step Z w Z (w.setCell ⟨g, 4, none⟩ (.int .i64 l)) := by
  have ho := OnlyAt.setC g 4 w (.int .i64 l)
  have hR := h.again (w' := w.setCell ⟨g, 4, none⟩ (.int .i64 l)) fun k hk => ho.block k (fun e => h.gR (e ▸ hk))
  refine ⟨{ h with
    disk := by rw [heap_setCell_same w g 4 _ _ _ h.disk]; rfl
    blks := h.blks.of_block (ho.block gb h.gb_ne)
    waits := ownsRow_keep h.waits fun k hk => ho.block k (fun e => h.wg (e ▸ hk))
    trace := ownsRow_keep h.trace fun k hk => ho.block k (fun e => h.tg (e ▸ hk))
    okb := hR.1
    okw := hR.2.1
    okt := hR.2.2
    lt := fun k hk => by rw [ho.size]; exact h.lt k hk
    left := hl }, ⟨ho.os, ho.tape, ho.output, Nat.le_of_eq ho.size.symm, fun k _ hn => ho.block k (fun e => hn (e ▸ h.gS)), fun _ hk => .inl hk⟩⟩

/-- What was written at i. -/
def updW (blk : Nat → BV × BV) (i : Nat) (x : BV) : Nat → BV × BV := fun j => if j = i then (x, (blk i).2) else blk j
/-- What was flushed at i. -/
def updF (blk : Nat → BV × BV) (i : Nat) (x : BV) : Nat → BV × BV := fun j => if j = i then ((blk i).1, x) else blk j

theorem DkAt.setBlk (h : DkAt w Z g D gb wv tv) (j : Nat) (v : Value) (b : Nat → BV × BV) (hv : ∀ k, k < 2 * D.n → bkF b k = if k = j then v else bkF D.blk k) (hb : ∀ i, i < D.n → (b i).1.In w Z.R ∧ (b i).2.In w Z.R) :
    DkAt (w.setCell ⟨gb, j, none⟩ v) Z g { D with blk := b } gb wv tv ∧ Step Z w Z (w.setCell ⟨gb, j, none⟩ v) := by
  have ho := OnlyAt.setC gb j w v
  have hk0 : ∀ k, Z.R k → (w.setCell ⟨gb, j, none⟩ v).heap[k]? = w.heap[k]? := fun k hk => ho.block k (fun e => h.bR (e ▸ hk))
  have hR := h.again hk0
  refine ⟨{ h with
    disk := by rw [ho.block g h.gb_ne.symm]; exact h.disk
    blks := (h.blks.set j v).congr fun k hk => (hv k hk).symm
    waits := ownsRow_keep h.waits fun k hk => ho.block k (fun e => h.wb (e ▸ hk))
    trace := ownsRow_keep h.trace fun k hk => ho.block k (fun e => h.tb (e ▸ hk))
    okb := fun i hi => ⟨(hb i hi).1.keep hk0 (fun _ hk => hk), (hb i hi).2.keep hk0 (fun _ hk => hk)⟩
    okw := hR.2.1
    okt := hR.2.2
    lt := fun k hk => by rw [ho.size]; exact h.lt k hk }, ⟨ho.os, ho.tape, ho.output, Nat.le_of_eq ho.size.symm, fun k _ hn => ho.block k (fun e => hn (e ▸ h.bS)), fun _ hk => .inl hk⟩⟩

theorem bkF_updW (blk : Nat → BV × BV) (i : Nat) (x : BV) (k : Nat) : bkF (updW blk i x) k = if k = 2 * i then x.v else bkF blk k := by
  unfold bkF updW
  by_cases h : k / 2 = i
  · rw [if_pos h]
    by_cases h2 : k % 2 = 0
    · rw [if_pos h2, if_pos (by omega)]
    · rw [if_neg h2, if_neg (by omega), if_neg h2, h]
  · rw [if_neg h, if_neg (show ¬ k = 2 * i by omega)]
theorem bkF_updF (blk : Nat → BV × BV) (i : Nat) (x : BV) (k : Nat) : bkF (updF blk i x) k = if k = 2 * i + 1 then x.v else bkF blk k := by
  unfold bkF updF
  by_cases h : k / 2 = i
  · rw [if_pos h]
    by_cases h2 : k % 2 = 0
    · rw [if_pos h2, if_neg (by omega), if_pos h2, h]
    · rw [if_neg h2, if_pos (by omega)]
  · rw [if_neg h, if_neg (show ¬ k = 2 * i + 1 by omega)]
theorem DkAt.setW (h : DkAt w Z g D gb wv tv) (i : Nat) (x : BV) (hx : x.In w Z.R) :
    DkAt (w.setCell ⟨gb, 2 * i, none⟩ x.v) Z g { D with blk := updW D.blk i x } gb wv tv ∧ Step Z w Z (w.setCell ⟨gb, 2 * i, none⟩ x.v) := by
  refine h.setBlk (2 * i) x.v (updW D.blk i x) (fun k _ => bkF_updW _ _ _ _) (fun j hj => ?_)
  unfold updW
  split
  · rename_i e
    subst e
    exact ⟨hx, (h.okb j hj).2⟩
  · exact h.okb j hj
theorem DkAt.setF (h : DkAt w Z g D gb wv tv) (i : Nat) (x : BV) (hx : x.In w Z.R) :
    DkAt (w.setCell ⟨gb, 2 * i + 1, none⟩ x.v) Z g { D with blk := updF D.blk i x } gb wv tv ∧ Step Z w Z (w.setCell ⟨gb, 2 * i + 1, none⟩ x.v) := by
  refine h.setBlk (2 * i + 1) x.v (updF D.blk i x) (fun k _ => bkF_updF _ _ _ _) (fun j hj => ?_)
  unfold updF
  split
  · rename_i e
    subst e
    exact ⟨(h.okb j hj).1, hx⟩
  · exact h.okb j hj

/-- A write waits no more, or one more waits. -/
theorem DkAt.setWait (h : DkAt w Z g D gb wv tv) (l : List (Nat × BV)) {w1 : World} {wv' : Value} (hg : w.grownBy w1 wv.ownBlock) (ho : w1.ownsRow 0 58 2 wv' l.length (l.flatMap wrC)) (hl : ∀ p ∈ l, p.1 < D.n ∧ p.2.In w Z.R)
    (hat : wv'.ownBlock = none ∨ wv'.ownBlock = wv.ownBlock ∨ wv'.ownBlock = some w.heap.size) :
    ∃ Z', DkAt (w1.setCell ⟨g, 2, none⟩ wv') Z' g { D with wait := l } gb wv' tv ∧ Step Z w Z' (w1.setCell ⟨g, 2, none⟩ wv') := by
  have hO := OnlyAt.setC g 2 w1 wv'
  have hold : ∀ k, k < w.heap.size → k ≠ g → some k ≠ wv.ownBlock → (w1.setCell ⟨g, 2, none⟩ wv').heap[k]? = w.heap[k]? := fun k hk h1 h2 => (hO.block k h1).trans (hg.block k hk h2)
  have hgl := h.lt g h.gS
  have hR0 : ∀ k, Z.R k → (w1.setCell ⟨g, 2, none⟩ wv').heap[k]? = w.heap[k]? := fun k hk => hold k (h.lt k (h.sub k hk)) (fun e => h.gR (e ▸ hk)) (fun e => h.wR k e.symm hk)
  have hR := h.again hR0
  have hsz : w.heap.size ≤ (w1.setCell ⟨g, 2, none⟩ wv').heap.size := by rw [hO.size]; exact hg.size
  have hgw : w1.heap[g]? = w.heap[g]? := hg.block g hgl (fun e => h.wg e.symm)
  have hnew : ∀ k, wv'.ownBlock = some k → (Z.S k ∧ ¬ Z.R k ∧ wv.ownBlock = some k) ∨ k = w.heap.size := fun k hk => by
    rcases hat with e | e | e
    · rw [e] at hk; cases hk
    · rw [e] at hk; exact .inl ⟨h.wS k hk, h.wR k hk, hk⟩
    · rw [e] at hk; exact .inr (Option.some.inj hk).symm
  have hw'g : wv'.ownBlock ≠ some g := fun e => by
    rcases hnew g e with h1 | h1
    · exact h.wg h1.2.2
    · omega
  have hw'b : wv'.ownBlock ≠ some gb := fun e => by
    rcases hnew gb e with h1 | h1
    · exact h.wb h1.2.2
    · have := h.lt gb h.bS; omega
  have hw'lt : ∀ k, wv'.ownBlock = some k → k < w1.heap.size := fun k hk => (ho.lt k hk).2
  have hmk : ∀ Z', (∀ k, Z.S k → Z'.S k) → Z'.R = Z.R → (∀ k, Z'.S k → Z.S k ∨ (k = w.heap.size ∧ k < w1.heap.size)) → (∀ k, wv'.ownBlock = some k → Z'.S k) →
      DkAt (w1.setCell ⟨g, 2, none⟩ wv') Z' g { D with wait := l } gb wv' tv ∧ Step Z w Z' (w1.setCell ⟨g, 2, none⟩ wv') := by
    intro Z' hS hRR hfr hws
    refine ⟨{ disk := by rw [heap_setCell_same w1 g 2 _ _ _ (hgw.trans h.disk)]; rfl
              blks := h.blks.of_block (hold gb (h.lt gb h.bS) h.gb_ne (fun e => h.wb e.symm))
              waits := ownsRow_keep ho fun k hk => hO.block k (fun e => hw'g (e ▸ hk))
              trace := ownsRow_keep h.trace fun k hk => hold k (h.lt k (h.tS k hk)) (fun e => h.tg (e ▸ hk)) (fun e => h.wt k e.symm hk)
              okb := by rw [hRR]; exact hR.1
              okw := by rw [hRR]; exact fun p hp => ⟨(hl p hp).1, (hl p hp).2.keep hR0 (fun _ hk => hk)⟩
              okt := by rw [hRR]; exact hR.2.2
              lt := fun k hk => by
                rw [hO.size]
                rcases hfr k hk with h1 | h1
                · exact Nat.lt_of_lt_of_le (h.lt k h1) hg.size
                · exact h1.2
              sub := by rw [hRR]; exact fun k hk => hS k (h.sub k hk)
              gS := hS g h.gS
              bS := hS gb h.bS
              wS := hws
              tS := fun k hk => hS k (h.tS k hk)
              gR := by rw [hRR]; exact h.gR
              bR := by rw [hRR]; exact h.bR
              wR := by
                rw [hRR]
                intro k hk hr
                rcases hnew k hk with h1 | h1
                · exact h1.2.1 hr
                · have := h.lt k (h.sub k hr); omega
              tR := by rw [hRR]; exact h.tR
              gb_ne := h.gb_ne
              wg := hw'g
              wb := hw'b
              tg := h.tg
              tb := h.tb
              wt := fun k hk e => by
                rcases hnew k hk with h1 | h1
                · exact h.wt k h1.2.2 e
                · have := h.lt k (h.tS k e); omega
              size := h.size
              n := h.n
              left := h.left }, ⟨hg.os, hg.tape, hg.output, hsz, fun k hk hn => hold k hk (fun e => hn (e ▸ h.gS)) (fun e => hn (h.wS k e.symm)), fun k hk => ?_⟩⟩
    rcases hfr k hk with h1 | h1
    · exact .inl h1
    · exact .inr (by omega)
  by_cases hc : wv'.ownBlock = some w.heap.size
  · refine ⟨Z.also w.heap.size, hmk _ (fun _ => .inl) rfl (fun k hk => hk.elim .inl fun e => .inr ⟨e, ?_⟩) (fun k hk => ?_)⟩
    · exact hw'lt k (by rw [e]; exact hc)
    · rw [hc] at hk
      exact .inr (Option.some.inj hk).symm
  · refine ⟨Z, hmk Z (fun _ hk => hk) rfl (fun _ => .inl) (fun k hk => ?_)⟩
    rcases hnew k hk with h1 | h1
    · exact h1.1
    · exact absurd (by rw [hk, h1]) hc

/-- Something more was done. -/
theorem DkAt.setTrace (h : DkAt w Z g D gb wv tv) (l : List Ev) {w1 : World} {tv' : Value} (hg : w.grownBy w1 tv.ownBlock) (ho : w1.ownsRow 0 35 15 tv' l.length (l.flatMap Ev.cells)) (hl : ∀ e ∈ l, IsBytes e.head ∧ e.body.In w Z.R)
    (hat : tv'.ownBlock = none ∨ tv'.ownBlock = tv.ownBlock ∨ tv'.ownBlock = some w.heap.size) :
    ∃ Z', DkAt (w1.setCell ⟨g, 3, none⟩ tv') Z' g { D with tr := l } gb wv tv' ∧ Step Z w Z' (w1.setCell ⟨g, 3, none⟩ tv') := by
  have hO := OnlyAt.setC g 3 w1 tv'
  have hold : ∀ k, k < w.heap.size → k ≠ g → some k ≠ tv.ownBlock → (w1.setCell ⟨g, 3, none⟩ tv').heap[k]? = w.heap[k]? := fun k hk h1 h2 => (hO.block k h1).trans (hg.block k hk h2)
  have hgl := h.lt g h.gS
  have hR0 : ∀ k, Z.R k → (w1.setCell ⟨g, 3, none⟩ tv').heap[k]? = w.heap[k]? := fun k hk => hold k (h.lt k (h.sub k hk)) (fun e => h.gR (e ▸ hk)) (fun e => h.tR k e.symm hk)
  have hR := h.again hR0
  have hsz : w.heap.size ≤ (w1.setCell ⟨g, 3, none⟩ tv').heap.size := by rw [hO.size]; exact hg.size
  have hgw : w1.heap[g]? = w.heap[g]? := hg.block g hgl (fun e => h.tg e.symm)
  have hnew : ∀ k, tv'.ownBlock = some k → (Z.S k ∧ ¬ Z.R k ∧ tv.ownBlock = some k) ∨ k = w.heap.size := fun k hk => by
    rcases hat with e | e | e
    · rw [e] at hk; cases hk
    · rw [e] at hk; exact .inl ⟨h.tS k hk, h.tR k hk, hk⟩
    · rw [e] at hk; exact .inr (Option.some.inj hk).symm
  have hw'g : tv'.ownBlock ≠ some g := fun e => by
    rcases hnew g e with h1 | h1
    · exact h.tg h1.2.2
    · omega
  have hw'b : tv'.ownBlock ≠ some gb := fun e => by
    rcases hnew gb e with h1 | h1
    · exact h.tb h1.2.2
    · have := h.lt gb h.bS; omega
  have hw'lt : ∀ k, tv'.ownBlock = some k → k < w1.heap.size := fun k hk => (ho.lt k hk).2
  have hmk : ∀ Z', (∀ k, Z.S k → Z'.S k) → Z'.R = Z.R → (∀ k, Z'.S k → Z.S k ∨ (k = w.heap.size ∧ k < w1.heap.size)) → (∀ k, tv'.ownBlock = some k → Z'.S k) →
      DkAt (w1.setCell ⟨g, 3, none⟩ tv') Z' g { D with tr := l } gb wv tv' ∧ Step Z w Z' (w1.setCell ⟨g, 3, none⟩ tv') := by
    intro Z' hS hRR hfr hws
    refine ⟨{ disk := by rw [heap_setCell_same w1 g 3 _ _ _ (hgw.trans h.disk)]; rfl
              blks := h.blks.of_block (hold gb (h.lt gb h.bS) h.gb_ne (fun e => h.tb e.symm))
              waits := ownsRow_keep h.waits fun k hk => hold k (h.lt k (h.wS k hk)) (fun e => h.wg (e ▸ hk)) (fun e => h.wt k hk e.symm)
              trace := ownsRow_keep ho fun k hk => hO.block k (fun e => hw'g (e ▸ hk))
              okb := by rw [hRR]; exact hR.1
              okw := by rw [hRR]; exact hR.2.1
              okt := by rw [hRR]; exact fun p hp => ⟨(hl p hp).1, (hl p hp).2.keep hR0 (fun _ hk => hk)⟩
              lt := fun k hk => by
                rw [hO.size]
                rcases hfr k hk with h1 | h1
                · exact Nat.lt_of_lt_of_le (h.lt k h1) hg.size
                · exact h1.2
              sub := by rw [hRR]; exact fun k hk => hS k (h.sub k hk)
              gS := hS g h.gS
              bS := hS gb h.bS
              wS := fun k hk => hS k (h.wS k hk)
              tS := hws
              gR := by rw [hRR]; exact h.gR
              bR := by rw [hRR]; exact h.bR
              wR := by rw [hRR]; exact h.wR
              tR := by
                rw [hRR]
                intro k hk hr
                rcases hnew k hk with h1 | h1
                · exact h1.2.1 hr
                · have := h.lt k (h.sub k hr); omega
              gb_ne := h.gb_ne
              wg := h.wg
              wb := h.wb
              tg := hw'g
              tb := hw'b
              wt := fun k hk e => by
                rcases hnew k e with h1 | h1
                · exact h.wt k hk h1.2.2
                · have := h.lt k (h.wS k hk); omega
              size := h.size
              n := h.n
              left := h.left }, ⟨hg.os, hg.tape, hg.output, hsz, fun k hk hn => hold k hk (fun e => hn (e ▸ h.gS)) (fun e => hn (h.tS k e.symm)), fun k hk => ?_⟩⟩
    rcases hfr k hk with h1 | h1
    · exact .inl h1
    · exact .inr (by omega)
  by_cases hc : tv'.ownBlock = some w.heap.size
  · refine ⟨Z.also w.heap.size, hmk _ (fun _ => .inl) rfl (fun k hk => hk.elim .inl fun e => .inr ⟨e, ?_⟩) (fun k hk => ?_)⟩
    · exact hw'lt k (by rw [e]; exact hc)
    · rw [hc] at hk
      exact .inr (Option.some.inj hk).symm
  · refine ⟨Z, hmk Z (fun _ hk => hk) rfl (fun _ => .inl) (fun k hk => ?_)⟩
    rcases hnew k hk with h1 | h1
    · exact h1.1
    · exact absurd (by rw [hk, h1]) hc
end

/-- 'append(v, x)' of one record of sz cells, laid in block b. -/
theorem run_append_elem {P : Program} {T E : TypeId} (sz by_ : Nat) (z : Value) (hT : P.underlying T = some (.slice E)) (hinfo : (P.info? E).map (fun i => (i.zero, i.size, i.bytes)) = some (some z, sz, by_)) (hzs : z.cells.size = sz) (h0 : 0 < sz) (hby : by_ ≤ 64)
    (ty : TypeId) (w : World) (v : Value) (n : Nat) (xs : List Value) (hown : w.ownsRow 0 E sz v n xs) (b : Nat) (news : List Value) (hl : news.length = sz) (hb : w.rangeAt b 0 news) (h1 : ∀ u ∈ news, u.oneCell' = true) (hlim : n < 1000000) :
    ∃ v' w', (Builtin.append_ #[T, T] ty #[v, .slice (some ⟨b, 0, none⟩) 1 1]).run P w = .ok v' w' ∧ w'.ownsRow 0 E sz v' (n + 1) (xs ++ news) ∧ w.grownBy w' v.ownBlock ∧ (v'.ownBlock = none ∨ v'.ownBlock = v.ownBlock ∨ v'.ownBlock = some w.heap.size) ∧ ∃ ga ca, v' = .slice (some ⟨ga, 0, none⟩) (n + 1) ca := by
  obtain ⟨i, hi, hz⟩ := Option.map_eq_some_iff.1 hinfo
  simp only [Prod.mk.injEq] at hz
  obtain ⟨hz, hsz, hbi⟩ := hz
  obtain ⟨v', w', hr, h2, h3, _, h5⟩ := run_append_own_at (P := P) w 0 T ty E i z sz by_ hT hi hz hsz hbi hzs h0 v n xs hown ⟨b, 0, none⟩ 1 1 news (by rw [hl, Nat.one_mul]) (fun j u hj => by rw [addr_add]; exact hb j u hj) h1
    (by unfold maxLen; omega) (Nat.le_trans (Nat.mul_le_mul (show n + 1 ≤ 1000000 by omega) hby) (by decide)) (Nat.zero_le _)
  refine ⟨v', w', hr, h2, h3, .inr h5, ?_⟩
  rcases h2.2 with ⟨_, h0⟩ | ⟨ga, ca, cur, h, _⟩
  · omega
  · exact ⟨ga, ca, h⟩
theorem wp_append_run {P : Program} {w w' : World} {o : Oper} {a : Act} {K : Act → World → Prop} {Q : Exit → Act → World → Prop} (s x : Operand) (t : TypeId) (ho : o.op = .call { callee := .builtin .append, args := #[s, x], argTypes := #[t, t] })
    (v u v' : Value) (hs : a.eval s = v) (hx : a.eval x = u) (hr : (Builtin.append_ #[t, t] o.type #[v, u]).run P w = .ok v' w') (h : K (a.put o.dst v') w') : o.wp P a w K Q := by
  unfold Oper.wp execOp
  simp only [ho, resolve, invoke, builtin, Sem.run_bind, Sem.run_pure, Result.andThen_ok, List.map_toArray, List.map_cons, List.map_nil, hs, hx, hr]
  exact h
#print axioms DkAt.setWait
#print axioms run_append_elem
end Go.Proofs.YtlicafjhkbofbaaDoor
