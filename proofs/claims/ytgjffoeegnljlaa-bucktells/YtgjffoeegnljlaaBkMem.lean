
/- Rows of Cells in memory: as a caller reads them, and as a call's own, to which 'append' adds. No function is named here; no conditions but those that each line states. -/
import Derived.Test.YtgjffoeegnljlaaBkBase
import Derived.Test.YtgjffoeegnljlaaOpen
import Derived.Deep.Strs
namespace Go.Proofs.Ytgjffoeegnljlaa
open Go.RowKit
set_option maxRecDepth 20000

/-- A Cell as it lies: its number, its leaf, its bytes. -/
structure CV where
  id : Int
  leaf : Int
  d : BV
abbrev CV.row (c : CV) : List Value := [.int .i64 c.id, .int .i64 c.leaf, c.d.v]
def CV.pc (c : CV) : PC := (c.id, c.leaf, c.d.zs)
structure CV.At (w : World) (c : CV) : Prop where
  id : -9223372036854775808 ≤ c.id ∧ c.id ≤ 9223372036854775807
  leaf : -9223372036854775808 ≤ c.leaf ∧ c.leaf ≤ 9223372036854775807
  bs : Bs w c.d.a c.d.len c.d.cap c.d.zs
theorem CV.row_length (c : CV) : c.row.length = 3 := rfl
theorem CV.row_one (c : CV) : ∀ u ∈ c.row, u.oneCell' = true := by
  intro u hu
  simp only [List.mem_cons, List.not_mem_nil, or_false] at hu
  rcases hu with rfl | rfl | rfl <;> rfl
theorem CV.At.below {w w' : World} {c : CV} (h : c.At w) (hb : Below w.heap.size w w') : c.At w' := ⟨h.id, h.leaf, h.bs.below hb⟩
/-- Its bytes lie not in block g. -/
def CV.Off (c : CV) (g : Option Nat) : Prop := 0 < c.d.len → ∀ p, c.d.a = some p → g ≠ some p.block
theorem CV.At.lt {w : World} {c : CV} (h : c.At w) (h0 : 0 < c.d.len) : ∃ b off, c.d.a = some ⟨b, off, none⟩ ∧ b < w.heap.size := by
  have hl := h.bs.le_cap
  rcases h.bs.place with h1 | ⟨b, off, e, hc⟩
  · omega
  · exact ⟨b, off, e, World.block_lt_of_cell? w _ (hc 0 h0)⟩
theorem CV.At.keep {w w' : World} {c : CV} (h : c.At w) (hb : 0 < c.d.len → ∀ p, c.d.a = some p → w'.heap[p.block]? = w.heap[p.block]?) : c.At w' := by
  refine ⟨h.id, h.leaf, h.bs.length, h.bs.le_cap, h.bs.cap_le, h.bs.bytes, ?_⟩
  rcases h.bs.place with h1 | ⟨b, off, e, hc⟩
  · exact .inl h1
  · refine .inr ⟨b, off, e, fun i hi => ?_⟩
    have := hb (by omega) _ e
    rw [World.cell?_of_block (w := w) (a := ⟨b, off + i, none⟩) this]
    exact hc i hi
theorem CV.Off.new {w : World} {c : CV} (h : c.At w) {g : Nat} (hg : w.heap.size ≤ g) : c.Off (some g) := by
  intro h0 p hp e
  obtain ⟨b, off, e2, hlt⟩ := h.lt h0
  rw [e2] at hp
  cases hp
  have := Option.some.inj e
  simp only at this
  omega

/-- The value '.slice a len cap', a slice of Cells, reads in w as cs. -/
structure Ces (w : World) (a : Option Addr) (len cap : Nat) (cs : List CV) : Prop where
  length : cs.length = len
  le_cap : len ≤ cap
  cap_le : cap ≤ 9223372036854775807
  place : len = 0 ∨ ∃ b off, a = some ⟨b, off, none⟩ ∧ ∀ i c, cs[i]? = some c → w.rangeAt b (off + i * 3) c.row
  item : ∀ c ∈ cs, c.At w
theorem Ces.nil (w : World) : Ces w none 0 0 [] := ⟨rfl, Nat.le_refl _, by omega, .inl rfl, fun _ h => by cases h⟩
theorem Ces.below {w w' : World} {a : Option Addr} {len cap : Nat} {cs : List CV} (h : Ces w a len cap cs) (hb : Below w.heap.size w w') : Ces w' a len cap cs := by
  refine ⟨h.length, h.le_cap, h.cap_le, ?_, fun c hc => (h.item c hc).below hb⟩
  rcases h.place with h1 | ⟨b, off, e, hr⟩
  · exact .inl h1
  · refine .inr ⟨b, off, e, fun i c hc j v hv => ?_⟩
    have := hr i c hc j v hv
    rw [hb.cell (World.block_lt_of_cell? w _ this)]
    exact this
theorem Ces.drew {w : World} {a : Option Addr} {len cap : Nat} {cs : List CV} (h : Ces w a len cap cs) : Ces w.drew a len cap cs := h.below ((Below.refl _ _).drew)

theorem info_cell : (Try.prog.info? 24).map (fun i => (i.zero, i.size, i.bytes)) = some (some (.agg #[.int .i64 0, .int .i64 0, .slice none 0 0]), 3, 40) := by kernel_rfl
theorem size_cell : (Try.prog.info? 24).map (·.size) = some 3 := by kernel_rfl
theorem zero_cell : (Try.prog.info? 24).bind (·.zero) = some (.agg #[.int .i64 0, .int .i64 0, .slice none 0 0]) := by kernel_rfl
theorem built_cell (i l : Int) (a : Option Addr) (n c : Nat) : Try.prog.built 24 [(0, .int .i64 i), (1, .int .i64 l), (2, .slice a n c)] = some #[.int .i64 i, .int .i64 l, .slice a n c] := by kernel_rfl

theorem rangeAt_below {w w' : World} {b o : Nat} {l : List Value} (h : w.rangeAt b o l) (hb : Below w.heap.size w w') : w'.rangeAt b o l := fun j v hv => by
  have := h j v hv
  rw [hb.cell (World.block_lt_of_cell? w _ this)]
  exact this
theorem Ces.spot {w : World} {a : Option Addr} {len cap : Nat} {cs : List CV} (h : Ces w a len cap cs) (h0 : 0 < len) : ∃ b off, a = some ⟨b, off, none⟩ ∧ ∀ w', Below w.heap.size w w' → ∀ i (hi : i < cs.length), w'.rangeAt b (off + i * 3) cs[i].row := by
  rcases h.place with h1 | ⟨b, off, e, hr⟩
  · omega
  · exact ⟨b, off, e, fun w' hb i hi => rangeAt_below (hr i _ (List.getElem?_eq_getElem hi)) hb⟩
/-- A Cell laid in a block of its own. -/
structure Laid1 (w W : World) (c : CV) : Prop where
  bel : Below w.heap.size w W
  at_ : W.heap[w.heap.size]? = some (.cells c.row.toArray 24 (0, 0))
  rng : W.rangeAt w.heap.size 0 c.row
  it : c.At W
  size : W.heap.size = w.heap.size + 1
theorem laid_store {w : World} {c : CV} (h : c.At w) : Laid1 w ((w.alloc (.cells #[.int .i64 0, .int .i64 0, .slice none 0 0] 24)).setRow w.heap.size c.row.toArray) c := by
  have n0 := heap_alloc_new w (.cells #[.int .i64 0, .int .i64 0, .slice none 0 0] 24)
  have n1 := setRow_heap _ w.heap.size _ c.row.toArray 24 _ n0
  have b1 := (OnlyAt.setRow w.heap.size (w.alloc (.cells #[.int .i64 0, .int .i64 0, .slice none 0 0] 24)) c.row.toArray).below (below_alloc (Below.refl _ w) _) (Nat.le_refl _)
  refine ⟨b1, n1, fun j v hv => ?_, h.below b1, ?_⟩
  · rw [Nat.zero_add, cell_of_row _ w.heap.size j _ _ _ n1, List.getElem?_toArray]
    exact hv
  · rw [(OnlyAt.setRow w.heap.size _ c.row.toArray).size, size_alloc]
theorem cell_all (c : CV) : c.row.toArray.all (·.oneCell') = true := all_oneCell_toArray c.row_one
/-- The slice '.slice a n cap' of Cells is one of the call's own (its block is from 'base' on), and reads as cs; the Cells' bytes lie elsewhere. -/
structure OwnC (base : Nat) (w : World) (a : Option Addr) (n cap : Nat) (cs : List CV) : Prop where
  length : cs.length = n
  row : w.ownsRow base 24 3 (.slice a n cap) n (cs.flatMap CV.row)
  item : ∀ c ∈ cs, c.At w
  off : ∀ c ∈ cs, c.Off (Value.slice a n cap).ownBlock
theorem OwnC.nil (base : Nat) (w : World) : OwnC base w none 0 0 [] := ⟨rfl, World.ownsRow_nil _ _ _ _, (fun _ h => by cases h), (fun _ h => by cases h)⟩
theorem OwnC.le_cap {base : Nat} {w : World} {a : Option Addr} {n cap : Nat} {cs : List CV} (h : OwnC base w a n cap cs) : n ≤ cap ∧ cap ≤ 9223372036854775807 := by
  obtain ⟨a', c', e, h1, h2, _⟩ := ownsRow_form h.row
  cases e
  unfold maxLen at h2
  omega
theorem OwnC.form {base : Nat} {w : World} {a : Option Addr} {n cap : Nat} {cs : List CV} (h : OwnC base w a n cap cs) (hn : 0 < n) : ∃ g, a = some ⟨g, 0, none⟩ ∧ base ≤ g ∧ g < w.heap.size := by
  rcases h.row.2 with ⟨_, h0⟩ | ⟨g, c, cur, h3, hb, hg, _⟩
  · omega
  · simp only [Value.slice.injEq, true_and] at h3
    exact ⟨g, h3.1, hb, (Array.getElem?_eq_some_iff.1 hg).1⟩
theorem OwnC.ces {base : Nat} {w : World} {a : Option Addr} {n cap : Nat} {cs : List CV} (h : OwnC base w a n cap cs) : Ces w a n cap cs := by
  refine ⟨h.length, h.le_cap.1, h.le_cap.2, ?_, h.item⟩
  by_cases h0 : n = 0
  · exact .inl h0
  · obtain ⟨g, rfl, _, _⟩ := h.form (by omega)
    refine .inr ⟨g, 0, rfl, fun i c hc => ?_⟩
    have hr := h.row
    rw [← h.length] at hr
    have := ownsRow_rec CV.row_length hr rfl i c hc
    rw [Nat.zero_add, Nat.mul_comm]
    exact this
theorem OwnC.below {base : Nat} {w w' : World} {a : Option Addr} {n cap : Nat} {cs : List CV} (h : OwnC base w a n cap cs) (hb : Below w.heap.size w w') : OwnC base w' a n cap cs := by
  refine ⟨h.length, ⟨h.row.1, ?_⟩, fun c hc => (h.item c hc).below hb, h.off⟩
  rcases h.row.2 with h3 | ⟨g, c, cur, h3, h4, h5, h6⟩
  · exact .inl h3
  · exact .inr ⟨g, c, cur, h3, h4, (hb.block g (Array.getElem?_eq_some_iff.1 h5).1).trans h5, h6⟩
/-- 'append(v, src...)' of Cells onto a row of the call's own, laid since W. -/
theorem run_append_cells (base : Nat) (W w : World) (a : Option Addr) (n cap : Nat) (cs : List CV) (hown : OwnC base w a n cap cs) (hW : Below base W w) (hbW : base ≤ W.heap.size) (sa : Option Addr) (m sc : Nat) (ds : List CV) (hs : Ces w sa m sc ds) (hoff : ∀ d ∈ ds, d.Off (Value.slice a n cap).ownBlock) (hlim : n + m ≤ 1000000) :
    ∃ a' cap' w', (Builtin.append_ #[26, 26] 26 #[.slice a n cap, .slice sa m sc]).run Try.prog w = .ok (.slice a' (n + m) cap') w' ∧ OwnC base w' a' (n + m) cap' (cs ++ ds) ∧ Below base W w' := by
  have hbw : base ≤ w.heap.size := Nat.le_trans hbW hW.size
  have fin : ∀ ad, sa = some ad → (∀ j u, (ds.flatMap CV.row)[j]? = some u → w.cell? (ad.add j) = some u) → ∃ a' cap' w', (Builtin.append_ #[26, 26] 26 #[.slice a n cap, .slice sa m sc]).run Try.prog w = .ok (.slice a' (n + m) cap') w' ∧ OwnC base w' a' (n + m) cap' (cs ++ ds) ∧ Below base W w' := by
    rintro ad rfl hcell
    obtain ⟨a', cap', w', hr, ho, hg, hown'⟩ := run_append_recs (P := Try.prog) 3 40 _ Try.underlying26 info_cell (by rfl) (by decide) (by decide) 26 base w (.slice a n cap) n _ hown.row ad m sc (ds.flatMap CV.row) (by rw [flat_length 3 CV.row CV.row_length, hs.length]) hcell
      (by intro u hu; obtain ⟨c, _, hc⟩ := List.mem_flatMap.1 hu; exact c.row_one u hc) hlim hbw
    have hkeep : ∀ c : CV, c.At w → c.Off (Value.slice a n cap).ownBlock → c.At w' ∧ c.Off (Value.slice a' (n + m) cap').ownBlock := by
      intro c h1 h2
      refine ⟨h1.keep fun h0 p hp => ?_, ?_⟩
      · obtain ⟨b, off, e, hlt⟩ := h1.lt h0
        have hne := h2 h0 p hp
        rw [e] at hp
        cases hp
        exact hg.block b hlt (fun e => hne e.symm)
      · rcases hown' with e | e
        · rw [e]; exact h2
        · rw [e]; exact CV.Off.new h1 (Nat.le_refl _)
    refine ⟨a', cap', w', hr, ⟨by rw [List.length_append, hown.length, hs.length], by rw [List.flatMap_append]; exact ho, ?_, ?_⟩, hW.grown hg hbw (fun k hk => (hown.row.lt k hk).1)⟩
    · intro c hc
      rcases List.mem_append.1 hc with h | h
      · exact (hkeep c (hown.item c h) (hown.off c h)).1
      · exact (hkeep c (hs.item c h) (hoff c h)).1
    · intro c hc
      rcases List.mem_append.1 hc with h | h
      · exact (hkeep c (hown.item c h) (hown.off c h)).2
      · exact (hkeep c (hs.item c h) (hoff c h)).2
  by_cases hm : m = 0
  · subst hm
    obtain rfl : ds = [] := List.eq_nil_of_length_eq_zero hs.length
    cases sa with
    | some ad => exact fin ad rfl (fun j u hj => by simp at hj)
    | none =>
      refine ⟨a, cap, w, ?_, by rw [List.append_nil]; exact hown, hW⟩
      obtain ⟨i, hi, hz⟩ := Option.map_eq_some_iff.1 info_cell
      rcases hown.row.2 with ⟨h, rfl⟩ | ⟨g, c, cur, h, _, _, hnc, _⟩
      · simp only [Value.slice.injEq, true_and] at h
        obtain ⟨rfl, rfl⟩ := h
        simp [Builtin.append_, run_underlying Try.underlying26, sizeOf, typeInfo, hi, Builtin.lenOf, Builtin.firstCells]
      · simp only [Value.slice.injEq, true_and] at h
        obtain ⟨rfl, rfl⟩ := h
        simp [Builtin.append_, run_underlying Try.underlying26, sizeOf, typeInfo, hi, Builtin.lenOf, Builtin.firstCells, hnc, storeCells]
  · rcases hs.place with h | ⟨b, off, rfl, hr⟩
    · exact absurd h hm
    · refine fin ⟨b, off, none⟩ rfl (fun j u hj => ?_)
      rw [addr_add]
      have hd : j / 3 < ds.length := by
        have := (List.getElem?_eq_some_iff.1 hj).1
        rw [flat_length 3 CV.row CV.row_length] at this
        omega
      have hj' := hj
      rw [show j = 3 * (j / 3) + j % 3 by omega, flat_get 3 CV.row CV.row_length ds _ _ (Nat.mod_lt _ (by decide)), List.getElem?_eq_getElem hd] at hj'
      have := hr (j / 3) ds[j / 3] (List.getElem?_eq_getElem hd) (j % 3) u hj'
      rw [show off + j / 3 * 3 + j % 3 = off + j by omega] at this
      exact this
/-- One Cell more, laid in a block of its own first. -/
theorem run_append_cell (base : Nat) (W w : World) (a : Option Addr) (n cap : Nat) (cs : List CV) (c : CV) (hown : OwnC base w a n cap cs) (hW : Below base W w) (hbW : base ≤ W.heap.size) (hc : c.At w) (hoff : c.Off (Value.slice a n cap).ownBlock) (hlim : n + 1 ≤ 1000000) :
    ∃ a' cap' w', (Builtin.append_ #[26, 26] 26 #[.slice a n cap, .slice (some ⟨w.heap.size, 0, none⟩) 1 1]).run Try.prog (w.alloc (.cells c.row.toArray 24)) = .ok (.slice a' (n + 1) cap') w' ∧ OwnC base w' a' (n + 1) cap' (cs ++ [c]) ∧ Below base W w' := by
  have hb1 := below_alloc (Below.refl w.heap.size w) (.cells c.row.toArray 24)
  refine run_append_cells base W _ a n cap cs (hown.below hb1) (hW.alloc (Nat.le_trans hbW hW.size) _) hbW _ 1 1 [c] ⟨rfl, Nat.le_refl _, by omega, .inr ⟨w.heap.size, 0, rfl, fun i d hd => ?_⟩, ?_⟩ ?_ hlim
  · match i, hd with
    | 0, hd =>
      cases hd
      intro j v hv
      rw [Nat.zero_mul, Nat.add_zero, Nat.zero_add, cell_of_row _ w.heap.size j _ _ _ (heap_alloc_new w _), List.getElem?_toArray]
      exact hv
    | i + 1, hd => cases hd
  · intro d hd
    rw [List.mem_singleton] at hd
    subst hd
    exact hc.below hb1
  · intro d hd
    rw [List.mem_singleton] at hd
    subst hd
    exact hoff
/-- 'append([]api.Cell{}, src...)': the row just laid has no room. -/
theorem run_append_cells0 (w : World) (sa : Option Addr) (m sc : Nat) (ds : List CV) (hs : Ces w sa m sc ds) (hlim : m ≤ 1000000) :
    ∃ a' cap' w', (Builtin.append_ #[26, 26] 26 #[.slice (some ⟨w.heap.size, 0, none⟩) 0 0, .slice sa m sc]).run Try.prog (w.alloc (Obj.cells #[] 24)) = .ok (.slice a' m cap') w' ∧ OwnC w.heap.size w' a' m cap' ds ∧ Below w.heap.size w w' := by
  have hb1 := below_alloc (Below.refl w.heap.size w) (Obj.cells #[] 24)
  have h0 : OwnC w.heap.size (w.alloc (Obj.cells #[] 24)) (some ⟨w.heap.size, 0, none⟩) 0 0 [] :=
    ⟨rfl, ⟨rfl, .inr ⟨w.heap.size, 0, #[], rfl, Nat.le_refl _, heap_alloc_new w _, Nat.le_refl _, by unfold maxLen; omega, rfl, rfl⟩⟩, (fun _ h => by cases h), (fun _ h => by cases h)⟩
  obtain ⟨a', cap', w', hr, ho, hb⟩ := run_append_cells w.heap.size w _ _ 0 0 [] h0 hb1 (Nat.le_refl _) sa m sc ds (hs.below hb1) (fun d hd => CV.Off.new (hs.item d hd) (Nat.le_refl _)) (by omega)
  rw [Nat.zero_add, List.nil_append] at ho
  rw [Nat.zero_add] at hr
  exact ⟨a', cap', w', hr, ho, hb⟩
#print axioms run_append_cells
#print axioms run_append_cell
#print axioms run_append_cells0
end Go.Proofs.Ytgjffoeegnljlaa
