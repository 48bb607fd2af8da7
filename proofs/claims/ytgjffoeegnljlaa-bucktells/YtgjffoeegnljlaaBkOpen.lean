
/- How a slice of Cells that came in is opened. No conditions but those that each line states. -/
import Derived.Test.YtgjffoeegnljlaaBkMem
import Derived.Test.YtgjffoeegnljlaaOpen
import Derived.Deep.Strs
namespace Go.Proofs.Ytgjffoeegnljlaa
open Go.ChangeShapes Go.WideShapes Go.ChangeAt Go.RowKit
set_option maxRecDepth 20000

theorem cells_int1 : Try.prog.cellsOf 3 = 1 := by kernel_rfl
theorem cells_bs1 : Try.prog.cellsOf 22 = 1 := by kernel_rfl
theorem cells_cell : Try.prog.cellsOf 24 = 3 := by kernel_rfl
section
variable {H : Type} {enc : TypeId × Value → H} {W : World} {base : Nat} {held : Bool}
theorem bv_of_trod {fuel : Nat} {v : Value} {x : DataW H × List MemPlace} (hf : DataW.trod enc Try.prog W base (fun _ => true) held fuel 22 [v] = some x) : ∃ y : BV, v = y.v ∧ Bs W y.a y.len y.cap y.zs := by
  rcases open_ints Try.underlying22 Try.underlying5 cells_u8 hf with ⟨hcs, _⟩ | ⟨x, l, c, zs, hcs, _, hl, hm, hz, _, hcell, hwz⟩
  · simp only [List.cons.injEq, and_true] at hcs
    exact ⟨BV.nil, hcs, Bs.nil W⟩
  · simp only [List.cons.injEq, and_true] at hcs
    exact ⟨⟨some x, l, c, zs.take l⟩, hcs, bs_of_row (.inr ⟨_, rfl, hl, hm, by simpa using hz, hcell, hwz⟩)⟩
theorem cell_of_trod {fuel : Nat} {cs : List Value} {x : DataW H × List MemPlace} (hf : DataW.trod enc Try.prog W base (fun _ => true) held fuel 24 cs = some x) :
    ∃ c : CV, cs = c.row ∧ c.At W := by
  obtain ⟨y0, y1, y2, n, -, hl, h0, h1, h2⟩ := Deep.trod_struct3 Try.underlying24 hf
  rw [cells_cell] at hl
  match cs, hl with
  | [v0, v1, v2], _ =>
    simp only [cells_int1, cells_bs1, List.drop_zero, List.drop_succ_cons, List.take_succ_cons, List.take_zero] at h0 h1 h2
    obtain ⟨k, e0, -, w0⟩ := DataW.trod_int Try.underlying3 h0
    obtain ⟨p, e1, -, w1⟩ := DataW.trod_int Try.underlying3 h1
    obtain ⟨y, e2, hb⟩ := bv_of_trod h2
    simp only [List.cons.injEq, and_true] at e0 e1
    exact ⟨⟨k, p, y⟩, by rw [e0, e1, e2], int_of_wf w0, int_of_wf w1, hb⟩
/-- A slice of Cells that came in. -/
theorem open_ces {r : Reach} {b0 : Nat} {v : Value} {d : DataW H} {p : List MemPlace} (hok : Value.okWide Try.prog W r b0 26 v)
    (h : DataW.Trod enc Try.prog W base (fun _ => true) held 26 v d p) : ∃ a len cap cs, v = .slice a len cap ∧ Ces W a len cap cs := by
  obtain ⟨a, len, cap, rfl⟩ := okWide_slice Try.underlying26 hok
  obtain ⟨fuel, hf⟩ := h
  rcases Deep.open_slice Try.underlying26 hf with ⟨hcs, _⟩ | ⟨x, l, c, m, n, D, Pl, hcs, _, hl, hm, hmm, _, hV⟩
  · simp [Value.cells] at hcs
    obtain ⟨rfl, rfl, rfl⟩ := hcs
    exact ⟨none, 0, 0, [], rfl, Ces.nil W⟩
  · simp [Value.cells] at hcs
    obtain ⟨rfl, rfl, rfl⟩ := hcs
    simp only [if_true] at hmm
    unfold maxLen at hm
    rw [cells_cell] at hV
    have key : ∀ i, ∃ q : CV, i < len → (∀ j v, q.row[j]? = some v → W.cell? ((x.add (i * 3)).add j) = some v) ∧ q.At W := fun i => by
      by_cases hi : i < len
      · obtain ⟨cs', h1, h2⟩ := hV i (by omega)
        obtain ⟨q, rfl, hq⟩ := cell_of_trod h2
        obtain ⟨_, _, hc⟩ := World.cells?_some h1
        refine ⟨q, fun _ => ⟨fun j v hv => ?_, hq⟩⟩
        have hj : j < 3 := (List.getElem?_eq_some_iff.1 hv).1
        have := hc j hj
        rw [this]
        simpa using hv
      · exact ⟨⟨0, 0, BV.nil⟩, fun h => absurd h hi⟩
    obtain ⟨f, hf'⟩ := Classical.axiomOfChoice key
    have hspot : x.spot = none ∨ len = 0 := by
      by_cases h0 : len = 0
      · exact .inr h0
      · refine .inl ?_
        have := World.cell?_spot ((hf' 0 (by omega)).1 0 _ rfl)
        simpa [Addr.add] using this
    refine ⟨some x, len, cap, (List.range len).map f, rfl, by simp, hl, by omega, ?_, ?_⟩
    · rcases hspot with h0 | h0
      · refine .inr ⟨x.block, x.off, ?_, fun i c hc j v hv => ?_⟩
        · obtain ⟨b, off, spot⟩ := x
          simp only at h0
          rw [h0]
        · have hi : i < len := by
            have := (List.getElem?_eq_some_iff.1 hc).1
            simpa using this
          have hc' : f i = c := by simpa [hi] using hc
          have := (hf' i hi).1 j v (by rw [hc']; exact hv)
          obtain ⟨b, off, spot⟩ := x
          simp only at h0
          subst h0
          rw [addr_add, addr_add] at this
          exact this
      · exact .inl h0
    · intro c hc
      obtain ⟨i, hi, rfl⟩ := List.mem_map.1 hc
      exact (hf' i (List.mem_range.1 hi)).2
end
#print axioms open_ces
end Go.Proofs.Ytgjffoeegnljlaa
