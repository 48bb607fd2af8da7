/- A slice of bytes that came in, with the reach of its room. No conditions but those that each line states. -/
import Derived.Test.YthhaeiafgloacaaDoorCDoor
import Derived.SizedLaws
namespace Go.Proofs.YthhaeiafgloacaaDoor
open Go.ChangeShapes Go.WideShapes Go.ChangeAt Go.RowKit

section
variable {H : Type} {enc : TypeId × Value → H} {W : World} {base : Nat} {held : Bool}
/-- A slice of bytes that came in, its room within reach. -/
theorem open_bz {r : Reach} {b0 : Nat} {v : Value} {d : DataW H} {p : List MemPlace} (hok : Value.okWide Tryd.prog W r b0 25 v)
    (h : DataW.Trod enc Tryd.prog W base (fun _ => true) held 25 v d p) (hs : ∀ el sp, d = .slice el sp → (el.length + sp.length) * Tryd.prog.bytesOf 5 ≤ reachBytes) : ∃ a len cap zs, v = .slice a len cap ∧ Bs W a len cap zs ∧ cap ≤ 140737488351232 := by
  obtain ⟨a, len, cap, rfl⟩ := okWide_slice Tryd.underlying25 hok
  obtain ⟨fuel, hf⟩ := h
  rcases open_ints Tryd.underlying25 Tryd.underlying5 (by kernel_rfl) hf with ⟨hcs, _⟩ | ⟨x, l, c, zs, hcs, _, hl, hm, hz, hdat, hcell, hwz⟩
  · simp [Value.cells] at hcs
    obtain ⟨rfl, rfl, rfl⟩ := hcs
    exact ⟨none, 0, 0, _, rfl, Bs.nil W, by omega⟩
  · simp [Value.cells] at hcs
    obtain ⟨rfl, rfl, rfl⟩ := hcs
    have hsl := hs _ _ (Prod.mk.inj hdat).1
    rw [show Tryd.prog.bytesOf 5 = 1 by kernel_rfl] at hsl
    simp only [lits, List.length_map, List.length_take, List.length_drop, reachBytes] at hsl
    have hz' : zs.length = cap := by simpa using hz
    exact ⟨_, _, _, zs.take len, rfl, bs_of_row (.inr ⟨_, rfl, hl, hm, by simpa using hz, hcell, hwz⟩), by omega⟩
end
#print axioms open_bz
end Go.Proofs.YthhaeiafgloacaaDoor
