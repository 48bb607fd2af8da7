
/- What the condition on bits.deBruijn64tab gives, whatever else is laid behind it. No conditions but those that each line states. -/
import Derived.Test.YtmaknnlccmfmpaaDoorTrBits
import Derived.Test.YtmaknnlccmfmpaaDoorOpen
namespace Go.Proofs.YtmaknnlccmfmpaaDoor
open Go.ChangeShapes Go.WideShapes Go.ChangeAt Go.RowKit
set_option maxRecDepth 20000

theorem gTab : Tryd.prog.globalNamed "math/bits.deBruijn64tab" = some 1 := by kernel_rfl
theorem tTab : (Tryd.prog.globals[1]?).map (·.type) = some 44 := by kernel_rfl
theorem laid_tab : (Rows.laid_math_bits_deBruijn64tab : DataW Unit) = .agg (dbN.map fun n => .lit (.int .u8 n)) := rfl
theorem cells_byte : Tryd.prog.cellsOf 5 = 1 := by kernel_rfl
theorem tab_of_laid {W : World} {r : List (String × DataW Unit)} (h : laidMet Tryd.prog (("math/bits.deBruijn64tab", Rows.laid_math_bits_deBruijn64tab) :: r) W) : Tab W := by
  obtain ⟨ps, ⟨g0, t0, cs0, f0, p0, q0, hg0, ht0, hv0, hd0, _, _⟩, _, _⟩ := h
  obtain rfl := Option.some.inj (gTab.symm.trans hg0)
  obtain rfl := Option.some.inj (tTab.symm.trans ht0)
  have hcell := World.var?_cell hg0 hv0
  rw [laid_tab] at hd0
  obtain ⟨ys, m, _, hx, hlen, hy, hel⟩ := DataW.trod_array Tryd.underlying44 hd0
  rw [cells_byte] at hel
  have h1 := (Prod.mk.inj hx).1
  simp only [DataW.agg.injEq] at h1
  intro j v hv
  have hj : j < 64 := (List.getElem?_eq_some_iff.1 hv).1
  obtain ⟨y, hy'⟩ : ∃ y, ys[j]? = some y := ⟨_, List.getElem?_eq_getElem (by omega)⟩
  obtain ⟨n, e1, e2, _⟩ := DataW.trod_int Tryd.underlying5 ((hel j hj).trans hy')
  have h2 := congrArg (fun l => l[j]?) h1
  simp only [List.getElem?_map, hy', Option.map_some] at h2
  unfold dbL at hv
  rw [List.getElem?_map] at hv
  obtain ⟨k, hk, rfl⟩ := Option.map_eq_some_iff.1 hv
  rw [hk, Option.map_some, Option.some.injEq, e2] at h2
  simp only [DataW.lit.injEq, Lit.int.injEq, true_and] at h2
  subst h2
  rw [Nat.zero_add, hcell j]
  have e3 := congrArg (fun l => l[0]?) e1
  simpa [List.getElem?_take, List.getElem?_drop] using e3
#print axioms tab_of_laid
end Go.Proofs.YtmaknnlccmfmpaaDoor
