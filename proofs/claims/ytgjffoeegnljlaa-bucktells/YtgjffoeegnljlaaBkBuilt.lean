
/- Rows of Cells that a text spells out. No function is named here; no conditions but those that each line states. -/
import Derived.Test.YtgjffoeegnljlaaBkMem
import Derived.Test.YtgjffoeegnljlaaBuild
namespace Go.Proofs.Ytgjffoeegnljlaa
open Go.RowKit
set_option maxRecDepth 20000
theorem builtS_cell (c : CV) : Try.prog.builtSlice 24 1 [(0, .agg c.row.toArray)] = some c.row.toArray := by
  kernel_rfl
theorem cells_below (w : World) (vs : Array Value) : Below w.heap.size w (w.alloc (.cells vs 24)) := below_alloc (Below.refl _ _) _
/-- A row of Cells that a text spells out. -/
theorem Ces.lit {w : World} {cs : List CV} {vs : Array Value} {n : Nat} (hv : vs = (cs.flatMap CV.row).toArray) (hn : cs.length = n) (h63 : n ≤ 9223372036854775807) (h : ∀ c ∈ cs, c.At w) : Ces (w.alloc (.cells vs 24)) (some ⟨w.heap.size, 0, none⟩) n n cs := by
  subst hv
  refine ⟨hn, Nat.le_refl _, h63, .inr ⟨w.heap.size, 0, rfl, fun i c hc j v hv => ?_⟩, fun c hc => (h c hc).below (cells_below w _)⟩
  have hj : j < 3 := (List.getElem?_eq_some_iff.1 hv).1
  rw [show 0 + i * 3 + j = 3 * i + j by omega, cell_of_row _ w.heap.size _ _ _ _ (heap_alloc_new w _), List.getElem?_toArray, flat_get 3 CV.row CV.row_length cs i j hj, hc]
  exact hv
#print axioms builtS_cell
#print axioms Ces.lit
end Go.Proofs.Ytgjffoeegnljlaa
