/- What one row of quar.rounds reads as. No conditions but those that each line states. -/
import Derived.Test.YthhaeiafgloacaaDoorQDouble
namespace Go.Proofs.YthhaeiafgloacaaDoor
open Go.RowKit

theorem rd_at {w : World} {g : Nat} (h : w.rangeAt g 0 rdL) (i : Nat) (hi : i < 8) : w.rangeAt g (i * 4) [.int .i64 (pl i 0 : Nat), .int .i64 (pl i 1 : Nat), .int .i64 (pl i 2 : Nat), .int .i64 (pl i 3 : Nat)] := by
  have key : ∀ i, i < 8 → ∀ j, j < 4 → rdL[i * 4 + j]? = [Value.int .i64 (pl i 0 : Nat), .int .i64 (pl i 1 : Nat), .int .i64 (pl i 2 : Nat), .int .i64 (pl i 3 : Nat)][j]? := by
    intro i hi j hj
    rcases i with _ | _ | _ | _ | _ | _ | _ | _ | i
    all_goals first | (exfalso; omega) | (rcases j with _ | _ | _ | _ | j <;> first | (exfalso; omega) | rfl)
  intro j v hv
  have hj : j < 4 := by
    have := (List.getElem?_eq_some_iff.1 hv).1
    simpa using this
  have := h (i * 4 + j) v (by rw [key i hi j hj]; exact hv)
  rwa [Nat.zero_add] at this
theorem info4 : (Tryd.prog.info? 57).map (·.size) = some 4 := by kernel_rfl
#print axioms rd_at
end Go.Proofs.YthhaeiafgloacaaDoor
