
/- The condition on quar.rounds and disk.errPower: what it gives the walks, and that the program's own start meets it. -/
import Derived.Test.YtlfcejfpdgdnkaaDoorXQuar
import Derived.Test.YtlfcejfpdgdnkaaDoorXDisk
namespace Go.Proofs.YtlfcejfpdgdnkaaDoor
open Go.ChangeShapes Go.WideShapes Go.ChangeAt Go.RowKit
set_option maxRecDepth 20000

abbrev laidR : List (String × DataW Unit) := [("dumbwaiter/quar.rounds", Rows.laid_dumbwaiter_quar_rounds), ("dumbwaiter/disk.errPower", Rows.laid_dumbwaiter_disk_errPower)]
theorem door_met (os : Os) (args : Array Value) : laidMetH Tryd.prog laidR ((World.doorLaid Tryd.prog 400 os).forCall (fun _ _ => 0) ⟨#[], args, []⟩).memory :=
  laidMetH_of_parts3 (fuel := 8) (laidMet_of_run' 8 (by kernel_rfl) (by kernel_rfl)) (by kernel_rfl) (by kernel_rfl)
theorem of_laid {W : World} (h : laidMetH Tryd.prog laidR W) : Glob W ∧ ∃ p, Pow p W := by
  rw [MakeChecks.laidMetH_plain _ _ _ (by kernel_rfl)] at h
  exact ⟨glob_of_laid h, pow_of_laid h.tail⟩
#print axioms of_laid
#print axioms door_met
end Go.Proofs.YtlfcejfpdgdnkaaDoor
