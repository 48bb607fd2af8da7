/-
  NARROWER THAN 'FOR EVERY INPUT', by the rows' own cells (each row's printed sentence says how): RingSteps: laid · RingForms: laid · RingPlays: laid · RingPower: laid.
  DERIVED. THE GIVEN ROWS OF THIS SEAT. 4 by the template 'for every input the law returns true; each argument reads behind the call as it read before'; 0 by the template 'total and deterministic' (their statements: YtkpkipjelpedeaaDoorTotals.lean).
  GIVEN WITH THE SEED: the statements are not yours to turn. If you find one false, say at which input.
  Laid BY PROGRAM, IN A SANDBOX (cutbox-rows.mjs): the forced cells as the released guide's own fill.sh prints them over the translation 0ce773812b82e588… (all of the seat's roots in one cut). By AI agents, Wed Nov 11 2026. No macro, syntax, notation, axiom, sorry.
-/
import Derived.Test.YtkpkipjelpedeaaDoorChecked
import GoSem.Claim
import GoSem.ClaimJoined
import GoSem.ClaimMapViews
import Derived.JoinedTies
import Derived.KernelRfl
namespace Go.Proofs.YtkpkipjelpedeaaDoor
/- THE CELL 'sum', in the pinned program and in every row, IS THE sha256 OF THE DUMP (.gsa) THAT YtkpkipjelpedeaaDoorProg.lean LOADS. Nothing in Lean hashes anything: it is a label: what it is worth is what the hold of that sum in a sandbox is worth. -/
noncomputable def Tryd.pinned : Pinned := { name := "ytkpkipjelpedeaadoor", sum := "0ce773812b82e58896e060a3e10751190cb5c2c7637cab496b839bf50a87ad5c", checked := Tryd.checked }
namespace Rows
def none {H : Type} : Left H := { results := [], args := [] }

/- WHAT THE LISTED PACKAGE-LEVEL VARIABLES READ AS WHEN THE CALL BEGINS. Each datum BY PROGRAM (the guide's laid-datum.mjs) off the statement by which the dump's own 'gosem.cut.vars' lays the variable. In a bare row this is a premise. The card (YtkpkipjelpedeaaDoorCards.lean) ties it to the program's text. -/
def laid_dumbwaiter_quar_rounds {H : Type} : DataW H := .agg [.agg [.lit (.int .i64 0), .lit (.int .i64 4), .lit (.int .i64 8), .lit (.int .i64 12)], .agg [.lit (.int .i64 1), .lit (.int .i64 5), .lit (.int .i64 9), .lit (.int .i64 13)], .agg [.lit (.int .i64 2), .lit (.int .i64 6), .lit (.int .i64 10), .lit (.int .i64 14)], .agg [.lit (.int .i64 3), .lit (.int .i64 7), .lit (.int .i64 11), .lit (.int .i64 15)], .agg [.lit (.int .i64 0), .lit (.int .i64 5), .lit (.int .i64 10), .lit (.int .i64 15)], .agg [.lit (.int .i64 1), .lit (.int .i64 6), .lit (.int .i64 11), .lit (.int .i64 12)], .agg [.lit (.int .i64 2), .lit (.int .i64 7), .lit (.int .i64 8), .lit (.int .i64 13)], .agg [.lit (.int .i64 3), .lit (.int .i64 4), .lit (.int .i64 9), .lit (.int .i64 14)]]
def laid_dumbwaiter_disk_errPower {H : Type} : DataW H := .iface "*errors.errorString" (.ptr (.agg [.lit (.string [116, 104, 101, 32, 112, 111, 119, 101, 114, 32, 119, 101, 110, 116])]))

/-- 'dumbwaiterlaw11.RingSteps': WHATEVER THE INPUT: true; the input reads as it did. -/
def ringStepsSpec : ChangeSpec := { name := "ringSteps", fn := fun _ => fun
  | [d1, d2] => { results := [.lit (.bool true)], args := [d1, d2] }
  | _ => none }
def ringStepsRow : OpenClaim := { program := "ytkpkipjelpedeaadoor", sum := "0ce773812b82e58896e060a3e10751190cb5c2c7637cab496b839bf50a87ad5c", func := "dumbwaiter/dumbwaiterlaw11.RingSteps", spec := "ringSteps", named := ["dumbwaiter/quar.rounds", "dumbwaiter/disk.errPower"], apart := false, laid := [("dumbwaiter/quar.rounds", laid_dumbwaiter_quar_rounds), ("dumbwaiter/disk.errPower", laid_dumbwaiter_disk_errPower)] }
def RingStepsSaid : Prop := ringStepsRow.holds Tryd.pinned (OpenSpec.ofChange ringStepsSpec)

/-- ITS FALSE NEIGHBOUR: 'it returns false'. Refute it at one input. -/
def ringStepsWrong : ChangeSpec := { name := "ringSteps", fn := fun _ => fun
  | [d1, d2] => { results := [.lit (.bool false)], args := [d1, d2] }
  | _ => none }
def RingStepsWrongFalsely : Prop := ringStepsRow.holds Tryd.pinned (OpenSpec.ofChange ringStepsWrong)

/-- 'dumbwaiterlaw11.RingForms': WHATEVER THE INPUT: true; the input reads as it did. -/
def ringFormsSpec : ChangeSpec := { name := "ringForms", fn := fun _ => fun
  | [d1, d2, d3] => { results := [.lit (.bool true)], args := [d1, d2, d3] }
  | _ => none }
def ringFormsRow : OpenClaim := { program := "ytkpkipjelpedeaadoor", sum := "0ce773812b82e58896e060a3e10751190cb5c2c7637cab496b839bf50a87ad5c", func := "dumbwaiter/dumbwaiterlaw11.RingForms", spec := "ringForms", unfollowed := true, recurses := true, named := ["dumbwaiter/quar.rounds", "dumbwaiter/disk.errPower"], apart := false, laid := [("dumbwaiter/quar.rounds", laid_dumbwaiter_quar_rounds), ("dumbwaiter/disk.errPower", laid_dumbwaiter_disk_errPower)] }
def RingFormsSaid : Prop := ringFormsRow.holds Tryd.pinned (OpenSpec.ofChange ringFormsSpec)

/-- ITS FALSE NEIGHBOUR: 'it returns false'. Refute it at one input. -/
def ringFormsWrong : ChangeSpec := { name := "ringForms", fn := fun _ => fun
  | [d1, d2, d3] => { results := [.lit (.bool false)], args := [d1, d2, d3] }
  | _ => none }
def RingFormsWrongFalsely : Prop := ringFormsRow.holds Tryd.pinned (OpenSpec.ofChange ringFormsWrong)

/-- 'dumbwaiterlaw11.RingPlays': WHATEVER THE INPUT: true; the input reads as it did. -/
def ringPlaysSpec : ChangeSpec := { name := "ringPlays", fn := fun _ => fun
  | [d1, d2, d3, d4] => { results := [.lit (.bool true)], args := [d1, d2, d3, d4] }
  | _ => none }
def ringPlaysRow : OpenClaim := { program := "ytkpkipjelpedeaadoor", sum := "0ce773812b82e58896e060a3e10751190cb5c2c7637cab496b839bf50a87ad5c", func := "dumbwaiter/dumbwaiterlaw11.RingPlays", spec := "ringPlays", named := ["dumbwaiter/quar.rounds", "dumbwaiter/disk.errPower"], apart := false, laid := [("dumbwaiter/quar.rounds", laid_dumbwaiter_quar_rounds), ("dumbwaiter/disk.errPower", laid_dumbwaiter_disk_errPower)] }
def RingPlaysSaid : Prop := ringPlaysRow.holds Tryd.pinned (OpenSpec.ofChange ringPlaysSpec)

/-- ITS FALSE NEIGHBOUR: 'it returns false'. Refute it at one input. -/
def ringPlaysWrong : ChangeSpec := { name := "ringPlays", fn := fun _ => fun
  | [d1, d2, d3, d4] => { results := [.lit (.bool false)], args := [d1, d2, d3, d4] }
  | _ => none }
def RingPlaysWrongFalsely : Prop := ringPlaysRow.holds Tryd.pinned (OpenSpec.ofChange ringPlaysWrong)

/-- 'dumbwaiterlaw11.RingPower': WHATEVER THE INPUT: true; the input reads as it did. -/
def ringPowerSpec : ChangeSpec := { name := "ringPower", fn := fun _ => fun
  | [d1, d2, d3, d4] => { results := [.lit (.bool true)], args := [d1, d2, d3, d4] }
  | _ => none }
def ringPowerRow : OpenClaim := { program := "ytkpkipjelpedeaadoor", sum := "0ce773812b82e58896e060a3e10751190cb5c2c7637cab496b839bf50a87ad5c", func := "dumbwaiter/dumbwaiterlaw11.RingPower", spec := "ringPower", unfollowed := true, recurses := true, named := ["dumbwaiter/quar.rounds", "dumbwaiter/disk.errPower"], apart := false, laid := [("dumbwaiter/quar.rounds", laid_dumbwaiter_quar_rounds), ("dumbwaiter/disk.errPower", laid_dumbwaiter_disk_errPower)] }
def RingPowerSaid : Prop := ringPowerRow.holds Tryd.pinned (OpenSpec.ofChange ringPowerSpec)

/-- ITS FALSE NEIGHBOUR: 'it returns false'. Refute it at one input. -/
def ringPowerWrong : ChangeSpec := { name := "ringPower", fn := fun _ => fun
  | [d1, d2, d3, d4] => { results := [.lit (.bool false)], args := [d1, d2, d3, d4] }
  | _ => none }
def RingPowerWrongFalsely : Prop := ringPowerRow.holds Tryd.pinned (OpenSpec.ofChange ringPowerWrong)

/- THE SECOND FORM. 'bulk': how many values and letters a reading holds, each counted each time it is reached (what is shared counts as often as it is met; a slice's spare places count too). A statement '..UptoSaid' is the law's where the arguments, and the package variables that the reading takes, are together of bulk at most 1048576: NARROWER than '..Said'. Prove '..Said' where nothing that the law and all that it calls make is longer than what came in: it says more and counts as full. Else prove '..UptoSaid'. A law counts once. -/
mutual
def uptoBulk {H : Type} : DataW H → Nat
  | .lit (.string bytes) => bytes.length + 1
  | .lit _ => 1
  | .nil => 1
  | .ptr d => uptoBulk d + 1
  | .slice elems spare => uptoBulkAll elems + uptoBulkAll spare + 1
  | .agg parts => uptoBulkAll parts + 1
  | .iface _ d => uptoBulk d + 1
  | .map entries => uptoBulkEntries entries + 1
  | .held _ => 1
def uptoBulkAll {H : Type} : List (DataW H) → Nat
  | [] => 0
  | d :: r => uptoBulk d + uptoBulkAll r
def uptoBulkEntries {H : Type} : List (Lit × DataW H) → Nat
  | [] => 0
  | x :: r => uptoBulkEntry x + uptoBulkEntries r
def uptoBulkEntry {H : Type} : Lit × DataW H → Nat
  | (.string bytes, d) => bytes.length + uptoBulk d + 1
  | (_, d) => uptoBulk d + 1
 end
def uptoSmall : (H : Type) → List (DataW H) → Bool := fun _ ds => decide (uptoBulkAll ds ≤ 1048576)
def OpenSpec.upto (s : _root_.Go.ChangeSpec) : _root_.Go.OpenSpec := { _root_.Go.OpenSpec.ofChange s with cond := some uptoSmall }

/-- 'dumbwaiterlaw11.RingSteps', WHERE WHAT IT READS IS OF BULK AT MOST 1048576: true; the input reads as it did. -/
def ringStepsUptoRow : OpenClaim := { program := "ytkpkipjelpedeaadoor", sum := "0ce773812b82e58896e060a3e10751190cb5c2c7637cab496b839bf50a87ad5c", func := "dumbwaiter/dumbwaiterlaw11.RingSteps", spec := "ringSteps", named := ["dumbwaiter/quar.rounds", "dumbwaiter/disk.errPower"], apart := false, laid := [("dumbwaiter/quar.rounds", laid_dumbwaiter_quar_rounds), ("dumbwaiter/disk.errPower", laid_dumbwaiter_disk_errPower)], narrowed := true }
def RingStepsUptoSaid : Prop := ringStepsUptoRow.holds Tryd.pinned (OpenSpec.upto ringStepsSpec)

/-- 'dumbwaiterlaw11.RingForms', WHERE WHAT IT READS IS OF BULK AT MOST 1048576: true; the input reads as it did. -/
def ringFormsUptoRow : OpenClaim := { program := "ytkpkipjelpedeaadoor", sum := "0ce773812b82e58896e060a3e10751190cb5c2c7637cab496b839bf50a87ad5c", func := "dumbwaiter/dumbwaiterlaw11.RingForms", spec := "ringForms", unfollowed := true, recurses := true, named := ["dumbwaiter/quar.rounds", "dumbwaiter/disk.errPower"], apart := false, laid := [("dumbwaiter/quar.rounds", laid_dumbwaiter_quar_rounds), ("dumbwaiter/disk.errPower", laid_dumbwaiter_disk_errPower)], narrowed := true }
def RingFormsUptoSaid : Prop := ringFormsUptoRow.holds Tryd.pinned (OpenSpec.upto ringFormsSpec)

/-- 'dumbwaiterlaw11.RingPlays', WHERE WHAT IT READS IS OF BULK AT MOST 1048576: true; the input reads as it did. -/
def ringPlaysUptoRow : OpenClaim := { program := "ytkpkipjelpedeaadoor", sum := "0ce773812b82e58896e060a3e10751190cb5c2c7637cab496b839bf50a87ad5c", func := "dumbwaiter/dumbwaiterlaw11.RingPlays", spec := "ringPlays", named := ["dumbwaiter/quar.rounds", "dumbwaiter/disk.errPower"], apart := false, laid := [("dumbwaiter/quar.rounds", laid_dumbwaiter_quar_rounds), ("dumbwaiter/disk.errPower", laid_dumbwaiter_disk_errPower)], narrowed := true }
def RingPlaysUptoSaid : Prop := ringPlaysUptoRow.holds Tryd.pinned (OpenSpec.upto ringPlaysSpec)

/-- 'dumbwaiterlaw11.RingPower', WHERE WHAT IT READS IS OF BULK AT MOST 1048576: true; the input reads as it did. -/
def ringPowerUptoRow : OpenClaim := { program := "ytkpkipjelpedeaadoor", sum := "0ce773812b82e58896e060a3e10751190cb5c2c7637cab496b839bf50a87ad5c", func := "dumbwaiter/dumbwaiterlaw11.RingPower", spec := "ringPower", unfollowed := true, recurses := true, named := ["dumbwaiter/quar.rounds", "dumbwaiter/disk.errPower"], apart := false, laid := [("dumbwaiter/quar.rounds", laid_dumbwaiter_quar_rounds), ("dumbwaiter/disk.errPower", laid_dumbwaiter_disk_errPower)], narrowed := true }
def RingPowerUptoSaid : Prop := ringPowerUptoRow.holds Tryd.pinned (OpenSpec.upto ringPowerSpec)

end Rows
end Go.Proofs.YtkpkipjelpedeaaDoor
