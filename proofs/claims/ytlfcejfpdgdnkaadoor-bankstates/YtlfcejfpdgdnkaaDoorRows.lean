/-
  NARROWER THAN 'FOR EVERY INPUT', by the rows' own cells (each row's printed sentence says how): BankTurns: laid · BankPlays: laid · BankStates: laid.
  DERIVED. THE GIVEN ROWS OF THIS SEAT. 3 by the template 'for every input the law returns true; each argument reads behind the call as it read before'; 0 by the template 'total and deterministic' (their statements: YtlfcejfpdgdnkaaDoorTotals.lean).
  GIVEN WITH THE SEED: the statements are not yours to turn. If you find one false, say at which input.
  Laid BY PROGRAM, IN A SANDBOX (cutbox-rows.mjs): the forced cells as the released guide's own fill.sh prints them over the translation ee5e27748c48831f… (all of the seat's roots in one cut). By AI agents, Wed Nov 11 2026. No macro, syntax, notation, axiom, sorry.
-/
import Derived.Test.YtlfcejfpdgdnkaaDoorChecked
import GoSem.Claim
import GoSem.ClaimJoined
import GoSem.ClaimMapViews
import Derived.JoinedTies
import Derived.KernelRfl
namespace Go.Proofs.YtlfcejfpdgdnkaaDoor
/- THE CELL 'sum', in the pinned program and in every row, IS THE sha256 OF THE DUMP (.gsa) THAT YtlfcejfpdgdnkaaDoorProg.lean LOADS. Nothing in Lean hashes anything: it is a label: what it is worth is what the hold of that sum in a sandbox is worth. -/
noncomputable def Tryd.pinned : Pinned := { name := "ytlfcejfpdgdnkaadoor", sum := "ee5e27748c48831f5af08fe70aebaab6bee132a315aa72338ffa83567c887bb4", checked := Tryd.checked }
namespace Rows
def none {H : Type} : Left H := { results := [], args := [] }

/- WHAT THE LISTED PACKAGE-LEVEL VARIABLES READ AS WHEN THE CALL BEGINS. Each datum BY PROGRAM (the guide's laid-datum.mjs) off the statement by which the dump's own 'gosem.cut.vars' lays the variable. In a bare row this is a premise. The card (YtlfcejfpdgdnkaaDoorCards.lean) ties it to the program's text. -/
def laid_dumbwaiter_quar_rounds {H : Type} : DataW H := .agg [.agg [.lit (.int .i64 0), .lit (.int .i64 4), .lit (.int .i64 8), .lit (.int .i64 12)], .agg [.lit (.int .i64 1), .lit (.int .i64 5), .lit (.int .i64 9), .lit (.int .i64 13)], .agg [.lit (.int .i64 2), .lit (.int .i64 6), .lit (.int .i64 10), .lit (.int .i64 14)], .agg [.lit (.int .i64 3), .lit (.int .i64 7), .lit (.int .i64 11), .lit (.int .i64 15)], .agg [.lit (.int .i64 0), .lit (.int .i64 5), .lit (.int .i64 10), .lit (.int .i64 15)], .agg [.lit (.int .i64 1), .lit (.int .i64 6), .lit (.int .i64 11), .lit (.int .i64 12)], .agg [.lit (.int .i64 2), .lit (.int .i64 7), .lit (.int .i64 8), .lit (.int .i64 13)], .agg [.lit (.int .i64 3), .lit (.int .i64 4), .lit (.int .i64 9), .lit (.int .i64 14)]]
def laid_dumbwaiter_disk_errPower {H : Type} : DataW H := .iface "*errors.errorString" (.ptr (.agg [.lit (.string [116, 104, 101, 32, 112, 111, 119, 101, 114, 32, 119, 101, 110, 116])]))

/-- 'dumbwaiterlaw12.BankTurns': WHATEVER THE INPUT: true; the input reads as it did. -/
def bankTurnsSpec : ChangeSpec := { name := "bankTurns", fn := fun _ => fun
  | [d1, d2] => { results := [.lit (.bool true)], args := [d1, d2] }
  | _ => none }
def bankTurnsRow : OpenClaim := { program := "ytlfcejfpdgdnkaadoor", sum := "ee5e27748c48831f5af08fe70aebaab6bee132a315aa72338ffa83567c887bb4", func := "dumbwaiter/dumbwaiterlaw12.BankTurns", spec := "bankTurns", named := ["dumbwaiter/quar.rounds", "dumbwaiter/disk.errPower"], apart := false, laid := [("dumbwaiter/quar.rounds", laid_dumbwaiter_quar_rounds), ("dumbwaiter/disk.errPower", laid_dumbwaiter_disk_errPower)] }
def BankTurnsSaid : Prop := bankTurnsRow.holds Tryd.pinned (OpenSpec.ofChange bankTurnsSpec)

/-- ITS FALSE NEIGHBOUR: 'it returns false'. Refute it at one input. -/
def bankTurnsWrong : ChangeSpec := { name := "bankTurns", fn := fun _ => fun
  | [d1, d2] => { results := [.lit (.bool false)], args := [d1, d2] }
  | _ => none }
def BankTurnsWrongFalsely : Prop := bankTurnsRow.holds Tryd.pinned (OpenSpec.ofChange bankTurnsWrong)

/-- 'dumbwaiterlaw12.BankPlays': WHATEVER THE INPUT: true; the input reads as it did. -/
def bankPlaysSpec : ChangeSpec := { name := "bankPlays", fn := fun _ => fun
  | [d1, d2, d3] => { results := [.lit (.bool true)], args := [d1, d2, d3] }
  | _ => none }
def bankPlaysRow : OpenClaim := { program := "ytlfcejfpdgdnkaadoor", sum := "ee5e27748c48831f5af08fe70aebaab6bee132a315aa72338ffa83567c887bb4", func := "dumbwaiter/dumbwaiterlaw12.BankPlays", spec := "bankPlays", named := ["dumbwaiter/disk.errPower", "dumbwaiter/quar.rounds"], apart := false, laid := [("dumbwaiter/quar.rounds", laid_dumbwaiter_quar_rounds), ("dumbwaiter/disk.errPower", laid_dumbwaiter_disk_errPower)] }
def BankPlaysSaid : Prop := bankPlaysRow.holds Tryd.pinned (OpenSpec.ofChange bankPlaysSpec)

/-- ITS FALSE NEIGHBOUR: 'it returns false'. Refute it at one input. -/
def bankPlaysWrong : ChangeSpec := { name := "bankPlays", fn := fun _ => fun
  | [d1, d2, d3] => { results := [.lit (.bool false)], args := [d1, d2, d3] }
  | _ => none }
def BankPlaysWrongFalsely : Prop := bankPlaysRow.holds Tryd.pinned (OpenSpec.ofChange bankPlaysWrong)

/-- 'dumbwaiterlaw12.BankStates': WHATEVER THE INPUT: true; the input reads as it did. -/
def bankStatesSpec : ChangeSpec := { name := "bankStates", fn := fun _ => fun
  | [d1, d2] => { results := [.lit (.bool true)], args := [d1, d2] }
  | _ => none }
def bankStatesRow : OpenClaim := { program := "ytlfcejfpdgdnkaadoor", sum := "ee5e27748c48831f5af08fe70aebaab6bee132a315aa72338ffa83567c887bb4", func := "dumbwaiter/dumbwaiterlaw12.BankStates", spec := "bankStates", named := ["dumbwaiter/disk.errPower", "dumbwaiter/quar.rounds"], apart := false, laid := [("dumbwaiter/quar.rounds", laid_dumbwaiter_quar_rounds), ("dumbwaiter/disk.errPower", laid_dumbwaiter_disk_errPower)] }
def BankStatesSaid : Prop := bankStatesRow.holds Tryd.pinned (OpenSpec.ofChange bankStatesSpec)

/-- ITS FALSE NEIGHBOUR: 'it returns false'. Refute it at one input. -/
def bankStatesWrong : ChangeSpec := { name := "bankStates", fn := fun _ => fun
  | [d1, d2] => { results := [.lit (.bool false)], args := [d1, d2] }
  | _ => none }
def BankStatesWrongFalsely : Prop := bankStatesRow.holds Tryd.pinned (OpenSpec.ofChange bankStatesWrong)

/- THE SECOND FORM. 'bulk': how many values and letters a reading holds, each counted each time it is reached (what is shared counts as often as it is met; a slice's spare places count too). A statement '..UptoSaid' is the law's where the arguments, and the package variables that the reading takes, are together of bulk at most 1048576: NARROWER than '..Said'. Prove '..Said' where nothing that the law and all that it calls make is longer than what came in: it says more and counts as full. Else prove '..UptoSaid'. A law counts once. -/
mutual
def uptoBulk {H : Type} : DataW H → Nat
  | .lit (.string bytes) => bytes.length + 1
  | .lit _ => 1
  | .nil => 1
  | .ptr d => uptoBulk d + 1
  | .slice elems spare => uptoBulkAll elems + uptoBulkAll spare + 1
  | .agg parts => uptoBulkAll parts + 1
  | .iface _ d => uptoBulk d + 1
  | .map entries => uptoBulkEntries entries + 1
  | .held _ => 1
def uptoBulkAll {H : Type} : List (DataW H) → Nat
  | [] => 0
  | d :: r => uptoBulk d + uptoBulkAll r
def uptoBulkEntries {H : Type} : List (Lit × DataW H) → Nat
  | [] => 0
  | x :: r => uptoBulkEntry x + uptoBulkEntries r
def uptoBulkEntry {H : Type} : Lit × DataW H → Nat
  | (.string bytes, d) => bytes.length + uptoBulk d + 1
  | (_, d) => uptoBulk d + 1
 end
def uptoSmall : (H : Type) → List (DataW H) → Bool := fun _ ds => decide (uptoBulkAll ds ≤ 1048576)
def OpenSpec.upto (s : _root_.Go.ChangeSpec) : _root_.Go.OpenSpec := { _root_.Go.OpenSpec.ofChange s with cond := some uptoSmall }

/-- 'dumbwaiterlaw12.BankTurns', WHERE WHAT IT READS IS OF BULK AT MOST 1048576: true; the input reads as it did. -/
def bankTurnsUptoRow : OpenClaim := { program := "ytlfcejfpdgdnkaadoor", sum := "ee5e27748c48831f5af08fe70aebaab6bee132a315aa72338ffa83567c887bb4", func := "dumbwaiter/dumbwaiterlaw12.BankTurns", spec := "bankTurns", named := ["dumbwaiter/quar.rounds", "dumbwaiter/disk.errPower"], apart := false, laid := [("dumbwaiter/quar.rounds", laid_dumbwaiter_quar_rounds), ("dumbwaiter/disk.errPower", laid_dumbwaiter_disk_errPower)], narrowed := true }
def BankTurnsUptoSaid : Prop := bankTurnsUptoRow.holds Tryd.pinned (OpenSpec.upto bankTurnsSpec)

/-- 'dumbwaiterlaw12.BankPlays', WHERE WHAT IT READS IS OF BULK AT MOST 1048576: true; the input reads as it did. -/
def bankPlaysUptoRow : OpenClaim := { program := "ytlfcejfpdgdnkaadoor", sum := "ee5e27748c48831f5af08fe70aebaab6bee132a315aa72338ffa83567c887bb4", func := "dumbwaiter/dumbwaiterlaw12.BankPlays", spec := "bankPlays", named := ["dumbwaiter/disk.errPower", "dumbwaiter/quar.rounds"], apart := false, laid := [("dumbwaiter/quar.rounds", laid_dumbwaiter_quar_rounds), ("dumbwaiter/disk.errPower", laid_dumbwaiter_disk_errPower)], narrowed := true }
def BankPlaysUptoSaid : Prop := bankPlaysUptoRow.holds Tryd.pinned (OpenSpec.upto bankPlaysSpec)

/-- 'dumbwaiterlaw12.BankStates', WHERE WHAT IT READS IS OF BULK AT MOST 1048576: true; the input reads as it did. -/
def bankStatesUptoRow : OpenClaim := { program := "ytlfcejfpdgdnkaadoor", sum := "ee5e27748c48831f5af08fe70aebaab6bee132a315aa72338ffa83567c887bb4", func := "dumbwaiter/dumbwaiterlaw12.BankStates", spec := "bankStates", named := ["dumbwaiter/disk.errPower", "dumbwaiter/quar.rounds"], apart := false, laid := [("dumbwaiter/quar.rounds", laid_dumbwaiter_quar_rounds), ("dumbwaiter/disk.errPower", laid_dumbwaiter_disk_errPower)], narrowed := true }
def BankStatesUptoSaid : Prop := bankStatesUptoRow.holds Tryd.pinned (OpenSpec.upto bankStatesSpec)

end Rows
end Go.Proofs.YtlfcejfpdgdnkaaDoor
