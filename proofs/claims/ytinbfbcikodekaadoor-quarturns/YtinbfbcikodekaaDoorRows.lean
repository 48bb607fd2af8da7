/-
  NARROWER THAN 'FOR EVERY INPUT', by the rows' own cells (each row's printed sentence says how): QuarVectors: laid · QuarBacks: laid · QuarTells: laid · QuarTurns: laid.
  DERIVED. THE GIVEN ROWS OF THIS SEAT. 4 by the template 'for every input the law returns true; each argument reads behind the call as it read before'; 0 by the template 'total and deterministic' (their statements: YtinbfbcikodekaaDoorTotals.lean).
  GIVEN WITH THE SEED: the statements are not yours to turn. If you find one false, say at which input.
  Laid BY PROGRAM, IN A SANDBOX (cutbox-rows.mjs): the forced cells as the released guide's own fill.sh prints them over the translation 9fac9407bd4cb0f0… (all of the seat's roots in one cut). By AI agents, Wed Nov 11 2026. No macro, syntax, notation, axiom, sorry.
-/
import Derived.Test.YtinbfbcikodekaaDoorChecked
import GoSem.Claim
import GoSem.ClaimJoined
import GoSem.ClaimMapViews
import Derived.JoinedTies
import Derived.KernelRfl
namespace Go.Proofs.YtinbfbcikodekaaDoor
/- THE CELL 'sum', in the pinned program and in every row, IS THE sha256 OF THE DUMP (.gsa) THAT YtinbfbcikodekaaDoorProg.lean LOADS. Nothing in Lean hashes anything: it is a label: what it is worth is what the hold of that sum in a sandbox is worth. -/
noncomputable def Tryd.pinned : Pinned := { name := "ytinbfbcikodekaadoor", sum := "9fac9407bd4cb0f0c6d910f37b62730306d4e02d21ace95a5bd62346935b7573", checked := Tryd.checked }
namespace Rows
def none {H : Type} : Left H := { results := [], args := [] }

/- WHAT THE LISTED PACKAGE-LEVEL VARIABLES READ AS WHEN THE CALL BEGINS. Each datum BY PROGRAM (the guide's laid-datum.mjs) off the statement by which the dump's own 'gosem.cut.vars' lays the variable. In a bare row this is a premise. The card (YtinbfbcikodekaaDoorCards.lean) ties it to the program's text. -/
def laid_dumbwaiter_quar_rounds {H : Type} : DataW H := .agg [.agg [.lit (.int .i64 0), .lit (.int .i64 4), .lit (.int .i64 8), .lit (.int .i64 12)], .agg [.lit (.int .i64 1), .lit (.int .i64 5), .lit (.int .i64 9), .lit (.int .i64 13)], .agg [.lit (.int .i64 2), .lit (.int .i64 6), .lit (.int .i64 10), .lit (.int .i64 14)], .agg [.lit (.int .i64 3), .lit (.int .i64 7), .lit (.int .i64 11), .lit (.int .i64 15)], .agg [.lit (.int .i64 0), .lit (.int .i64 5), .lit (.int .i64 10), .lit (.int .i64 15)], .agg [.lit (.int .i64 1), .lit (.int .i64 6), .lit (.int .i64 11), .lit (.int .i64 12)], .agg [.lit (.int .i64 2), .lit (.int .i64 7), .lit (.int .i64 8), .lit (.int .i64 13)], .agg [.lit (.int .i64 3), .lit (.int .i64 4), .lit (.int .i64 9), .lit (.int .i64 14)]]

/-- 'dumbwaiterlaw2.QuarVectors': WHATEVER THE INPUT: true; the input reads as it did. -/
def quarVectorsSpec : ChangeSpec := { name := "quarVectors", fn := fun _ => fun
  | [] => { results := [.lit (.bool true)], args := [] }
  | _ => none }
def quarVectorsRow : OpenClaim := { program := "ytinbfbcikodekaadoor", sum := "9fac9407bd4cb0f0c6d910f37b62730306d4e02d21ace95a5bd62346935b7573", func := "dumbwaiter/dumbwaiterlaw2.QuarVectors", spec := "quarVectors", named := ["dumbwaiter/quar.rounds"], apart := false, laid := [("dumbwaiter/quar.rounds", laid_dumbwaiter_quar_rounds)] }
def QuarVectorsSaid : Prop := quarVectorsRow.holds Tryd.pinned (OpenSpec.ofChange quarVectorsSpec)

/-- ITS FALSE NEIGHBOUR: 'it returns false'. Refute it at one input. -/
def quarVectorsWrong : ChangeSpec := { name := "quarVectors", fn := fun _ => fun
  | [] => { results := [.lit (.bool false)], args := [] }
  | _ => none }
def QuarVectorsWrongFalsely : Prop := quarVectorsRow.holds Tryd.pinned (OpenSpec.ofChange quarVectorsWrong)

/-- 'dumbwaiterlaw2.QuarBacks': WHATEVER THE INPUT: true; the input reads as it did. -/
def quarBacksSpec : ChangeSpec := { name := "quarBacks", fn := fun _ => fun
  | [d1, d2] => { results := [.lit (.bool true)], args := [d1, d2] }
  | _ => none }
def quarBacksRow : OpenClaim := { program := "ytinbfbcikodekaadoor", sum := "9fac9407bd4cb0f0c6d910f37b62730306d4e02d21ace95a5bd62346935b7573", func := "dumbwaiter/dumbwaiterlaw2.QuarBacks", spec := "quarBacks", named := ["dumbwaiter/quar.rounds"], apart := false, laid := [("dumbwaiter/quar.rounds", laid_dumbwaiter_quar_rounds)] }
def QuarBacksSaid : Prop := quarBacksRow.holds Tryd.pinned (OpenSpec.ofChange quarBacksSpec)

/-- ITS FALSE NEIGHBOUR: 'it returns false'. Refute it at one input. -/
def quarBacksWrong : ChangeSpec := { name := "quarBacks", fn := fun _ => fun
  | [d1, d2] => { results := [.lit (.bool false)], args := [d1, d2] }
  | _ => none }
def QuarBacksWrongFalsely : Prop := quarBacksRow.holds Tryd.pinned (OpenSpec.ofChange quarBacksWrong)

/-- 'dumbwaiterlaw2.QuarTells': WHATEVER THE INPUT: true; the input reads as it did. -/
def quarTellsSpec : ChangeSpec := { name := "quarTells", fn := fun _ => fun
  | [d1, d2, d3, d4, d5] => { results := [.lit (.bool true)], args := [d1, d2, d3, d4, d5] }
  | _ => none }
def quarTellsRow : OpenClaim := { program := "ytinbfbcikodekaadoor", sum := "9fac9407bd4cb0f0c6d910f37b62730306d4e02d21ace95a5bd62346935b7573", func := "dumbwaiter/dumbwaiterlaw2.QuarTells", spec := "quarTells", named := ["dumbwaiter/quar.rounds"], apart := false, laid := [("dumbwaiter/quar.rounds", laid_dumbwaiter_quar_rounds)] }
def QuarTellsSaid : Prop := quarTellsRow.holds Tryd.pinned (OpenSpec.ofChange quarTellsSpec)

/-- ITS FALSE NEIGHBOUR: 'it returns false'. Refute it at one input. -/
def quarTellsWrong : ChangeSpec := { name := "quarTells", fn := fun _ => fun
  | [d1, d2, d3, d4, d5] => { results := [.lit (.bool false)], args := [d1, d2, d3, d4, d5] }
  | _ => none }
def QuarTellsWrongFalsely : Prop := quarTellsRow.holds Tryd.pinned (OpenSpec.ofChange quarTellsWrong)

/-- 'dumbwaiterlaw2.QuarTurns': WHATEVER THE INPUT: true; the input reads as it did. -/
def quarTurnsSpec : ChangeSpec := { name := "quarTurns", fn := fun _ => fun
  | [d1, d2, d3] => { results := [.lit (.bool true)], args := [d1, d2, d3] }
  | _ => none }
def quarTurnsRow : OpenClaim := { program := "ytinbfbcikodekaadoor", sum := "9fac9407bd4cb0f0c6d910f37b62730306d4e02d21ace95a5bd62346935b7573", func := "dumbwaiter/dumbwaiterlaw2.QuarTurns", spec := "quarTurns", named := ["dumbwaiter/quar.rounds"], apart := false, laid := [("dumbwaiter/quar.rounds", laid_dumbwaiter_quar_rounds)] }
def QuarTurnsSaid : Prop := quarTurnsRow.holds Tryd.pinned (OpenSpec.ofChange quarTurnsSpec)

/-- ITS FALSE NEIGHBOUR: 'it returns false'. Refute it at one input. -/
def quarTurnsWrong : ChangeSpec := { name := "quarTurns", fn := fun _ => fun
  | [d1, d2, d3] => { results := [.lit (.bool false)], args := [d1, d2, d3] }
  | _ => none }
def QuarTurnsWrongFalsely : Prop := quarTurnsRow.holds Tryd.pinned (OpenSpec.ofChange quarTurnsWrong)

/- THE SECOND FORM. 'bulk': how many values and letters a reading holds, each counted each time it is reached (what is shared counts as often as it is met; a slice's spare places count too). A statement '..UptoSaid' is the law's where the arguments, and the package variables that the reading takes, are together of bulk at most 1048576: NARROWER than '..Said'. Prove '..Said' where nothing that the law and all that it calls make is longer than what came in: it says more and counts as full. Else prove '..UptoSaid'. A law counts once. -/
mutual
def uptoBulk {H : Type} : DataW H → Nat
  | .lit (.string bytes) => bytes.length + 1
  | .lit _ => 1
  | .nil => 1
  | .ptr d => uptoBulk d + 1
  | .slice elems spare => uptoBulkAll elems + uptoBulkAll spare + 1
  | .agg parts => uptoBulkAll parts + 1
  | .iface _ d => uptoBulk d + 1
  | .map entries => uptoBulkEntries entries + 1
  | .held _ => 1
def uptoBulkAll {H : Type} : List (DataW H) → Nat
  | [] => 0
  | d :: r => uptoBulk d + uptoBulkAll r
def uptoBulkEntries {H : Type} : List (Lit × DataW H) → Nat
  | [] => 0
  | x :: r => uptoBulkEntry x + uptoBulkEntries r
def uptoBulkEntry {H : Type} : Lit × DataW H → Nat
  | (.string bytes, d) => bytes.length + uptoBulk d + 1
  | (_, d) => uptoBulk d + 1
 end
def uptoSmall : (H : Type) → List (DataW H) → Bool := fun _ ds => decide (uptoBulkAll ds ≤ 1048576)
def OpenSpec.upto (s : _root_.Go.ChangeSpec) : _root_.Go.OpenSpec := { _root_.Go.OpenSpec.ofChange s with cond := some uptoSmall }

/-- 'dumbwaiterlaw2.QuarVectors', WHERE WHAT IT READS IS OF BULK AT MOST 1048576: true; the input reads as it did. -/
def quarVectorsUptoRow : OpenClaim := { program := "ytinbfbcikodekaadoor", sum := "9fac9407bd4cb0f0c6d910f37b62730306d4e02d21ace95a5bd62346935b7573", func := "dumbwaiter/dumbwaiterlaw2.QuarVectors", spec := "quarVectors", named := ["dumbwaiter/quar.rounds"], apart := false, laid := [("dumbwaiter/quar.rounds", laid_dumbwaiter_quar_rounds)], narrowed := true }
def QuarVectorsUptoSaid : Prop := quarVectorsUptoRow.holds Tryd.pinned (OpenSpec.upto quarVectorsSpec)

/-- 'dumbwaiterlaw2.QuarBacks', WHERE WHAT IT READS IS OF BULK AT MOST 1048576: true; the input reads as it did. -/
def quarBacksUptoRow : OpenClaim := { program := "ytinbfbcikodekaadoor", sum := "9fac9407bd4cb0f0c6d910f37b62730306d4e02d21ace95a5bd62346935b7573", func := "dumbwaiter/dumbwaiterlaw2.QuarBacks", spec := "quarBacks", named := ["dumbwaiter/quar.rounds"], apart := false, laid := [("dumbwaiter/quar.rounds", laid_dumbwaiter_quar_rounds)], narrowed := true }
def QuarBacksUptoSaid : Prop := quarBacksUptoRow.holds Tryd.pinned (OpenSpec.upto quarBacksSpec)

/-- 'dumbwaiterlaw2.QuarTells', WHERE WHAT IT READS IS OF BULK AT MOST 1048576: true; the input reads as it did. -/
def quarTellsUptoRow : OpenClaim := { program := "ytinbfbcikodekaadoor", sum := "9fac9407bd4cb0f0c6d910f37b62730306d4e02d21ace95a5bd62346935b7573", func := "dumbwaiter/dumbwaiterlaw2.QuarTells", spec := "quarTells", named := ["dumbwaiter/quar.rounds"], apart := false, laid := [("dumbwaiter/quar.rounds", laid_dumbwaiter_quar_rounds)], narrowed := true }
def QuarTellsUptoSaid : Prop := quarTellsUptoRow.holds Tryd.pinned (OpenSpec.upto quarTellsSpec)

/-- 'dumbwaiterlaw2.QuarTurns', WHERE WHAT IT READS IS OF BULK AT MOST 1048576: true; the input reads as it did. -/
def quarTurnsUptoRow : OpenClaim := { program := "ytinbfbcikodekaadoor", sum := "9fac9407bd4cb0f0c6d910f37b62730306d4e02d21ace95a5bd62346935b7573", func := "dumbwaiter/dumbwaiterlaw2.QuarTurns", spec := "quarTurns", named := ["dumbwaiter/quar.rounds"], apart := false, laid := [("dumbwaiter/quar.rounds", laid_dumbwaiter_quar_rounds)], narrowed := true }
def QuarTurnsUptoSaid : Prop := quarTurnsUptoRow.holds Tryd.pinned (OpenSpec.upto quarTurnsSpec)

end Rows
end Go.Proofs.YtinbfbcikodekaaDoor
