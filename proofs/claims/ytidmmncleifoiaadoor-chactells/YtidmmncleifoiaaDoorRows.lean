/-
  NARROWER THAN 'FOR EVERY INPUT', by the rows' own cells (each row's printed sentence says how): ChacVectors: laid · ChacBounds: laid · ChacAdds: laid · ChacTells: laid · ChacBack: laid · ChacSums: laid.
  DERIVED. THE GIVEN ROWS OF THIS SEAT. 6 by the template 'for every input the law returns true; each argument reads behind the call as it read before'; 0 by the template 'total and deterministic' (their statements: YtidmmncleifoiaaDoorTotals.lean).
  GIVEN WITH THE SEED: the statements are not yours to turn. If you find one false, say at which input.
  Laid BY PROGRAM, IN A SANDBOX (cutbox-rows.mjs): the forced cells as the released guide's own fill.sh prints them over the translation 8ac344441b104040… (all of the seat's roots in one cut). By AI agents, Wed Nov 11 2026. No macro, syntax, notation, axiom, sorry.
-/
import Derived.Test.YtidmmncleifoiaaDoorChecked
import GoSem.Claim
import GoSem.ClaimJoined
import GoSem.ClaimMapViews
import Derived.JoinedTies
import Derived.KernelRfl
namespace Go.Proofs.YtidmmncleifoiaaDoor
/- THE CELL 'sum', in the pinned program and in every row, IS THE sha256 OF THE DUMP (.gsa) THAT YtidmmncleifoiaaDoorProg.lean LOADS. Nothing in Lean hashes anything: it is a label: what it is worth is what the hold of that sum in a sandbox is worth. -/
noncomputable def Tryd.pinned : Pinned := { name := "ytidmmncleifoiaadoor", sum := "8ac344441b1040405ae1bb08b8be83fe8bae6b26ab975a1efb2c8b806425628f", checked := Tryd.checked }
namespace Rows
def none {H : Type} : Left H := { results := [], args := [] }

/- WHAT THE LISTED PACKAGE-LEVEL VARIABLES READ AS WHEN THE CALL BEGINS. Each datum BY PROGRAM (the guide's laid-datum.mjs) off the statement by which the dump's own 'gosem.cut.vars' lays the variable. In a bare row this is a premise. The card (YtidmmncleifoiaaDoorCards.lean) ties it to the program's text. -/
def laid_dumbwaiter_quar_rounds {H : Type} : DataW H := .agg [.agg [.lit (.int .i64 0), .lit (.int .i64 4), .lit (.int .i64 8), .lit (.int .i64 12)], .agg [.lit (.int .i64 1), .lit (.int .i64 5), .lit (.int .i64 9), .lit (.int .i64 13)], .agg [.lit (.int .i64 2), .lit (.int .i64 6), .lit (.int .i64 10), .lit (.int .i64 14)], .agg [.lit (.int .i64 3), .lit (.int .i64 7), .lit (.int .i64 11), .lit (.int .i64 15)], .agg [.lit (.int .i64 0), .lit (.int .i64 5), .lit (.int .i64 10), .lit (.int .i64 15)], .agg [.lit (.int .i64 1), .lit (.int .i64 6), .lit (.int .i64 11), .lit (.int .i64 12)], .agg [.lit (.int .i64 2), .lit (.int .i64 7), .lit (.int .i64 8), .lit (.int .i64 13)], .agg [.lit (.int .i64 3), .lit (.int .i64 4), .lit (.int .i64 9), .lit (.int .i64 14)]]

/-- 'dumbwaiterlaw3.ChacVectors': WHATEVER THE INPUT: true; the input reads as it did. -/
def chacVectorsSpec : ChangeSpec := { name := "chacVectors", fn := fun _ => fun
  | [] => { results := [.lit (.bool true)], args := [] }
  | _ => none }
def chacVectorsRow : OpenClaim := { program := "ytidmmncleifoiaadoor", sum := "8ac344441b1040405ae1bb08b8be83fe8bae6b26ab975a1efb2c8b806425628f", func := "dumbwaiter/dumbwaiterlaw3.ChacVectors", spec := "chacVectors", named := ["dumbwaiter/quar.rounds"], apart := false, laid := [("dumbwaiter/quar.rounds", laid_dumbwaiter_quar_rounds)] }
def ChacVectorsSaid : Prop := chacVectorsRow.holds Tryd.pinned (OpenSpec.ofChange chacVectorsSpec)

/-- ITS FALSE NEIGHBOUR: 'it returns false'. Refute it at one input. -/
def chacVectorsWrong : ChangeSpec := { name := "chacVectors", fn := fun _ => fun
  | [] => { results := [.lit (.bool false)], args := [] }
  | _ => none }
def ChacVectorsWrongFalsely : Prop := chacVectorsRow.holds Tryd.pinned (OpenSpec.ofChange chacVectorsWrong)

/-- 'dumbwaiterlaw3.ChacBounds': WHATEVER THE INPUT: true; the input reads as it did. -/
def chacBoundsSpec : ChangeSpec := { name := "chacBounds", fn := fun _ => fun
  | [d1, d2, d3, d4] => { results := [.lit (.bool true)], args := [d1, d2, d3, d4] }
  | _ => none }
def chacBoundsRow : OpenClaim := { program := "ytidmmncleifoiaadoor", sum := "8ac344441b1040405ae1bb08b8be83fe8bae6b26ab975a1efb2c8b806425628f", func := "dumbwaiter/dumbwaiterlaw3.ChacBounds", spec := "chacBounds", named := ["dumbwaiter/quar.rounds"], apart := false, laid := [("dumbwaiter/quar.rounds", laid_dumbwaiter_quar_rounds)] }
def ChacBoundsSaid : Prop := chacBoundsRow.holds Tryd.pinned (OpenSpec.ofChange chacBoundsSpec)

/-- ITS FALSE NEIGHBOUR: 'it returns false'. Refute it at one input. -/
def chacBoundsWrong : ChangeSpec := { name := "chacBounds", fn := fun _ => fun
  | [d1, d2, d3, d4] => { results := [.lit (.bool false)], args := [d1, d2, d3, d4] }
  | _ => none }
def ChacBoundsWrongFalsely : Prop := chacBoundsRow.holds Tryd.pinned (OpenSpec.ofChange chacBoundsWrong)

/-- 'dumbwaiterlaw3.ChacAdds': WHATEVER THE INPUT: true; the input reads as it did. -/
def chacAddsSpec : ChangeSpec := { name := "chacAdds", fn := fun _ => fun
  | [d1, d2, d3, d4, d5] => { results := [.lit (.bool true)], args := [d1, d2, d3, d4, d5] }
  | _ => none }
def chacAddsRow : OpenClaim := { program := "ytidmmncleifoiaadoor", sum := "8ac344441b1040405ae1bb08b8be83fe8bae6b26ab975a1efb2c8b806425628f", func := "dumbwaiter/dumbwaiterlaw3.ChacAdds", spec := "chacAdds", named := ["dumbwaiter/quar.rounds"], apart := false, laid := [("dumbwaiter/quar.rounds", laid_dumbwaiter_quar_rounds)] }
def ChacAddsSaid : Prop := chacAddsRow.holds Tryd.pinned (OpenSpec.ofChange chacAddsSpec)

/-- ITS FALSE NEIGHBOUR: 'it returns false'. Refute it at one input. -/
def chacAddsWrong : ChangeSpec := { name := "chacAdds", fn := fun _ => fun
  | [d1, d2, d3, d4, d5] => { results := [.lit (.bool false)], args := [d1, d2, d3, d4, d5] }
  | _ => none }
def ChacAddsWrongFalsely : Prop := chacAddsRow.holds Tryd.pinned (OpenSpec.ofChange chacAddsWrong)

/-- 'dumbwaiterlaw3.ChacTells': WHATEVER THE INPUT: true; the input reads as it did. -/
def chacTellsSpec : ChangeSpec := { name := "chacTells", fn := fun _ => fun
  | [d1, d2, d3, d4] => { results := [.lit (.bool true)], args := [d1, d2, d3, d4] }
  | _ => none }
def chacTellsRow : OpenClaim := { program := "ytidmmncleifoiaadoor", sum := "8ac344441b1040405ae1bb08b8be83fe8bae6b26ab975a1efb2c8b806425628f", func := "dumbwaiter/dumbwaiterlaw3.ChacTells", spec := "chacTells", named := ["dumbwaiter/quar.rounds"], apart := false, laid := [("dumbwaiter/quar.rounds", laid_dumbwaiter_quar_rounds)] }
def ChacTellsSaid : Prop := chacTellsRow.holds Tryd.pinned (OpenSpec.ofChange chacTellsSpec)

/-- ITS FALSE NEIGHBOUR: 'it returns false'. Refute it at one input. -/
def chacTellsWrong : ChangeSpec := { name := "chacTells", fn := fun _ => fun
  | [d1, d2, d3, d4] => { results := [.lit (.bool false)], args := [d1, d2, d3, d4] }
  | _ => none }
def ChacTellsWrongFalsely : Prop := chacTellsRow.holds Tryd.pinned (OpenSpec.ofChange chacTellsWrong)

/-- 'dumbwaiterlaw3.ChacBack': WHATEVER THE INPUT: true; the input reads as it did. -/
def chacBackSpec : ChangeSpec := { name := "chacBack", fn := fun _ => fun
  | [d1, d2, d3, d4, d5] => { results := [.lit (.bool true)], args := [d1, d2, d3, d4, d5] }
  | _ => none }
def chacBackRow : OpenClaim := { program := "ytidmmncleifoiaadoor", sum := "8ac344441b1040405ae1bb08b8be83fe8bae6b26ab975a1efb2c8b806425628f", func := "dumbwaiter/dumbwaiterlaw3.ChacBack", spec := "chacBack", named := ["dumbwaiter/quar.rounds"], apart := false, laid := [("dumbwaiter/quar.rounds", laid_dumbwaiter_quar_rounds)] }
def ChacBackSaid : Prop := chacBackRow.holds Tryd.pinned (OpenSpec.ofChange chacBackSpec)

/-- ITS FALSE NEIGHBOUR: 'it returns false'. Refute it at one input. -/
def chacBackWrong : ChangeSpec := { name := "chacBack", fn := fun _ => fun
  | [d1, d2, d3, d4, d5] => { results := [.lit (.bool false)], args := [d1, d2, d3, d4, d5] }
  | _ => none }
def ChacBackWrongFalsely : Prop := chacBackRow.holds Tryd.pinned (OpenSpec.ofChange chacBackWrong)

/-- 'dumbwaiterlaw3.ChacSums': WHATEVER THE INPUT: true; the input reads as it did. -/
def chacSumsSpec : ChangeSpec := { name := "chacSums", fn := fun _ => fun
  | [d1, d2, d3] => { results := [.lit (.bool true)], args := [d1, d2, d3] }
  | _ => none }
def chacSumsRow : OpenClaim := { program := "ytidmmncleifoiaadoor", sum := "8ac344441b1040405ae1bb08b8be83fe8bae6b26ab975a1efb2c8b806425628f", func := "dumbwaiter/dumbwaiterlaw3.ChacSums", spec := "chacSums", named := ["dumbwaiter/quar.rounds"], apart := false, laid := [("dumbwaiter/quar.rounds", laid_dumbwaiter_quar_rounds)] }
def ChacSumsSaid : Prop := chacSumsRow.holds Tryd.pinned (OpenSpec.ofChange chacSumsSpec)

/-- ITS FALSE NEIGHBOUR: 'it returns false'. Refute it at one input. -/
def chacSumsWrong : ChangeSpec := { name := "chacSums", fn := fun _ => fun
  | [d1, d2, d3] => { results := [.lit (.bool false)], args := [d1, d2, d3] }
  | _ => none }
def ChacSumsWrongFalsely : Prop := chacSumsRow.holds Tryd.pinned (OpenSpec.ofChange chacSumsWrong)

/- THE SECOND FORM. 'bulk': how many values and letters a reading holds, each counted each time it is reached (what is shared counts as often as it is met; a slice's spare places count too). A statement '..UptoSaid' is the law's where the arguments, and the package variables that the reading takes, are together of bulk at most 1048576: NARROWER than '..Said'. Prove '..Said' where nothing that the law and all that it calls make is longer than what came in: it says more and counts as full. Else prove '..UptoSaid'. A law counts once. -/
mutual
def uptoBulk {H : Type} : DataW H → Nat
  | .lit (.string bytes) => bytes.length + 1
  | .lit _ => 1
  | .nil => 1
  | .ptr d => uptoBulk d + 1
  | .slice elems spare => uptoBulkAll elems + uptoBulkAll spare + 1
  | .agg parts => uptoBulkAll parts + 1
  | .iface _ d => uptoBulk d + 1
  | .map entries => uptoBulkEntries entries + 1
  | .held _ => 1
def uptoBulkAll {H : Type} : List (DataW H) → Nat
  | [] => 0
  | d :: r => uptoBulk d + uptoBulkAll r
def uptoBulkEntries {H : Type} : List (Lit × DataW H) → Nat
  | [] => 0
  | x :: r => uptoBulkEntry x + uptoBulkEntries r
def uptoBulkEntry {H : Type} : Lit × DataW H → Nat
  | (.string bytes, d) => bytes.length + uptoBulk d + 1
  | (_, d) => uptoBulk d + 1
 end
def uptoSmall : (H : Type) → List (DataW H) → Bool := fun _ ds => decide (uptoBulkAll ds ≤ 1048576)
def OpenSpec.upto (s : _root_.Go.ChangeSpec) : _root_.Go.OpenSpec := { _root_.Go.OpenSpec.ofChange s with cond := some uptoSmall }

/-- 'dumbwaiterlaw3.ChacVectors', WHERE WHAT IT READS IS OF BULK AT MOST 1048576: true; the input reads as it did. -/
def chacVectorsUptoRow : OpenClaim := { program := "ytidmmncleifoiaadoor", sum := "8ac344441b1040405ae1bb08b8be83fe8bae6b26ab975a1efb2c8b806425628f", func := "dumbwaiter/dumbwaiterlaw3.ChacVectors", spec := "chacVectors", named := ["dumbwaiter/quar.rounds"], apart := false, laid := [("dumbwaiter/quar.rounds", laid_dumbwaiter_quar_rounds)], narrowed := true }
def ChacVectorsUptoSaid : Prop := chacVectorsUptoRow.holds Tryd.pinned (OpenSpec.upto chacVectorsSpec)

/-- 'dumbwaiterlaw3.ChacBounds', WHERE WHAT IT READS IS OF BULK AT MOST 1048576: true; the input reads as it did. -/
def chacBoundsUptoRow : OpenClaim := { program := "ytidmmncleifoiaadoor", sum := "8ac344441b1040405ae1bb08b8be83fe8bae6b26ab975a1efb2c8b806425628f", func := "dumbwaiter/dumbwaiterlaw3.ChacBounds", spec := "chacBounds", named := ["dumbwaiter/quar.rounds"], apart := false, laid := [("dumbwaiter/quar.rounds", laid_dumbwaiter_quar_rounds)], narrowed := true }
def ChacBoundsUptoSaid : Prop := chacBoundsUptoRow.holds Tryd.pinned (OpenSpec.upto chacBoundsSpec)

/-- 'dumbwaiterlaw3.ChacAdds', WHERE WHAT IT READS IS OF BULK AT MOST 1048576: true; the input reads as it did. -/
def chacAddsUptoRow : OpenClaim := { program := "ytidmmncleifoiaadoor", sum := "8ac344441b1040405ae1bb08b8be83fe8bae6b26ab975a1efb2c8b806425628f", func := "dumbwaiter/dumbwaiterlaw3.ChacAdds", spec := "chacAdds", named := ["dumbwaiter/quar.rounds"], apart := false, laid := [("dumbwaiter/quar.rounds", laid_dumbwaiter_quar_rounds)], narrowed := true }
def ChacAddsUptoSaid : Prop := chacAddsUptoRow.holds Tryd.pinned (OpenSpec.upto chacAddsSpec)

/-- 'dumbwaiterlaw3.ChacTells', WHERE WHAT IT READS IS OF BULK AT MOST 1048576: true; the input reads as it did. -/
def chacTellsUptoRow : OpenClaim := { program := "ytidmmncleifoiaadoor", sum := "8ac344441b1040405ae1bb08b8be83fe8bae6b26ab975a1efb2c8b806425628f", func := "dumbwaiter/dumbwaiterlaw3.ChacTells", spec := "chacTells", named := ["dumbwaiter/quar.rounds"], apart := false, laid := [("dumbwaiter/quar.rounds", laid_dumbwaiter_quar_rounds)], narrowed := true }
def ChacTellsUptoSaid : Prop := chacTellsUptoRow.holds Tryd.pinned (OpenSpec.upto chacTellsSpec)

/-- 'dumbwaiterlaw3.ChacBack', WHERE WHAT IT READS IS OF BULK AT MOST 1048576: true; the input reads as it did. -/
def chacBackUptoRow : OpenClaim := { program := "ytidmmncleifoiaadoor", sum := "8ac344441b1040405ae1bb08b8be83fe8bae6b26ab975a1efb2c8b806425628f", func := "dumbwaiter/dumbwaiterlaw3.ChacBack", spec := "chacBack", named := ["dumbwaiter/quar.rounds"], apart := false, laid := [("dumbwaiter/quar.rounds", laid_dumbwaiter_quar_rounds)], narrowed := true }
def ChacBackUptoSaid : Prop := chacBackUptoRow.holds Tryd.pinned (OpenSpec.upto chacBackSpec)

/-- 'dumbwaiterlaw3.ChacSums', WHERE WHAT IT READS IS OF BULK AT MOST 1048576: true; the input reads as it did. -/
def chacSumsUptoRow : OpenClaim := { program := "ytidmmncleifoiaadoor", sum := "8ac344441b1040405ae1bb08b8be83fe8bae6b26ab975a1efb2c8b806425628f", func := "dumbwaiter/dumbwaiterlaw3.ChacSums", spec := "chacSums", named := ["dumbwaiter/quar.rounds"], apart := false, laid := [("dumbwaiter/quar.rounds", laid_dumbwaiter_quar_rounds)], narrowed := true }
def ChacSumsUptoSaid : Prop := chacSumsUptoRow.holds Tryd.pinned (OpenSpec.upto chacSumsSpec)

end Rows
end Go.Proofs.YtidmmncleifoiaaDoor
