/-
  NARROWER THAN 'FOR EVERY INPUT', by the rows' own cells (each row's printed sentence says how): DrawMasks: laid · DrawTapes: laid · DrawLeaves: laid · DrawTells: laid · DrawWithin: laid.
  DERIVED. THE GIVEN ROWS OF THIS SEAT. 5 by the template 'for every input the law returns true; each argument reads behind the call as it read before'; 0 by the template 'total and deterministic' (their statements: YtpnkbdceaocbmaaDoorTotals.lean).
  GIVEN WITH THE SEED: the statements are not yours to turn. If you find one false, say at which input.
  Laid BY PROGRAM, IN A SANDBOX (cutbox-rows.mjs): the forced cells as the released guide's own fill.sh prints them over the translation efa2e1df3b7589dc… (all of the seat's roots in one cut). By AI agents, Wed Nov 11 2026. No macro, syntax, notation, axiom, sorry.
-/
import Derived.Test.YtpnkbdceaocbmaaDoorChecked
import GoSem.Claim
import GoSem.ClaimJoined
import GoSem.ClaimMapViews
import Derived.JoinedTies
import Derived.KernelRfl
namespace Go.Proofs.YtpnkbdceaocbmaaDoor
/- THE CELL 'sum', in the pinned program and in every row, IS THE sha256 OF THE DUMP (.gsa) THAT YtpnkbdceaocbmaaDoorProg.lean LOADS. Nothing in Lean hashes anything: it is a label: what it is worth is what the hold of that sum in a sandbox is worth. -/
noncomputable def Tryd.pinned : Pinned := { name := "ytpnkbdceaocbmaadoor", sum := "efa2e1df3b7589dc1721df6b7d8d33218a704fe637da62cc429f3fb32cdedc72", checked := Tryd.checked }
namespace Rows
def none {H : Type} : Left H := { results := [], args := [] }

/- WHAT THE LISTED PACKAGE-LEVEL VARIABLES READ AS WHEN THE CALL BEGINS. Each datum BY PROGRAM (the guide's laid-datum.mjs) off the statement by which the dump's own 'gosem.cut.vars' lays the variable. In a bare row this is a premise. The card (YtpnkbdceaocbmaaDoorCards.lean) ties it to the program's text. -/
def laid_dumbwaiter_quar_rounds {H : Type} : DataW H := .agg [.agg [.lit (.int .i64 0), .lit (.int .i64 4), .lit (.int .i64 8), .lit (.int .i64 12)], .agg [.lit (.int .i64 1), .lit (.int .i64 5), .lit (.int .i64 9), .lit (.int .i64 13)], .agg [.lit (.int .i64 2), .lit (.int .i64 6), .lit (.int .i64 10), .lit (.int .i64 14)], .agg [.lit (.int .i64 3), .lit (.int .i64 7), .lit (.int .i64 11), .lit (.int .i64 15)], .agg [.lit (.int .i64 0), .lit (.int .i64 5), .lit (.int .i64 10), .lit (.int .i64 15)], .agg [.lit (.int .i64 1), .lit (.int .i64 6), .lit (.int .i64 11), .lit (.int .i64 12)], .agg [.lit (.int .i64 2), .lit (.int .i64 7), .lit (.int .i64 8), .lit (.int .i64 13)], .agg [.lit (.int .i64 3), .lit (.int .i64 4), .lit (.int .i64 9), .lit (.int .i64 14)]]

/-- 'dumbwaiterlaw4.DrawMasks': WHATEVER THE INPUT: true; the input reads as it did. -/
def drawMasksSpec : ChangeSpec := { name := "drawMasks", fn := fun _ => fun
  | [d1, d2, d3, d4] => { results := [.lit (.bool true)], args := [d1, d2, d3, d4] }
  | _ => none }
def drawMasksRow : OpenClaim := { program := "ytpnkbdceaocbmaadoor", sum := "efa2e1df3b7589dc1721df6b7d8d33218a704fe637da62cc429f3fb32cdedc72", func := "dumbwaiter/dumbwaiterlaw4.DrawMasks", spec := "drawMasks", named := ["dumbwaiter/quar.rounds"], apart := false, laid := [("dumbwaiter/quar.rounds", laid_dumbwaiter_quar_rounds)] }
def DrawMasksSaid : Prop := drawMasksRow.holds Tryd.pinned (OpenSpec.ofChange drawMasksSpec)

/-- ITS FALSE NEIGHBOUR: 'it returns false'. Refute it at one input. -/
def drawMasksWrong : ChangeSpec := { name := "drawMasks", fn := fun _ => fun
  | [d1, d2, d3, d4] => { results := [.lit (.bool false)], args := [d1, d2, d3, d4] }
  | _ => none }
def DrawMasksWrongFalsely : Prop := drawMasksRow.holds Tryd.pinned (OpenSpec.ofChange drawMasksWrong)

/-- 'dumbwaiterlaw4.DrawTapes': WHATEVER THE INPUT: true; the input reads as it did. -/
def drawTapesSpec : ChangeSpec := { name := "drawTapes", fn := fun _ => fun
  | [d1, d2] => { results := [.lit (.bool true)], args := [d1, d2] }
  | _ => none }
def drawTapesRow : OpenClaim := { program := "ytpnkbdceaocbmaadoor", sum := "efa2e1df3b7589dc1721df6b7d8d33218a704fe637da62cc429f3fb32cdedc72", func := "dumbwaiter/dumbwaiterlaw4.DrawTapes", spec := "drawTapes", named := ["dumbwaiter/quar.rounds"], apart := false, laid := [("dumbwaiter/quar.rounds", laid_dumbwaiter_quar_rounds)] }
def DrawTapesSaid : Prop := drawTapesRow.holds Tryd.pinned (OpenSpec.ofChange drawTapesSpec)

/-- ITS FALSE NEIGHBOUR: 'it returns false'. Refute it at one input. -/
def drawTapesWrong : ChangeSpec := { name := "drawTapes", fn := fun _ => fun
  | [d1, d2] => { results := [.lit (.bool false)], args := [d1, d2] }
  | _ => none }
def DrawTapesWrongFalsely : Prop := drawTapesRow.holds Tryd.pinned (OpenSpec.ofChange drawTapesWrong)

/-- 'dumbwaiterlaw4.DrawLeaves': WHATEVER THE INPUT: true; the input reads as it did. -/
def drawLeavesSpec : ChangeSpec := { name := "drawLeaves", fn := fun _ => fun
  | [d1, d2, d3] => { results := [.lit (.bool true)], args := [d1, d2, d3] }
  | _ => none }
def drawLeavesRow : OpenClaim := { program := "ytpnkbdceaocbmaadoor", sum := "efa2e1df3b7589dc1721df6b7d8d33218a704fe637da62cc429f3fb32cdedc72", func := "dumbwaiter/dumbwaiterlaw4.DrawLeaves", spec := "drawLeaves", named := ["dumbwaiter/quar.rounds"], apart := false, laid := [("dumbwaiter/quar.rounds", laid_dumbwaiter_quar_rounds)] }
def DrawLeavesSaid : Prop := drawLeavesRow.holds Tryd.pinned (OpenSpec.ofChange drawLeavesSpec)

/-- ITS FALSE NEIGHBOUR: 'it returns false'. Refute it at one input. -/
def drawLeavesWrong : ChangeSpec := { name := "drawLeaves", fn := fun _ => fun
  | [d1, d2, d3] => { results := [.lit (.bool false)], args := [d1, d2, d3] }
  | _ => none }
def DrawLeavesWrongFalsely : Prop := drawLeavesRow.holds Tryd.pinned (OpenSpec.ofChange drawLeavesWrong)

/-- 'dumbwaiterlaw4.DrawTells': WHATEVER THE INPUT: true; the input reads as it did. -/
def drawTellsSpec : ChangeSpec := { name := "drawTells", fn := fun _ => fun
  | [d1, d2, d3, d4, d5] => { results := [.lit (.bool true)], args := [d1, d2, d3, d4, d5] }
  | _ => none }
def drawTellsRow : OpenClaim := { program := "ytpnkbdceaocbmaadoor", sum := "efa2e1df3b7589dc1721df6b7d8d33218a704fe637da62cc429f3fb32cdedc72", func := "dumbwaiter/dumbwaiterlaw4.DrawTells", spec := "drawTells", named := ["dumbwaiter/quar.rounds"], apart := false, laid := [("dumbwaiter/quar.rounds", laid_dumbwaiter_quar_rounds)] }
def DrawTellsSaid : Prop := drawTellsRow.holds Tryd.pinned (OpenSpec.ofChange drawTellsSpec)

/-- ITS FALSE NEIGHBOUR: 'it returns false'. Refute it at one input. -/
def drawTellsWrong : ChangeSpec := { name := "drawTells", fn := fun _ => fun
  | [d1, d2, d3, d4, d5] => { results := [.lit (.bool false)], args := [d1, d2, d3, d4, d5] }
  | _ => none }
def DrawTellsWrongFalsely : Prop := drawTellsRow.holds Tryd.pinned (OpenSpec.ofChange drawTellsWrong)

/-- 'dumbwaiterlaw4.DrawWithin': WHATEVER THE INPUT: true; the input reads as it did. -/
def drawWithinSpec : ChangeSpec := { name := "drawWithin", fn := fun _ => fun
  | [d1, d2, d3, d4] => { results := [.lit (.bool true)], args := [d1, d2, d3, d4] }
  | _ => none }
def drawWithinRow : OpenClaim := { program := "ytpnkbdceaocbmaadoor", sum := "efa2e1df3b7589dc1721df6b7d8d33218a704fe637da62cc429f3fb32cdedc72", func := "dumbwaiter/dumbwaiterlaw4.DrawWithin", spec := "drawWithin", named := ["dumbwaiter/quar.rounds"], apart := false, laid := [("dumbwaiter/quar.rounds", laid_dumbwaiter_quar_rounds)] }
def DrawWithinSaid : Prop := drawWithinRow.holds Tryd.pinned (OpenSpec.ofChange drawWithinSpec)

/-- ITS FALSE NEIGHBOUR: 'it returns false'. Refute it at one input. -/
def drawWithinWrong : ChangeSpec := { name := "drawWithin", fn := fun _ => fun
  | [d1, d2, d3, d4] => { results := [.lit (.bool false)], args := [d1, d2, d3, d4] }
  | _ => none }
def DrawWithinWrongFalsely : Prop := drawWithinRow.holds Tryd.pinned (OpenSpec.ofChange drawWithinWrong)

/- THE SECOND FORM. 'bulk': how many values and letters a reading holds, each counted each time it is reached (what is shared counts as often as it is met; a slice's spare places count too). A statement '..UptoSaid' is the law's where the arguments, and the package variables that the reading takes, are together of bulk at most 1048576: NARROWER than '..Said'. Prove '..Said' where nothing that the law and all that it calls make is longer than what came in: it says more and counts as full. Else prove '..UptoSaid'. A law counts once. -/
mutual
def uptoBulk {H : Type} : DataW H → Nat
  | .lit (.string bytes) => bytes.length + 1
  | .lit _ => 1
  | .nil => 1
  | .ptr d => uptoBulk d + 1
  | .slice elems spare => uptoBulkAll elems + uptoBulkAll spare + 1
  | .agg parts => uptoBulkAll parts + 1
  | .iface _ d => uptoBulk d + 1
  | .map entries => uptoBulkEntries entries + 1
  | .held _ => 1
def uptoBulkAll {H : Type} : List (DataW H) → Nat
  | [] => 0
  | d :: r => uptoBulk d + uptoBulkAll r
def uptoBulkEntries {H : Type} : List (Lit × DataW H) → Nat
  | [] => 0
  | x :: r => uptoBulkEntry x + uptoBulkEntries r
def uptoBulkEntry {H : Type} : Lit × DataW H → Nat
  | (.string bytes, d) => bytes.length + uptoBulk d + 1
  | (_, d) => uptoBulk d + 1
 end
def uptoSmall : (H : Type) → List (DataW H) → Bool := fun _ ds => decide (uptoBulkAll ds ≤ 1048576)
def OpenSpec.upto (s : _root_.Go.ChangeSpec) : _root_.Go.OpenSpec := { _root_.Go.OpenSpec.ofChange s with cond := some uptoSmall }

/-- 'dumbwaiterlaw4.DrawMasks', WHERE WHAT IT READS IS OF BULK AT MOST 1048576: true; the input reads as it did. -/
def drawMasksUptoRow : OpenClaim := { program := "ytpnkbdceaocbmaadoor", sum := "efa2e1df3b7589dc1721df6b7d8d33218a704fe637da62cc429f3fb32cdedc72", func := "dumbwaiter/dumbwaiterlaw4.DrawMasks", spec := "drawMasks", named := ["dumbwaiter/quar.rounds"], apart := false, laid := [("dumbwaiter/quar.rounds", laid_dumbwaiter_quar_rounds)], narrowed := true }
def DrawMasksUptoSaid : Prop := drawMasksUptoRow.holds Tryd.pinned (OpenSpec.upto drawMasksSpec)

/-- 'dumbwaiterlaw4.DrawTapes', WHERE WHAT IT READS IS OF BULK AT MOST 1048576: true; the input reads as it did. -/
def drawTapesUptoRow : OpenClaim := { program := "ytpnkbdceaocbmaadoor", sum := "efa2e1df3b7589dc1721df6b7d8d33218a704fe637da62cc429f3fb32cdedc72", func := "dumbwaiter/dumbwaiterlaw4.DrawTapes", spec := "drawTapes", named := ["dumbwaiter/quar.rounds"], apart := false, laid := [("dumbwaiter/quar.rounds", laid_dumbwaiter_quar_rounds)], narrowed := true }
def DrawTapesUptoSaid : Prop := drawTapesUptoRow.holds Tryd.pinned (OpenSpec.upto drawTapesSpec)

/-- 'dumbwaiterlaw4.DrawLeaves', WHERE WHAT IT READS IS OF BULK AT MOST 1048576: true; the input reads as it did. -/
def drawLeavesUptoRow : OpenClaim := { program := "ytpnkbdceaocbmaadoor", sum := "efa2e1df3b7589dc1721df6b7d8d33218a704fe637da62cc429f3fb32cdedc72", func := "dumbwaiter/dumbwaiterlaw4.DrawLeaves", spec := "drawLeaves", named := ["dumbwaiter/quar.rounds"], apart := false, laid := [("dumbwaiter/quar.rounds", laid_dumbwaiter_quar_rounds)], narrowed := true }
def DrawLeavesUptoSaid : Prop := drawLeavesUptoRow.holds Tryd.pinned (OpenSpec.upto drawLeavesSpec)

/-- 'dumbwaiterlaw4.DrawTells', WHERE WHAT IT READS IS OF BULK AT MOST 1048576: true; the input reads as it did. -/
def drawTellsUptoRow : OpenClaim := { program := "ytpnkbdceaocbmaadoor", sum := "efa2e1df3b7589dc1721df6b7d8d33218a704fe637da62cc429f3fb32cdedc72", func := "dumbwaiter/dumbwaiterlaw4.DrawTells", spec := "drawTells", named := ["dumbwaiter/quar.rounds"], apart := false, laid := [("dumbwaiter/quar.rounds", laid_dumbwaiter_quar_rounds)], narrowed := true }
def DrawTellsUptoSaid : Prop := drawTellsUptoRow.holds Tryd.pinned (OpenSpec.upto drawTellsSpec)

/-- 'dumbwaiterlaw4.DrawWithin', WHERE WHAT IT READS IS OF BULK AT MOST 1048576: true; the input reads as it did. -/
def drawWithinUptoRow : OpenClaim := { program := "ytpnkbdceaocbmaadoor", sum := "efa2e1df3b7589dc1721df6b7d8d33218a704fe637da62cc429f3fb32cdedc72", func := "dumbwaiter/dumbwaiterlaw4.DrawWithin", spec := "drawWithin", named := ["dumbwaiter/quar.rounds"], apart := false, laid := [("dumbwaiter/quar.rounds", laid_dumbwaiter_quar_rounds)], narrowed := true }
def DrawWithinUptoSaid : Prop := drawWithinUptoRow.holds Tryd.pinned (OpenSpec.upto drawWithinSpec)

end Rows
end Go.Proofs.YtpnkbdceaocbmaaDoor
