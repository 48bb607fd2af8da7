/-
  NARROWER THAN 'FOR EVERY INPUT', by the rows' own cells (each row's printed sentence says how): SealUnlike: laid · SealRooms: laid · SealTells: laid · SealBack: laid.
  DERIVED. THE GIVEN ROWS OF THIS SEAT. 4 by the template 'for every input the law returns true; each argument reads behind the call as it read before'; 0 by the template 'total and deterministic' (their statements: YthhaeiafgloacaaDoorTotals.lean).
  GIVEN WITH THE SEED: the statements are not yours to turn. If you find one false, say at which input.
  Laid BY PROGRAM, IN A SANDBOX (cutbox-rows.mjs): the forced cells as the released guide's own fill.sh prints them over the translation c1a5bea76e7aa84f… (all of the seat's roots in one cut). By AI agents, Wed Nov 11 2026. No macro, syntax, notation, axiom, sorry.
-/
import Derived.Test.YthhaeiafgloacaaDoorChecked
import GoSem.Claim
import GoSem.ClaimJoined
import GoSem.ClaimMapViews
import Derived.JoinedTies
import Derived.KernelRfl
namespace Go.Proofs.YthhaeiafgloacaaDoor
/- THE CELL 'sum', in the pinned program and in every row, IS THE sha256 OF THE DUMP (.gsa) THAT YthhaeiafgloacaaDoorProg.lean LOADS. Nothing in Lean hashes anything: it is a label: what it is worth is what the hold of that sum in a sandbox is worth. -/
noncomputable def Tryd.pinned : Pinned := { name := "ythhaeiafgloacaadoor", sum := "c1a5bea76e7aa84f5d3f3114ca82b2c6691e51155fa4b5cd71f3eed27a63929e", checked := Tryd.checked }
namespace Rows
def none {H : Type} : Left H := { results := [], args := [] }

/- WHAT THE LISTED PACKAGE-LEVEL VARIABLES READ AS WHEN THE CALL BEGINS. Each datum BY PROGRAM (the guide's laid-datum.mjs) off the statement by which the dump's own 'gosem.cut.vars' lays the variable. In a bare row this is a premise. The card (YthhaeiafgloacaaDoorCards.lean) ties it to the program's text. -/
def laid_dumbwaiter_quar_rounds {H : Type} : DataW H := .agg [.agg [.lit (.int .i64 0), .lit (.int .i64 4), .lit (.int .i64 8), .lit (.int .i64 12)], .agg [.lit (.int .i64 1), .lit (.int .i64 5), .lit (.int .i64 9), .lit (.int .i64 13)], .agg [.lit (.int .i64 2), .lit (.int .i64 6), .lit (.int .i64 10), .lit (.int .i64 14)], .agg [.lit (.int .i64 3), .lit (.int .i64 7), .lit (.int .i64 11), .lit (.int .i64 15)], .agg [.lit (.int .i64 0), .lit (.int .i64 5), .lit (.int .i64 10), .lit (.int .i64 15)], .agg [.lit (.int .i64 1), .lit (.int .i64 6), .lit (.int .i64 11), .lit (.int .i64 12)], .agg [.lit (.int .i64 2), .lit (.int .i64 7), .lit (.int .i64 8), .lit (.int .i64 13)], .agg [.lit (.int .i64 3), .lit (.int .i64 4), .lit (.int .i64 9), .lit (.int .i64 14)]]

/-- 'dumbwaiterlaw7.SealUnlike': WHATEVER THE INPUT: true; the input reads as it did. -/
def sealUnlikeSpec : ChangeSpec := { name := "sealUnlike", fn := fun _ => fun
  | [d1, d2, d3, d4, d5, d6, d7] => { results := [.lit (.bool true)], args := [d1, d2, d3, d4, d5, d6, d7] }
  | _ => none }
def sealUnlikeRow : OpenClaim := { program := "ythhaeiafgloacaadoor", sum := "c1a5bea76e7aa84f5d3f3114ca82b2c6691e51155fa4b5cd71f3eed27a63929e", func := "dumbwaiter/dumbwaiterlaw7.SealUnlike", spec := "sealUnlike", named := ["dumbwaiter/quar.rounds"], apart := false, laid := [("dumbwaiter/quar.rounds", laid_dumbwaiter_quar_rounds)] }
def SealUnlikeSaid : Prop := sealUnlikeRow.holds Tryd.pinned (OpenSpec.ofChange sealUnlikeSpec)

/-- ITS FALSE NEIGHBOUR: 'it returns false'. Refute it at one input. -/
def sealUnlikeWrong : ChangeSpec := { name := "sealUnlike", fn := fun _ => fun
  | [d1, d2, d3, d4, d5, d6, d7] => { results := [.lit (.bool false)], args := [d1, d2, d3, d4, d5, d6, d7] }
  | _ => none }
def SealUnlikeWrongFalsely : Prop := sealUnlikeRow.holds Tryd.pinned (OpenSpec.ofChange sealUnlikeWrong)

/-- 'dumbwaiterlaw7.SealRooms': WHATEVER THE INPUT: true; the input reads as it did. -/
def sealRoomsSpec : ChangeSpec := { name := "sealRooms", fn := fun _ => fun
  | [d1, d2, d3] => { results := [.lit (.bool true)], args := [d1, d2, d3] }
  | _ => none }
def sealRoomsRow : OpenClaim := { program := "ythhaeiafgloacaadoor", sum := "c1a5bea76e7aa84f5d3f3114ca82b2c6691e51155fa4b5cd71f3eed27a63929e", func := "dumbwaiter/dumbwaiterlaw7.SealRooms", spec := "sealRooms", named := ["dumbwaiter/quar.rounds"], apart := false, laid := [("dumbwaiter/quar.rounds", laid_dumbwaiter_quar_rounds)] }
def SealRoomsSaid : Prop := sealRoomsRow.holds Tryd.pinned (OpenSpec.ofChange sealRoomsSpec)

/-- ITS FALSE NEIGHBOUR: 'it returns false'. Refute it at one input. -/
def sealRoomsWrong : ChangeSpec := { name := "sealRooms", fn := fun _ => fun
  | [d1, d2, d3] => { results := [.lit (.bool false)], args := [d1, d2, d3] }
  | _ => none }
def SealRoomsWrongFalsely : Prop := sealRoomsRow.holds Tryd.pinned (OpenSpec.ofChange sealRoomsWrong)

/-- 'dumbwaiterlaw7.SealTells': WHATEVER THE INPUT: true; the input reads as it did. -/
def sealTellsSpec : ChangeSpec := { name := "sealTells", fn := fun _ => fun
  | [d1, d2, d3, d4, d5, d6, d7, d8] => { results := [.lit (.bool true)], args := [d1, d2, d3, d4, d5, d6, d7, d8] }
  | _ => none }
def sealTellsRow : OpenClaim := { program := "ythhaeiafgloacaadoor", sum := "c1a5bea76e7aa84f5d3f3114ca82b2c6691e51155fa4b5cd71f3eed27a63929e", func := "dumbwaiter/dumbwaiterlaw7.SealTells", spec := "sealTells", named := ["dumbwaiter/quar.rounds"], apart := false, laid := [("dumbwaiter/quar.rounds", laid_dumbwaiter_quar_rounds)] }
def SealTellsSaid : Prop := sealTellsRow.holds Tryd.pinned (OpenSpec.ofChange sealTellsSpec)

/-- ITS FALSE NEIGHBOUR: 'it returns false'. Refute it at one input. -/
def sealTellsWrong : ChangeSpec := { name := "sealTells", fn := fun _ => fun
  | [d1, d2, d3, d4, d5, d6, d7, d8] => { results := [.lit (.bool false)], args := [d1, d2, d3, d4, d5, d6, d7, d8] }
  | _ => none }
def SealTellsWrongFalsely : Prop := sealTellsRow.holds Tryd.pinned (OpenSpec.ofChange sealTellsWrong)

/-- 'dumbwaiterlaw7.SealBack': WHATEVER THE INPUT: true; the input reads as it did. -/
def sealBackSpec : ChangeSpec := { name := "sealBack", fn := fun _ => fun
  | [d1, d2, d3, d4, d5] => { results := [.lit (.bool true)], args := [d1, d2, d3, d4, d5] }
  | _ => none }
def sealBackRow : OpenClaim := { program := "ythhaeiafgloacaadoor", sum := "c1a5bea76e7aa84f5d3f3114ca82b2c6691e51155fa4b5cd71f3eed27a63929e", func := "dumbwaiter/dumbwaiterlaw7.SealBack", spec := "sealBack", named := ["dumbwaiter/quar.rounds"], apart := false, laid := [("dumbwaiter/quar.rounds", laid_dumbwaiter_quar_rounds)] }
def SealBackSaid : Prop := sealBackRow.holds Tryd.pinned (OpenSpec.ofChange sealBackSpec)

/-- ITS FALSE NEIGHBOUR: 'it returns false'. Refute it at one input. -/
def sealBackWrong : ChangeSpec := { name := "sealBack", fn := fun _ => fun
  | [d1, d2, d3, d4, d5] => { results := [.lit (.bool false)], args := [d1, d2, d3, d4, d5] }
  | _ => none }
def SealBackWrongFalsely : Prop := sealBackRow.holds Tryd.pinned (OpenSpec.ofChange sealBackWrong)

/- THE SECOND FORM. 'bulk': how many values and letters a reading holds, each counted each time it is reached (what is shared counts as often as it is met; a slice's spare places count too). A statement '..UptoSaid' is the law's where the arguments, and the package variables that the reading takes, are together of bulk at most 1048576: NARROWER than '..Said'. Prove '..Said' where nothing that the law and all that it calls make is longer than what came in: it says more and counts as full. Else prove '..UptoSaid'. A law counts once. -/
mutual
def uptoBulk {H : Type} : DataW H → Nat
  | .lit (.string bytes) => bytes.length + 1
  | .lit _ => 1
  | .nil => 1
  | .ptr d => uptoBulk d + 1
  | .slice elems spare => uptoBulkAll elems + uptoBulkAll spare + 1
  | .agg parts => uptoBulkAll parts + 1
  | .iface _ d => uptoBulk d + 1
  | .map entries => uptoBulkEntries entries + 1
  | .held _ => 1
def uptoBulkAll {H : Type} : List (DataW H) → Nat
  | [] => 0
  | d :: r => uptoBulk d + uptoBulkAll r
def uptoBulkEntries {H : Type} : List (Lit × DataW H) → Nat
  | [] => 0
  | x :: r => uptoBulkEntry x + uptoBulkEntries r
def uptoBulkEntry {H : Type} : Lit × DataW H → Nat
  | (.string bytes, d) => bytes.length + uptoBulk d + 1
  | (_, d) => uptoBulk d + 1
 end
def uptoSmall : (H : Type) → List (DataW H) → Bool := fun _ ds => decide (uptoBulkAll ds ≤ 1048576)
def OpenSpec.upto (s : _root_.Go.ChangeSpec) : _root_.Go.OpenSpec := { _root_.Go.OpenSpec.ofChange s with cond := some uptoSmall }

/-- 'dumbwaiterlaw7.SealUnlike', WHERE WHAT IT READS IS OF BULK AT MOST 1048576: true; the input reads as it did. -/
def sealUnlikeUptoRow : OpenClaim := { program := "ythhaeiafgloacaadoor", sum := "c1a5bea76e7aa84f5d3f3114ca82b2c6691e51155fa4b5cd71f3eed27a63929e", func := "dumbwaiter/dumbwaiterlaw7.SealUnlike", spec := "sealUnlike", named := ["dumbwaiter/quar.rounds"], apart := false, laid := [("dumbwaiter/quar.rounds", laid_dumbwaiter_quar_rounds)], narrowed := true }
def SealUnlikeUptoSaid : Prop := sealUnlikeUptoRow.holds Tryd.pinned (OpenSpec.upto sealUnlikeSpec)

/-- 'dumbwaiterlaw7.SealRooms', WHERE WHAT IT READS IS OF BULK AT MOST 1048576: true; the input reads as it did. -/
def sealRoomsUptoRow : OpenClaim := { program := "ythhaeiafgloacaadoor", sum := "c1a5bea76e7aa84f5d3f3114ca82b2c6691e51155fa4b5cd71f3eed27a63929e", func := "dumbwaiter/dumbwaiterlaw7.SealRooms", spec := "sealRooms", named := ["dumbwaiter/quar.rounds"], apart := false, laid := [("dumbwaiter/quar.rounds", laid_dumbwaiter_quar_rounds)], narrowed := true }
def SealRoomsUptoSaid : Prop := sealRoomsUptoRow.holds Tryd.pinned (OpenSpec.upto sealRoomsSpec)

/-- 'dumbwaiterlaw7.SealTells', WHERE WHAT IT READS IS OF BULK AT MOST 1048576: true; the input reads as it did. -/
def sealTellsUptoRow : OpenClaim := { program := "ythhaeiafgloacaadoor", sum := "c1a5bea76e7aa84f5d3f3114ca82b2c6691e51155fa4b5cd71f3eed27a63929e", func := "dumbwaiter/dumbwaiterlaw7.SealTells", spec := "sealTells", named := ["dumbwaiter/quar.rounds"], apart := false, laid := [("dumbwaiter/quar.rounds", laid_dumbwaiter_quar_rounds)], narrowed := true }
def SealTellsUptoSaid : Prop := sealTellsUptoRow.holds Tryd.pinned (OpenSpec.upto sealTellsSpec)

/-- 'dumbwaiterlaw7.SealBack', WHERE WHAT IT READS IS OF BULK AT MOST 1048576: true; the input reads as it did. -/
def sealBackUptoRow : OpenClaim := { program := "ythhaeiafgloacaadoor", sum := "c1a5bea76e7aa84f5d3f3114ca82b2c6691e51155fa4b5cd71f3eed27a63929e", func := "dumbwaiter/dumbwaiterlaw7.SealBack", spec := "sealBack", named := ["dumbwaiter/quar.rounds"], apart := false, laid := [("dumbwaiter/quar.rounds", laid_dumbwaiter_quar_rounds)], narrowed := true }
def SealBackUptoSaid : Prop := sealBackUptoRow.holds Tryd.pinned (OpenSpec.upto sealBackSpec)

end Rows
end Go.Proofs.YthhaeiafgloacaaDoor
