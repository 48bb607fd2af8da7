/-
  NARROWER THAN 'FOR EVERY INPUT', by the rows' own cells (each row's printed sentence says how): SuprRises: laid · SuprForms: laid · SuprHolds: laid · SuprPlaces: laid.
  DERIVED. THE GIVEN ROWS OF THIS SEAT. 4 by the template 'for every input the law returns true; each argument reads behind the call as it read before'; 0 by the template 'total and deterministic' (their statements: YthiinflodgjdjaaDoorTotals.lean).
  GIVEN WITH THE SEED: the statements are not yours to turn. If you find one false, say at which input.
  Laid BY PROGRAM, IN A SANDBOX (cutbox-rows.mjs): the forced cells as the released guide's own fill.sh prints them over the translation 1f52be7b77164301… (all of the seat's roots in one cut). By AI agents, Wed Nov 11 2026. No macro, syntax, notation, axiom, sorry.
-/
import Derived.Test.YthiinflodgjdjaaDoorChecked
import GoSem.Claim
import GoSem.ClaimJoined
import GoSem.ClaimMapViews
import Derived.JoinedTies
import Derived.KernelRfl
namespace Go.Proofs.YthiinflodgjdjaaDoor
/- THE CELL 'sum', in the pinned program and in every row, IS THE sha256 OF THE DUMP (.gsa) THAT YthiinflodgjdjaaDoorProg.lean LOADS. Nothing in Lean hashes anything: it is a label: what it is worth is what the hold of that sum in a sandbox is worth. -/
noncomputable def Tryd.pinned : Pinned := { name := "ythiinflodgjdjaadoor", sum := "1f52be7b771643010e7ae19f11d9ea756a6dc749e85f55999994284b7ac6ad44", checked := Tryd.checked }
namespace Rows
def none {H : Type} : Left H := { results := [], args := [] }

/- WHAT THE LISTED PACKAGE-LEVEL VARIABLES READ AS WHEN THE CALL BEGINS. Each datum BY PROGRAM (the guide's laid-datum.mjs) off the statement by which the dump's own 'gosem.cut.vars' lays the variable. In a bare row this is a premise. The card (YthiinflodgjdjaaDoorCards.lean) ties it to the program's text. -/
def laid_dumbwaiter_quar_rounds {H : Type} : DataW H := .agg [.agg [.lit (.int .i64 0), .lit (.int .i64 4), .lit (.int .i64 8), .lit (.int .i64 12)], .agg [.lit (.int .i64 1), .lit (.int .i64 5), .lit (.int .i64 9), .lit (.int .i64 13)], .agg [.lit (.int .i64 2), .lit (.int .i64 6), .lit (.int .i64 10), .lit (.int .i64 14)], .agg [.lit (.int .i64 3), .lit (.int .i64 7), .lit (.int .i64 11), .lit (.int .i64 15)], .agg [.lit (.int .i64 0), .lit (.int .i64 5), .lit (.int .i64 10), .lit (.int .i64 15)], .agg [.lit (.int .i64 1), .lit (.int .i64 6), .lit (.int .i64 11), .lit (.int .i64 12)], .agg [.lit (.int .i64 2), .lit (.int .i64 7), .lit (.int .i64 8), .lit (.int .i64 13)], .agg [.lit (.int .i64 3), .lit (.int .i64 4), .lit (.int .i64 9), .lit (.int .i64 14)]]
def laid_dumbwaiter_disk_errPower {H : Type} : DataW H := .iface "*errors.errorString" (.ptr (.agg [.lit (.string [116, 104, 101, 32, 112, 111, 119, 101, 114, 32, 119, 101, 110, 116])]))

/-- 'dumbwaiterlaw10.SuprRises': WHATEVER THE INPUT: true; the input reads as it did. -/
def suprRisesSpec : ChangeSpec := { name := "suprRises", fn := fun _ => fun
  | [d] => { results := [.lit (.bool true)], args := [d] }
  | _ => none }
def suprRisesRow : OpenClaim := { program := "ythiinflodgjdjaadoor", sum := "1f52be7b771643010e7ae19f11d9ea756a6dc749e85f55999994284b7ac6ad44", func := "dumbwaiter/dumbwaiterlaw10.SuprRises", spec := "suprRises", named := ["dumbwaiter/quar.rounds", "dumbwaiter/disk.errPower"], apart := false, laid := [("dumbwaiter/quar.rounds", laid_dumbwaiter_quar_rounds), ("dumbwaiter/disk.errPower", laid_dumbwaiter_disk_errPower)] }
def SuprRisesSaid : Prop := suprRisesRow.holds Tryd.pinned (OpenSpec.ofChange suprRisesSpec)

/-- ITS FALSE NEIGHBOUR: 'it returns false'. Refute it at one input. -/
def suprRisesWrong : ChangeSpec := { name := "suprRises", fn := fun _ => fun
  | [d] => { results := [.lit (.bool false)], args := [d] }
  | _ => none }
def SuprRisesWrongFalsely : Prop := suprRisesRow.holds Tryd.pinned (OpenSpec.ofChange suprRisesWrong)

/-- 'dumbwaiterlaw10.SuprForms': WHATEVER THE INPUT: true; the input reads as it did. -/
def suprFormsSpec : ChangeSpec := { name := "suprForms", fn := fun _ => fun
  | [d1, d2, d3] => { results := [.lit (.bool true)], args := [d1, d2, d3] }
  | _ => none }
def suprFormsRow : OpenClaim := { program := "ythiinflodgjdjaadoor", sum := "1f52be7b771643010e7ae19f11d9ea756a6dc749e85f55999994284b7ac6ad44", func := "dumbwaiter/dumbwaiterlaw10.SuprForms", spec := "suprForms", named := ["dumbwaiter/disk.errPower", "dumbwaiter/quar.rounds"], apart := false, laid := [("dumbwaiter/quar.rounds", laid_dumbwaiter_quar_rounds), ("dumbwaiter/disk.errPower", laid_dumbwaiter_disk_errPower)] }
def SuprFormsSaid : Prop := suprFormsRow.holds Tryd.pinned (OpenSpec.ofChange suprFormsSpec)

/-- ITS FALSE NEIGHBOUR: 'it returns false'. Refute it at one input. -/
def suprFormsWrong : ChangeSpec := { name := "suprForms", fn := fun _ => fun
  | [d1, d2, d3] => { results := [.lit (.bool false)], args := [d1, d2, d3] }
  | _ => none }
def SuprFormsWrongFalsely : Prop := suprFormsRow.holds Tryd.pinned (OpenSpec.ofChange suprFormsWrong)

/-- 'dumbwaiterlaw10.SuprHolds': WHATEVER THE INPUT: true; the input reads as it did. -/
def suprHoldsSpec : ChangeSpec := { name := "suprHolds", fn := fun _ => fun
  | [d1, d2, d3, d4] => { results := [.lit (.bool true)], args := [d1, d2, d3, d4] }
  | _ => none }
def suprHoldsRow : OpenClaim := { program := "ythiinflodgjdjaadoor", sum := "1f52be7b771643010e7ae19f11d9ea756a6dc749e85f55999994284b7ac6ad44", func := "dumbwaiter/dumbwaiterlaw10.SuprHolds", spec := "suprHolds", unfollowed := true, recurses := true, named := ["dumbwaiter/disk.errPower", "dumbwaiter/quar.rounds"], apart := false, laid := [("dumbwaiter/quar.rounds", laid_dumbwaiter_quar_rounds), ("dumbwaiter/disk.errPower", laid_dumbwaiter_disk_errPower)] }
def SuprHoldsSaid : Prop := suprHoldsRow.holds Tryd.pinned (OpenSpec.ofChange suprHoldsSpec)

/-- ITS FALSE NEIGHBOUR: 'it returns false'. Refute it at one input. -/
def suprHoldsWrong : ChangeSpec := { name := "suprHolds", fn := fun _ => fun
  | [d1, d2, d3, d4] => { results := [.lit (.bool false)], args := [d1, d2, d3, d4] }
  | _ => none }
def SuprHoldsWrongFalsely : Prop := suprHoldsRow.holds Tryd.pinned (OpenSpec.ofChange suprHoldsWrong)

/-- 'dumbwaiterlaw10.SuprPlaces': WHATEVER THE INPUT: true; the input reads as it did. -/
def suprPlacesSpec : ChangeSpec := { name := "suprPlaces", fn := fun _ => fun
  | [d1, d2, d3] => { results := [.lit (.bool true)], args := [d1, d2, d3] }
  | _ => none }
def suprPlacesRow : OpenClaim := { program := "ythiinflodgjdjaadoor", sum := "1f52be7b771643010e7ae19f11d9ea756a6dc749e85f55999994284b7ac6ad44", func := "dumbwaiter/dumbwaiterlaw10.SuprPlaces", spec := "suprPlaces", named := ["dumbwaiter/disk.errPower", "dumbwaiter/quar.rounds"], apart := false, laid := [("dumbwaiter/quar.rounds", laid_dumbwaiter_quar_rounds), ("dumbwaiter/disk.errPower", laid_dumbwaiter_disk_errPower)] }
def SuprPlacesSaid : Prop := suprPlacesRow.holds Tryd.pinned (OpenSpec.ofChange suprPlacesSpec)

/-- ITS FALSE NEIGHBOUR: 'it returns false'. Refute it at one input. -/
def suprPlacesWrong : ChangeSpec := { name := "suprPlaces", fn := fun _ => fun
  | [d1, d2, d3] => { results := [.lit (.bool false)], args := [d1, d2, d3] }
  | _ => none }
def SuprPlacesWrongFalsely : Prop := suprPlacesRow.holds Tryd.pinned (OpenSpec.ofChange suprPlacesWrong)

/- THE SECOND FORM. 'bulk': how many values and letters a reading holds, each counted each time it is reached (what is shared counts as often as it is met; a slice's spare places count too). A statement '..UptoSaid' is the law's where the arguments, and the package variables that the reading takes, are together of bulk at most 1048576: NARROWER than '..Said'. Prove '..Said' where nothing that the law and all that it calls make is longer than what came in: it says more and counts as full. Else prove '..UptoSaid'. A law counts once. -/
mutual
def uptoBulk {H : Type} : DataW H → Nat
  | .lit (.string bytes) => bytes.length + 1
  | .lit _ => 1
  | .nil => 1
  | .ptr d => uptoBulk d + 1
  | .slice elems spare => uptoBulkAll elems + uptoBulkAll spare + 1
  | .agg parts => uptoBulkAll parts + 1
  | .iface _ d => uptoBulk d + 1
  | .map entries => uptoBulkEntries entries + 1
  | .held _ => 1
def uptoBulkAll {H : Type} : List (DataW H) → Nat
  | [] => 0
  | d :: r => uptoBulk d + uptoBulkAll r
def uptoBulkEntries {H : Type} : List (Lit × DataW H) → Nat
  | [] => 0
  | x :: r => uptoBulkEntry x + uptoBulkEntries r
def uptoBulkEntry {H : Type} : Lit × DataW H → Nat
  | (.string bytes, d) => bytes.length + uptoBulk d + 1
  | (_, d) => uptoBulk d + 1
 end
def uptoSmall : (H : Type) → List (DataW H) → Bool := fun _ ds => decide (uptoBulkAll ds ≤ 1048576)
def OpenSpec.upto (s : _root_.Go.ChangeSpec) : _root_.Go.OpenSpec := { _root_.Go.OpenSpec.ofChange s with cond := some uptoSmall }

/-- 'dumbwaiterlaw10.SuprRises', WHERE WHAT IT READS IS OF BULK AT MOST 1048576: true; the input reads as it did. -/
def suprRisesUptoRow : OpenClaim := { program := "ythiinflodgjdjaadoor", sum := "1f52be7b771643010e7ae19f11d9ea756a6dc749e85f55999994284b7ac6ad44", func := "dumbwaiter/dumbwaiterlaw10.SuprRises", spec := "suprRises", named := ["dumbwaiter/quar.rounds", "dumbwaiter/disk.errPower"], apart := false, laid := [("dumbwaiter/quar.rounds", laid_dumbwaiter_quar_rounds), ("dumbwaiter/disk.errPower", laid_dumbwaiter_disk_errPower)], narrowed := true }
def SuprRisesUptoSaid : Prop := suprRisesUptoRow.holds Tryd.pinned (OpenSpec.upto suprRisesSpec)

/-- 'dumbwaiterlaw10.SuprForms', WHERE WHAT IT READS IS OF BULK AT MOST 1048576: true; the input reads as it did. -/
def suprFormsUptoRow : OpenClaim := { program := "ythiinflodgjdjaadoor", sum := "1f52be7b771643010e7ae19f11d9ea756a6dc749e85f55999994284b7ac6ad44", func := "dumbwaiter/dumbwaiterlaw10.SuprForms", spec := "suprForms", named := ["dumbwaiter/disk.errPower", "dumbwaiter/quar.rounds"], apart := false, laid := [("dumbwaiter/quar.rounds", laid_dumbwaiter_quar_rounds), ("dumbwaiter/disk.errPower", laid_dumbwaiter_disk_errPower)], narrowed := true }
def SuprFormsUptoSaid : Prop := suprFormsUptoRow.holds Tryd.pinned (OpenSpec.upto suprFormsSpec)

/-- 'dumbwaiterlaw10.SuprHolds', WHERE WHAT IT READS IS OF BULK AT MOST 1048576: true; the input reads as it did. -/
def suprHoldsUptoRow : OpenClaim := { program := "ythiinflodgjdjaadoor", sum := "1f52be7b771643010e7ae19f11d9ea756a6dc749e85f55999994284b7ac6ad44", func := "dumbwaiter/dumbwaiterlaw10.SuprHolds", spec := "suprHolds", unfollowed := true, recurses := true, named := ["dumbwaiter/disk.errPower", "dumbwaiter/quar.rounds"], apart := false, laid := [("dumbwaiter/quar.rounds", laid_dumbwaiter_quar_rounds), ("dumbwaiter/disk.errPower", laid_dumbwaiter_disk_errPower)], narrowed := true }
def SuprHoldsUptoSaid : Prop := suprHoldsUptoRow.holds Tryd.pinned (OpenSpec.upto suprHoldsSpec)

/-- 'dumbwaiterlaw10.SuprPlaces', WHERE WHAT IT READS IS OF BULK AT MOST 1048576: true; the input reads as it did. -/
def suprPlacesUptoRow : OpenClaim := { program := "ythiinflodgjdjaadoor", sum := "1f52be7b771643010e7ae19f11d9ea756a6dc749e85f55999994284b7ac6ad44", func := "dumbwaiter/dumbwaiterlaw10.SuprPlaces", spec := "suprPlaces", named := ["dumbwaiter/disk.errPower", "dumbwaiter/quar.rounds"], apart := false, laid := [("dumbwaiter/quar.rounds", laid_dumbwaiter_quar_rounds), ("dumbwaiter/disk.errPower", laid_dumbwaiter_disk_errPower)], narrowed := true }
def SuprPlacesUptoSaid : Prop := suprPlacesUptoRow.holds Tryd.pinned (OpenSpec.upto suprPlacesSpec)

end Rows
end Go.Proofs.YthiinflodgjdjaaDoor
