/-
  NARROWER THAN 'FOR EVERY INPUT', by the rows' own cells (each row's printed sentence says how): BootPlaces: laid · BootForms: laid · BootTells: laid · BootRises: laid.
  DERIVED. THE GIVEN ROWS OF THIS SEAT. 4 by the template 'for every input the law returns true; each argument reads behind the call as it read before'; 0 by the template 'total and deterministic' (their statements: YtgkhaedlfmloeaaDoorTotals.lean).
  GIVEN WITH THE SEED: the statements are not yours to turn. If you find one false, say at which input.
  Laid BY PROGRAM, IN A SANDBOX (cutbox-rows.mjs): the forced cells as the released guide's own fill.sh prints them over the translation 6b5070161674d91a… (all of the seat's roots in one cut). By AI agents, Wed Nov 11 2026. No macro, syntax, notation, axiom, sorry.
-/
import Derived.Test.YtgkhaedlfmloeaaDoorChecked
import GoSem.Claim
import GoSem.ClaimJoined
import GoSem.ClaimMapViews
import Derived.JoinedTies
import Derived.KernelRfl
namespace Go.Proofs.YtgkhaedlfmloeaaDoor
/- THE CELL 'sum', in the pinned program and in every row, IS THE sha256 OF THE DUMP (.gsa) THAT YtgkhaedlfmloeaaDoorProg.lean LOADS. Nothing in Lean hashes anything: it is a label: what it is worth is what the hold of that sum in a sandbox is worth. -/
noncomputable def Tryd.pinned : Pinned := { name := "ytgkhaedlfmloeaadoor", sum := "6b5070161674d91a267599a3e77eda464d2ce39267bc1d887944dc44b2c38786", checked := Tryd.checked }
namespace Rows
def none {H : Type} : Left H := { results := [], args := [] }

/- WHAT THE LISTED PACKAGE-LEVEL VARIABLES READ AS WHEN THE CALL BEGINS. Each datum BY PROGRAM (the guide's laid-datum.mjs) off the statement by which the dump's own 'gosem.cut.vars' lays the variable. In a bare row this is a premise. The card (YtgkhaedlfmloeaaDoorCards.lean) ties it to the program's text. -/
def laid_dumbwaiter_disk_errPower {H : Type} : DataW H := .iface "*errors.errorString" (.ptr (.agg [.lit (.string [116, 104, 101, 32, 112, 111, 119, 101, 114, 32, 119, 101, 110, 116])]))

/-- 'dumbwaiterlaw8.BootPlaces': WHATEVER THE INPUT: true; the input reads as it did. -/
def bootPlacesSpec : ChangeSpec := { name := "bootPlaces", fn := fun _ => fun
  | [d1, d2] => { results := [.lit (.bool true)], args := [d1, d2] }
  | _ => none }
def bootPlacesRow : OpenClaim := { program := "ytgkhaedlfmloeaadoor", sum := "6b5070161674d91a267599a3e77eda464d2ce39267bc1d887944dc44b2c38786", func := "dumbwaiter/dumbwaiterlaw8.BootPlaces", spec := "bootPlaces", named := ["dumbwaiter/disk.errPower"], apart := false, laid := [("dumbwaiter/disk.errPower", laid_dumbwaiter_disk_errPower)] }
def BootPlacesSaid : Prop := bootPlacesRow.holds Tryd.pinned (OpenSpec.ofChange bootPlacesSpec)

/-- ITS FALSE NEIGHBOUR: 'it returns false'. Refute it at one input. -/
def bootPlacesWrong : ChangeSpec := { name := "bootPlaces", fn := fun _ => fun
  | [d1, d2] => { results := [.lit (.bool false)], args := [d1, d2] }
  | _ => none }
def BootPlacesWrongFalsely : Prop := bootPlacesRow.holds Tryd.pinned (OpenSpec.ofChange bootPlacesWrong)

/-- 'dumbwaiterlaw8.BootForms': WHATEVER THE INPUT: true; the input reads as it did. -/
def bootFormsSpec : ChangeSpec := { name := "bootForms", fn := fun _ => fun
  | [d] => { results := [.lit (.bool true)], args := [d] }
  | _ => none }
def bootFormsRow : OpenClaim := { program := "ytgkhaedlfmloeaadoor", sum := "6b5070161674d91a267599a3e77eda464d2ce39267bc1d887944dc44b2c38786", func := "dumbwaiter/dumbwaiterlaw8.BootForms", spec := "bootForms", unfollowed := true, recurses := true, named := ["dumbwaiter/disk.errPower"], apart := false, laid := [("dumbwaiter/disk.errPower", laid_dumbwaiter_disk_errPower)] }
def BootFormsSaid : Prop := bootFormsRow.holds Tryd.pinned (OpenSpec.ofChange bootFormsSpec)

/-- ITS FALSE NEIGHBOUR: 'it returns false'. Refute it at one input. -/
def bootFormsWrong : ChangeSpec := { name := "bootForms", fn := fun _ => fun
  | [d] => { results := [.lit (.bool false)], args := [d] }
  | _ => none }
def BootFormsWrongFalsely : Prop := bootFormsRow.holds Tryd.pinned (OpenSpec.ofChange bootFormsWrong)

/-- 'dumbwaiterlaw8.BootTells': WHATEVER THE INPUT: true; the input reads as it did. -/
def bootTellsSpec : ChangeSpec := { name := "bootTells", fn := fun _ => fun
  | [d1, d2, d3, d4, d5] => { results := [.lit (.bool true)], args := [d1, d2, d3, d4, d5] }
  | _ => none }
def bootTellsRow : OpenClaim := { program := "ytgkhaedlfmloeaadoor", sum := "6b5070161674d91a267599a3e77eda464d2ce39267bc1d887944dc44b2c38786", func := "dumbwaiter/dumbwaiterlaw8.BootTells", spec := "bootTells", named := ["dumbwaiter/disk.errPower"], apart := false, laid := [("dumbwaiter/disk.errPower", laid_dumbwaiter_disk_errPower)] }
def BootTellsSaid : Prop := bootTellsRow.holds Tryd.pinned (OpenSpec.ofChange bootTellsSpec)

/-- ITS FALSE NEIGHBOUR: 'it returns false'. Refute it at one input. -/
def bootTellsWrong : ChangeSpec := { name := "bootTells", fn := fun _ => fun
  | [d1, d2, d3, d4, d5] => { results := [.lit (.bool false)], args := [d1, d2, d3, d4, d5] }
  | _ => none }
def BootTellsWrongFalsely : Prop := bootTellsRow.holds Tryd.pinned (OpenSpec.ofChange bootTellsWrong)

/-- 'dumbwaiterlaw8.BootRises': WHATEVER THE INPUT: true; the input reads as it did. -/
def bootRisesSpec : ChangeSpec := { name := "bootRises", fn := fun _ => fun
  | [d1, d2] => { results := [.lit (.bool true)], args := [d1, d2] }
  | _ => none }
def bootRisesRow : OpenClaim := { program := "ytgkhaedlfmloeaadoor", sum := "6b5070161674d91a267599a3e77eda464d2ce39267bc1d887944dc44b2c38786", func := "dumbwaiter/dumbwaiterlaw8.BootRises", spec := "bootRises", unfollowed := true, recurses := true, named := ["dumbwaiter/disk.errPower"], apart := false, laid := [("dumbwaiter/disk.errPower", laid_dumbwaiter_disk_errPower)] }
def BootRisesSaid : Prop := bootRisesRow.holds Tryd.pinned (OpenSpec.ofChange bootRisesSpec)

/-- ITS FALSE NEIGHBOUR: 'it returns false'. Refute it at one input. -/
def bootRisesWrong : ChangeSpec := { name := "bootRises", fn := fun _ => fun
  | [d1, d2] => { results := [.lit (.bool false)], args := [d1, d2] }
  | _ => none }
def BootRisesWrongFalsely : Prop := bootRisesRow.holds Tryd.pinned (OpenSpec.ofChange bootRisesWrong)

/- THE SECOND FORM. 'bulk': how many values and letters a reading holds, each counted each time it is reached (what is shared counts as often as it is met; a slice's spare places count too). A statement '..UptoSaid' is the law's where the arguments, and the package variables that the reading takes, are together of bulk at most 1048576: NARROWER than '..Said'. Prove '..Said' where nothing that the law and all that it calls make is longer than what came in: it says more and counts as full. Else prove '..UptoSaid'. A law counts once. -/
mutual
def uptoBulk {H : Type} : DataW H → Nat
  | .lit (.string bytes) => bytes.length + 1
  | .lit _ => 1
  | .nil => 1
  | .ptr d => uptoBulk d + 1
  | .slice elems spare => uptoBulkAll elems + uptoBulkAll spare + 1
  | .agg parts => uptoBulkAll parts + 1
  | .iface _ d => uptoBulk d + 1
  | .map entries => uptoBulkEntries entries + 1
  | .held _ => 1
def uptoBulkAll {H : Type} : List (DataW H) → Nat
  | [] => 0
  | d :: r => uptoBulk d + uptoBulkAll r
def uptoBulkEntries {H : Type} : List (Lit × DataW H) → Nat
  | [] => 0
  | x :: r => uptoBulkEntry x + uptoBulkEntries r
def uptoBulkEntry {H : Type} : Lit × DataW H → Nat
  | (.string bytes, d) => bytes.length + uptoBulk d + 1
  | (_, d) => uptoBulk d + 1
 end
def uptoSmall : (H : Type) → List (DataW H) → Bool := fun _ ds => decide (uptoBulkAll ds ≤ 1048576)
def OpenSpec.upto (s : _root_.Go.ChangeSpec) : _root_.Go.OpenSpec := { _root_.Go.OpenSpec.ofChange s with cond := some uptoSmall }

/-- 'dumbwaiterlaw8.BootPlaces', WHERE WHAT IT READS IS OF BULK AT MOST 1048576: true; the input reads as it did. -/
def bootPlacesUptoRow : OpenClaim := { program := "ytgkhaedlfmloeaadoor", sum := "6b5070161674d91a267599a3e77eda464d2ce39267bc1d887944dc44b2c38786", func := "dumbwaiter/dumbwaiterlaw8.BootPlaces", spec := "bootPlaces", named := ["dumbwaiter/disk.errPower"], apart := false, laid := [("dumbwaiter/disk.errPower", laid_dumbwaiter_disk_errPower)], narrowed := true }
def BootPlacesUptoSaid : Prop := bootPlacesUptoRow.holds Tryd.pinned (OpenSpec.upto bootPlacesSpec)

/-- 'dumbwaiterlaw8.BootForms', WHERE WHAT IT READS IS OF BULK AT MOST 1048576: true; the input reads as it did. -/
def bootFormsUptoRow : OpenClaim := { program := "ytgkhaedlfmloeaadoor", sum := "6b5070161674d91a267599a3e77eda464d2ce39267bc1d887944dc44b2c38786", func := "dumbwaiter/dumbwaiterlaw8.BootForms", spec := "bootForms", unfollowed := true, recurses := true, named := ["dumbwaiter/disk.errPower"], apart := false, laid := [("dumbwaiter/disk.errPower", laid_dumbwaiter_disk_errPower)], narrowed := true }
def BootFormsUptoSaid : Prop := bootFormsUptoRow.holds Tryd.pinned (OpenSpec.upto bootFormsSpec)

/-- 'dumbwaiterlaw8.BootTells', WHERE WHAT IT READS IS OF BULK AT MOST 1048576: true; the input reads as it did. -/
def bootTellsUptoRow : OpenClaim := { program := "ytgkhaedlfmloeaadoor", sum := "6b5070161674d91a267599a3e77eda464d2ce39267bc1d887944dc44b2c38786", func := "dumbwaiter/dumbwaiterlaw8.BootTells", spec := "bootTells", named := ["dumbwaiter/disk.errPower"], apart := false, laid := [("dumbwaiter/disk.errPower", laid_dumbwaiter_disk_errPower)], narrowed := true }
def BootTellsUptoSaid : Prop := bootTellsUptoRow.holds Tryd.pinned (OpenSpec.upto bootTellsSpec)

/-- 'dumbwaiterlaw8.BootRises', WHERE WHAT IT READS IS OF BULK AT MOST 1048576: true; the input reads as it did. -/
def bootRisesUptoRow : OpenClaim := { program := "ytgkhaedlfmloeaadoor", sum := "6b5070161674d91a267599a3e77eda464d2ce39267bc1d887944dc44b2c38786", func := "dumbwaiter/dumbwaiterlaw8.BootRises", spec := "bootRises", unfollowed := true, recurses := true, named := ["dumbwaiter/disk.errPower"], apart := false, laid := [("dumbwaiter/disk.errPower", laid_dumbwaiter_disk_errPower)], narrowed := true }
def BootRisesUptoSaid : Prop := bootRisesUptoRow.holds Tryd.pinned (OpenSpec.upto bootRisesSpec)

end Rows
end Go.Proofs.YtgkhaedlfmloeaaDoor
