/-
  NARROWER THAN 'FOR EVERY INPUT', by the rows' own cells (each row's printed sentence says how): DiskBounds: laid · DiskOwn: laid · DiskAgain: laid · DiskTells: laid · DiskStays: laid · DiskCuts: laid.
  DERIVED. THE GIVEN ROWS OF THIS SEAT. 6 by the template 'for every input the law returns true; each argument reads behind the call as it read before'; 0 by the template 'total and deterministic' (their statements: YtlicafjhkbofbaaDoorTotals.lean).
  GIVEN WITH THE SEED: the statements are not yours to turn. If you find one false, say at which input.
  Laid BY PROGRAM, IN A SANDBOX (cutbox-rows.mjs): the forced cells as the released guide's own fill.sh prints them over the translation 92ddbacaa610cce5… (all of the seat's roots in one cut). By AI agents, Wed Nov 11 2026. No macro, syntax, notation, axiom, sorry.
-/
import Derived.Test.YtlicafjhkbofbaaDoorChecked
import GoSem.Claim
import GoSem.ClaimJoined
import GoSem.ClaimMapViews
import Derived.JoinedTies
import Derived.KernelRfl
namespace Go.Proofs.YtlicafjhkbofbaaDoor
/- THE CELL 'sum', in the pinned program and in every row, IS THE sha256 OF THE DUMP (.gsa) THAT YtlicafjhkbofbaaDoorProg.lean LOADS. Nothing in Lean hashes anything: it is a label: what it is worth is what the hold of that sum in a sandbox is worth. -/
noncomputable def Tryd.pinned : Pinned := { name := "ytlicafjhkbofbaadoor", sum := "92ddbacaa610cce5ab9cd93f70b4a11fc4acd5e63400fd637864abb0e014df09", checked := Tryd.checked }
namespace Rows
def none {H : Type} : Left H := { results := [], args := [] }

/- WHAT THE LISTED PACKAGE-LEVEL VARIABLES READ AS WHEN THE CALL BEGINS. Each datum BY PROGRAM (the guide's laid-datum.mjs) off the statement by which the dump's own 'gosem.cut.vars' lays the variable. In a bare row this is a premise. The card (YtlicafjhkbofbaaDoorCards.lean) ties it to the program's text. -/
def laid_dumbwaiter_disk_errPower {H : Type} : DataW H := .iface "*errors.errorString" (.ptr (.agg [.lit (.string [116, 104, 101, 32, 112, 111, 119, 101, 114, 32, 119, 101, 110, 116])]))

/-- 'dumbwaiterlaw6.DiskBounds': WHATEVER THE INPUT: true; the input reads as it did. -/
def diskBoundsSpec : ChangeSpec := { name := "diskBounds", fn := fun _ => fun
  | [d1, d2, d3, d4] => { results := [.lit (.bool true)], args := [d1, d2, d3, d4] }
  | _ => none }
def diskBoundsRow : OpenClaim := { program := "ytlicafjhkbofbaadoor", sum := "92ddbacaa610cce5ab9cd93f70b4a11fc4acd5e63400fd637864abb0e014df09", func := "dumbwaiter/dumbwaiterlaw6.DiskBounds", spec := "diskBounds", unfollowed := true, recurses := true, named := ["dumbwaiter/disk.errPower"], apart := false, laid := [("dumbwaiter/disk.errPower", laid_dumbwaiter_disk_errPower)] }
def DiskBoundsSaid : Prop := diskBoundsRow.holds Tryd.pinned (OpenSpec.ofChange diskBoundsSpec)

/-- ITS FALSE NEIGHBOUR: 'it returns false'. Refute it at one input. -/
def diskBoundsWrong : ChangeSpec := { name := "diskBounds", fn := fun _ => fun
  | [d1, d2, d3, d4] => { results := [.lit (.bool false)], args := [d1, d2, d3, d4] }
  | _ => none }
def DiskBoundsWrongFalsely : Prop := diskBoundsRow.holds Tryd.pinned (OpenSpec.ofChange diskBoundsWrong)

/-- 'dumbwaiterlaw6.DiskOwn': WHATEVER THE INPUT: true; the input reads as it did. -/
def diskOwnSpec : ChangeSpec := { name := "diskOwn", fn := fun _ => fun
  | [d1, d2] => { results := [.lit (.bool true)], args := [d1, d2] }
  | _ => none }
def diskOwnRow : OpenClaim := { program := "ytlicafjhkbofbaadoor", sum := "92ddbacaa610cce5ab9cd93f70b4a11fc4acd5e63400fd637864abb0e014df09", func := "dumbwaiter/dumbwaiterlaw6.DiskOwn", spec := "diskOwn", unfollowed := true, recurses := true, named := ["dumbwaiter/disk.errPower"], apart := false, laid := [("dumbwaiter/disk.errPower", laid_dumbwaiter_disk_errPower)] }
def DiskOwnSaid : Prop := diskOwnRow.holds Tryd.pinned (OpenSpec.ofChange diskOwnSpec)

/-- ITS FALSE NEIGHBOUR: 'it returns false'. Refute it at one input. -/
def diskOwnWrong : ChangeSpec := { name := "diskOwn", fn := fun _ => fun
  | [d1, d2] => { results := [.lit (.bool false)], args := [d1, d2] }
  | _ => none }
def DiskOwnWrongFalsely : Prop := diskOwnRow.holds Tryd.pinned (OpenSpec.ofChange diskOwnWrong)

/-- 'dumbwaiterlaw6.DiskAgain': WHATEVER THE INPUT: true; the input reads as it did. -/
def diskAgainSpec : ChangeSpec := { name := "diskAgain", fn := fun _ => fun
  | [d] => { results := [.lit (.bool true)], args := [d] }
  | _ => none }
def diskAgainRow : OpenClaim := { program := "ytlicafjhkbofbaadoor", sum := "92ddbacaa610cce5ab9cd93f70b4a11fc4acd5e63400fd637864abb0e014df09", func := "dumbwaiter/dumbwaiterlaw6.DiskAgain", spec := "diskAgain", unfollowed := true, recurses := true, named := ["dumbwaiter/disk.errPower"], apart := false, laid := [("dumbwaiter/disk.errPower", laid_dumbwaiter_disk_errPower)] }
def DiskAgainSaid : Prop := diskAgainRow.holds Tryd.pinned (OpenSpec.ofChange diskAgainSpec)

/-- ITS FALSE NEIGHBOUR: 'it returns false'. Refute it at one input. -/
def diskAgainWrong : ChangeSpec := { name := "diskAgain", fn := fun _ => fun
  | [d] => { results := [.lit (.bool false)], args := [d] }
  | _ => none }
def DiskAgainWrongFalsely : Prop := diskAgainRow.holds Tryd.pinned (OpenSpec.ofChange diskAgainWrong)

/-- 'dumbwaiterlaw6.DiskTells': WHATEVER THE INPUT: true; the input reads as it did. -/
def diskTellsSpec : ChangeSpec := { name := "diskTells", fn := fun _ => fun
  | [d1, d2] => { results := [.lit (.bool true)], args := [d1, d2] }
  | _ => none }
def diskTellsRow : OpenClaim := { program := "ytlicafjhkbofbaadoor", sum := "92ddbacaa610cce5ab9cd93f70b4a11fc4acd5e63400fd637864abb0e014df09", func := "dumbwaiter/dumbwaiterlaw6.DiskTells", spec := "diskTells", unfollowed := true, recurses := true, named := ["dumbwaiter/disk.errPower"], apart := false, laid := [("dumbwaiter/disk.errPower", laid_dumbwaiter_disk_errPower)] }
def DiskTellsSaid : Prop := diskTellsRow.holds Tryd.pinned (OpenSpec.ofChange diskTellsSpec)

/-- ITS FALSE NEIGHBOUR: 'it returns false'. Refute it at one input. -/
def diskTellsWrong : ChangeSpec := { name := "diskTells", fn := fun _ => fun
  | [d1, d2] => { results := [.lit (.bool false)], args := [d1, d2] }
  | _ => none }
def DiskTellsWrongFalsely : Prop := diskTellsRow.holds Tryd.pinned (OpenSpec.ofChange diskTellsWrong)

/-- 'dumbwaiterlaw6.DiskStays': WHATEVER THE INPUT: true; the input reads as it did. -/
def diskStaysSpec : ChangeSpec := { name := "diskStays", fn := fun _ => fun
  | [d1, d2, d3] => { results := [.lit (.bool true)], args := [d1, d2, d3] }
  | _ => none }
def diskStaysRow : OpenClaim := { program := "ytlicafjhkbofbaadoor", sum := "92ddbacaa610cce5ab9cd93f70b4a11fc4acd5e63400fd637864abb0e014df09", func := "dumbwaiter/dumbwaiterlaw6.DiskStays", spec := "diskStays", unfollowed := true, recurses := true, named := ["dumbwaiter/disk.errPower"], apart := false, laid := [("dumbwaiter/disk.errPower", laid_dumbwaiter_disk_errPower)] }
def DiskStaysSaid : Prop := diskStaysRow.holds Tryd.pinned (OpenSpec.ofChange diskStaysSpec)

/-- ITS FALSE NEIGHBOUR: 'it returns false'. Refute it at one input. -/
def diskStaysWrong : ChangeSpec := { name := "diskStays", fn := fun _ => fun
  | [d1, d2, d3] => { results := [.lit (.bool false)], args := [d1, d2, d3] }
  | _ => none }
def DiskStaysWrongFalsely : Prop := diskStaysRow.holds Tryd.pinned (OpenSpec.ofChange diskStaysWrong)

/-- 'dumbwaiterlaw6.DiskCuts': WHATEVER THE INPUT: true; the input reads as it did. -/
def diskCutsSpec : ChangeSpec := { name := "diskCuts", fn := fun _ => fun
  | [d1, d2] => { results := [.lit (.bool true)], args := [d1, d2] }
  | _ => none }
def diskCutsRow : OpenClaim := { program := "ytlicafjhkbofbaadoor", sum := "92ddbacaa610cce5ab9cd93f70b4a11fc4acd5e63400fd637864abb0e014df09", func := "dumbwaiter/dumbwaiterlaw6.DiskCuts", spec := "diskCuts", unfollowed := true, recurses := true, named := ["dumbwaiter/disk.errPower"], apart := false, laid := [("dumbwaiter/disk.errPower", laid_dumbwaiter_disk_errPower)] }
def DiskCutsSaid : Prop := diskCutsRow.holds Tryd.pinned (OpenSpec.ofChange diskCutsSpec)

/-- ITS FALSE NEIGHBOUR: 'it returns false'. Refute it at one input. -/
def diskCutsWrong : ChangeSpec := { name := "diskCuts", fn := fun _ => fun
  | [d1, d2] => { results := [.lit (.bool false)], args := [d1, d2] }
  | _ => none }
def DiskCutsWrongFalsely : Prop := diskCutsRow.holds Tryd.pinned (OpenSpec.ofChange diskCutsWrong)

/- THE SECOND FORM. 'bulk': how many values and letters a reading holds, each counted each time it is reached (what is shared counts as often as it is met; a slice's spare places count too). A statement '..UptoSaid' is the law's where the arguments, and the package variables that the reading takes, are together of bulk at most 1048576: NARROWER than '..Said'. Prove '..Said' where nothing that the law and all that it calls make is longer than what came in: it says more and counts as full. Else prove '..UptoSaid'. A law counts once. -/
mutual
def uptoBulk {H : Type} : DataW H → Nat
  | .lit (.string bytes) => bytes.length + 1
  | .lit _ => 1
  | .nil => 1
  | .ptr d => uptoBulk d + 1
  | .slice elems spare => uptoBulkAll elems + uptoBulkAll spare + 1
  | .agg parts => uptoBulkAll parts + 1
  | .iface _ d => uptoBulk d + 1
  | .map entries => uptoBulkEntries entries + 1
  | .held _ => 1
def uptoBulkAll {H : Type} : List (DataW H) → Nat
  | [] => 0
  | d :: r => uptoBulk d + uptoBulkAll r
def uptoBulkEntries {H : Type} : List (Lit × DataW H) → Nat
  | [] => 0
  | x :: r => uptoBulkEntry x + uptoBulkEntries r
def uptoBulkEntry {H : Type} : Lit × DataW H → Nat
  | (.string bytes, d) => bytes.length + uptoBulk d + 1
  | (_, d) => uptoBulk d + 1
 end
def uptoSmall : (H : Type) → List (DataW H) → Bool := fun _ ds => decide (uptoBulkAll ds ≤ 1048576)
def OpenSpec.upto (s : _root_.Go.ChangeSpec) : _root_.Go.OpenSpec := { _root_.Go.OpenSpec.ofChange s with cond := some uptoSmall }

/-- 'dumbwaiterlaw6.DiskBounds', WHERE WHAT IT READS IS OF BULK AT MOST 1048576: true; the input reads as it did. -/
def diskBoundsUptoRow : OpenClaim := { program := "ytlicafjhkbofbaadoor", sum := "92ddbacaa610cce5ab9cd93f70b4a11fc4acd5e63400fd637864abb0e014df09", func := "dumbwaiter/dumbwaiterlaw6.DiskBounds", spec := "diskBounds", unfollowed := true, recurses := true, named := ["dumbwaiter/disk.errPower"], apart := false, laid := [("dumbwaiter/disk.errPower", laid_dumbwaiter_disk_errPower)], narrowed := true }
def DiskBoundsUptoSaid : Prop := diskBoundsUptoRow.holds Tryd.pinned (OpenSpec.upto diskBoundsSpec)

/-- 'dumbwaiterlaw6.DiskOwn', WHERE WHAT IT READS IS OF BULK AT MOST 1048576: true; the input reads as it did. -/
def diskOwnUptoRow : OpenClaim := { program := "ytlicafjhkbofbaadoor", sum := "92ddbacaa610cce5ab9cd93f70b4a11fc4acd5e63400fd637864abb0e014df09", func := "dumbwaiter/dumbwaiterlaw6.DiskOwn", spec := "diskOwn", unfollowed := true, recurses := true, named := ["dumbwaiter/disk.errPower"], apart := false, laid := [("dumbwaiter/disk.errPower", laid_dumbwaiter_disk_errPower)], narrowed := true }
def DiskOwnUptoSaid : Prop := diskOwnUptoRow.holds Tryd.pinned (OpenSpec.upto diskOwnSpec)

/-- 'dumbwaiterlaw6.DiskAgain', WHERE WHAT IT READS IS OF BULK AT MOST 1048576: true; the input reads as it did. -/
def diskAgainUptoRow : OpenClaim := { program := "ytlicafjhkbofbaadoor", sum := "92ddbacaa610cce5ab9cd93f70b4a11fc4acd5e63400fd637864abb0e014df09", func := "dumbwaiter/dumbwaiterlaw6.DiskAgain", spec := "diskAgain", unfollowed := true, recurses := true, named := ["dumbwaiter/disk.errPower"], apart := false, laid := [("dumbwaiter/disk.errPower", laid_dumbwaiter_disk_errPower)], narrowed := true }
def DiskAgainUptoSaid : Prop := diskAgainUptoRow.holds Tryd.pinned (OpenSpec.upto diskAgainSpec)

/-- 'dumbwaiterlaw6.DiskTells', WHERE WHAT IT READS IS OF BULK AT MOST 1048576: true; the input reads as it did. -/
def diskTellsUptoRow : OpenClaim := { program := "ytlicafjhkbofbaadoor", sum := "92ddbacaa610cce5ab9cd93f70b4a11fc4acd5e63400fd637864abb0e014df09", func := "dumbwaiter/dumbwaiterlaw6.DiskTells", spec := "diskTells", unfollowed := true, recurses := true, named := ["dumbwaiter/disk.errPower"], apart := false, laid := [("dumbwaiter/disk.errPower", laid_dumbwaiter_disk_errPower)], narrowed := true }
def DiskTellsUptoSaid : Prop := diskTellsUptoRow.holds Tryd.pinned (OpenSpec.upto diskTellsSpec)

/-- 'dumbwaiterlaw6.DiskStays', WHERE WHAT IT READS IS OF BULK AT MOST 1048576: true; the input reads as it did. -/
def diskStaysUptoRow : OpenClaim := { program := "ytlicafjhkbofbaadoor", sum := "92ddbacaa610cce5ab9cd93f70b4a11fc4acd5e63400fd637864abb0e014df09", func := "dumbwaiter/dumbwaiterlaw6.DiskStays", spec := "diskStays", unfollowed := true, recurses := true, named := ["dumbwaiter/disk.errPower"], apart := false, laid := [("dumbwaiter/disk.errPower", laid_dumbwaiter_disk_errPower)], narrowed := true }
def DiskStaysUptoSaid : Prop := diskStaysUptoRow.holds Tryd.pinned (OpenSpec.upto diskStaysSpec)

/-- 'dumbwaiterlaw6.DiskCuts', WHERE WHAT IT READS IS OF BULK AT MOST 1048576: true; the input reads as it did. -/
def diskCutsUptoRow : OpenClaim := { program := "ytlicafjhkbofbaadoor", sum := "92ddbacaa610cce5ab9cd93f70b4a11fc4acd5e63400fd637864abb0e014df09", func := "dumbwaiter/dumbwaiterlaw6.DiskCuts", spec := "diskCuts", unfollowed := true, recurses := true, named := ["dumbwaiter/disk.errPower"], apart := false, laid := [("dumbwaiter/disk.errPower", laid_dumbwaiter_disk_errPower)], narrowed := true }
def DiskCutsUptoSaid : Prop := diskCutsUptoRow.holds Tryd.pinned (OpenSpec.upto diskCutsSpec)

end Rows
end Go.Proofs.YtlicafjhkbofbaaDoor
