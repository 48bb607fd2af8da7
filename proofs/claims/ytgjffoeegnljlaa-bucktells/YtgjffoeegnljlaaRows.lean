/-
  No cell of these rows narrows 'for every input' (looked for: loops, veiled, ifaces, maps, wideKeys, modest, calm, conditions, laid).
  DERIVED. THE GIVEN ROWS OF THIS SEAT. 4 by the template 'for every input the law returns true; each argument reads behind the call as it read before'; 0 by the template 'total and deterministic' (their statements: YtgjffoeegnljlaaTotals.lean).
  GIVEN WITH THE SEED: the statements are not yours to turn. If you find one false, say at which input.
  Laid BY PROGRAM, IN A SANDBOX (cutbox-rows.mjs): the forced cells as the released guide's own fill.sh prints them over the translation ae44a1e0b856e3c8… (all of the seat's roots in one cut). By AI agents, Wed Nov 11 2026. No macro, syntax, notation, axiom, sorry.
-/
import Derived.Test.YtgjffoeegnljlaaChecked
import GoSem.Claim
import GoSem.ClaimJoined
import GoSem.ClaimMapViews
import Derived.JoinedTies
import Derived.KernelRfl
namespace Go.Proofs.Ytgjffoeegnljlaa
/- THE CELL 'sum', in the pinned program and in every row, IS THE sha256 OF THE DUMP (.gsa) THAT YtgjffoeegnljlaaProg.lean LOADS. Nothing in Lean hashes anything: it is a label: what it is worth is what the hold of that sum in a sandbox is worth. -/
noncomputable def Try.pinned : Pinned := { name := "ytgjffoeegnljlaa", sum := "ae44a1e0b856e3c80a208a3793cdf0852a8103904f2b0ac62119b4ffdcde94e0", checked := Try.checked }
namespace Rows
def none {H : Type} : Left H := { results := [], args := [] }

/-- 'dumbwaiterlaw14.BuckForms': WHATEVER THE INPUT: true; the input reads as it did. -/
def buckFormsSpec : ChangeSpec := { name := "buckForms", fn := fun _ => fun
  | [d] => { results := [.lit (.bool true)], args := [d] }
  | _ => none }
def buckFormsRow : OpenClaim := { program := "ytgjffoeegnljlaa", sum := "ae44a1e0b856e3c80a208a3793cdf0852a8103904f2b0ac62119b4ffdcde94e0", func := "dumbwaiter/dumbwaiterlaw14.BuckForms", spec := "buckForms", unfollowed := true, recurses := true, apart := false }
def BuckFormsSaid : Prop := buckFormsRow.holds Try.pinned (OpenSpec.ofChange buckFormsSpec)

/-- ITS FALSE NEIGHBOUR: 'it returns false'. Refute it at one input. -/
def buckFormsWrong : ChangeSpec := { name := "buckForms", fn := fun _ => fun
  | [d] => { results := [.lit (.bool false)], args := [d] }
  | _ => none }
def BuckFormsWrongFalsely : Prop := buckFormsRow.holds Try.pinned (OpenSpec.ofChange buckFormsWrong)

/-- 'dumbwaiterlaw14.BuckTurned': WHATEVER THE INPUT: true; the input reads as it did. -/
def buckTurnedSpec : ChangeSpec := { name := "buckTurned", fn := fun _ => fun
  | [d1, d2, d3, d4] => { results := [.lit (.bool true)], args := [d1, d2, d3, d4] }
  | _ => none }
def buckTurnedRow : OpenClaim := { program := "ytgjffoeegnljlaa", sum := "ae44a1e0b856e3c80a208a3793cdf0852a8103904f2b0ac62119b4ffdcde94e0", func := "dumbwaiter/dumbwaiterlaw14.BuckTurned", spec := "buckTurned", apart := false }
def BuckTurnedSaid : Prop := buckTurnedRow.holds Try.pinned (OpenSpec.ofChange buckTurnedSpec)

/-- ITS FALSE NEIGHBOUR: 'it returns false'. Refute it at one input. -/
def buckTurnedWrong : ChangeSpec := { name := "buckTurned", fn := fun _ => fun
  | [d1, d2, d3, d4] => { results := [.lit (.bool false)], args := [d1, d2, d3, d4] }
  | _ => none }
def BuckTurnedWrongFalsely : Prop := buckTurnedRow.holds Try.pinned (OpenSpec.ofChange buckTurnedWrong)

/-- 'dumbwaiterlaw14.BuckTells': WHATEVER THE INPUT: true; the input reads as it did. -/
def buckTellsSpec : ChangeSpec := { name := "buckTells", fn := fun _ => fun
  | [d1, d2, d3, d4, d5, d6] => { results := [.lit (.bool true)], args := [d1, d2, d3, d4, d5, d6] }
  | _ => none }
def buckTellsRow : OpenClaim := { program := "ytgjffoeegnljlaa", sum := "ae44a1e0b856e3c80a208a3793cdf0852a8103904f2b0ac62119b4ffdcde94e0", func := "dumbwaiter/dumbwaiterlaw14.BuckTells", spec := "buckTells", apart := false }
def BuckTellsSaid : Prop := buckTellsRow.holds Try.pinned (OpenSpec.ofChange buckTellsSpec)

/-- ITS FALSE NEIGHBOUR: 'it returns false'. Refute it at one input. -/
def buckTellsWrong : ChangeSpec := { name := "buckTells", fn := fun _ => fun
  | [d1, d2, d3, d4, d5, d6] => { results := [.lit (.bool false)], args := [d1, d2, d3, d4, d5, d6] }
  | _ => none }
def BuckTellsWrongFalsely : Prop := buckTellsRow.holds Try.pinned (OpenSpec.ofChange buckTellsWrong)

/-- 'dumbwaiterlaw14.BuckBack': WHATEVER THE INPUT: true; the input reads as it did. -/
def buckBackSpec : ChangeSpec := { name := "buckBack", fn := fun _ => fun
  | [d1, d2, d3] => { results := [.lit (.bool true)], args := [d1, d2, d3] }
  | _ => none }
def buckBackRow : OpenClaim := { program := "ytgjffoeegnljlaa", sum := "ae44a1e0b856e3c80a208a3793cdf0852a8103904f2b0ac62119b4ffdcde94e0", func := "dumbwaiter/dumbwaiterlaw14.BuckBack", spec := "buckBack", apart := false }
def BuckBackSaid : Prop := buckBackRow.holds Try.pinned (OpenSpec.ofChange buckBackSpec)

/-- ITS FALSE NEIGHBOUR: 'it returns false'. Refute it at one input. -/
def buckBackWrong : ChangeSpec := { name := "buckBack", fn := fun _ => fun
  | [d1, d2, d3] => { results := [.lit (.bool false)], args := [d1, d2, d3] }
  | _ => none }
def BuckBackWrongFalsely : Prop := buckBackRow.holds Try.pinned (OpenSpec.ofChange buckBackWrong)

/- THE SECOND FORM. 'bulk': how many values and letters a reading holds, each counted each time it is reached (what is shared counts as often as it is met; a slice's spare places count too). A statement '..UptoSaid' is the law's where the arguments, and the package variables that the reading takes, are together of bulk at most 1048576: NARROWER than '..Said'. Prove '..Said' where nothing that the law and all that it calls make is longer than what came in: it says more and counts as full. Else prove '..UptoSaid'. A law counts once. -/
mutual
def uptoBulk {H : Type} : DataW H → Nat
  | .lit (.string bytes) => bytes.length + 1
  | .lit _ => 1
  | .nil => 1
  | .ptr d => uptoBulk d + 1
  | .slice elems spare => uptoBulkAll elems + uptoBulkAll spare + 1
  | .agg parts => uptoBulkAll parts + 1
  | .iface _ d => uptoBulk d + 1
  | .map entries => uptoBulkEntries entries + 1
  | .held _ => 1
def uptoBulkAll {H : Type} : List (DataW H) → Nat
  | [] => 0
  | d :: r => uptoBulk d + uptoBulkAll r
def uptoBulkEntries {H : Type} : List (Lit × DataW H) → Nat
  | [] => 0
  | x :: r => uptoBulkEntry x + uptoBulkEntries r
def uptoBulkEntry {H : Type} : Lit × DataW H → Nat
  | (.string bytes, d) => bytes.length + uptoBulk d + 1
  | (_, d) => uptoBulk d + 1
 end
def uptoSmall : (H : Type) → List (DataW H) → Bool := fun _ ds => decide (uptoBulkAll ds ≤ 1048576)
def OpenSpec.upto (s : _root_.Go.ChangeSpec) : _root_.Go.OpenSpec := { _root_.Go.OpenSpec.ofChange s with cond := some uptoSmall }

/-- 'dumbwaiterlaw14.BuckForms', WHERE WHAT IT READS IS OF BULK AT MOST 1048576: true; the input reads as it did. -/
def buckFormsUptoRow : OpenClaim := { program := "ytgjffoeegnljlaa", sum := "ae44a1e0b856e3c80a208a3793cdf0852a8103904f2b0ac62119b4ffdcde94e0", func := "dumbwaiter/dumbwaiterlaw14.BuckForms", spec := "buckForms", unfollowed := true, recurses := true, apart := false, narrowed := true }
def BuckFormsUptoSaid : Prop := buckFormsUptoRow.holds Try.pinned (OpenSpec.upto buckFormsSpec)

/-- 'dumbwaiterlaw14.BuckTurned', WHERE WHAT IT READS IS OF BULK AT MOST 1048576: true; the input reads as it did. -/
def buckTurnedUptoRow : OpenClaim := { program := "ytgjffoeegnljlaa", sum := "ae44a1e0b856e3c80a208a3793cdf0852a8103904f2b0ac62119b4ffdcde94e0", func := "dumbwaiter/dumbwaiterlaw14.BuckTurned", spec := "buckTurned", apart := false, narrowed := true }
def BuckTurnedUptoSaid : Prop := buckTurnedUptoRow.holds Try.pinned (OpenSpec.upto buckTurnedSpec)

/-- 'dumbwaiterlaw14.BuckTells', WHERE WHAT IT READS IS OF BULK AT MOST 1048576: true; the input reads as it did. -/
def buckTellsUptoRow : OpenClaim := { program := "ytgjffoeegnljlaa", sum := "ae44a1e0b856e3c80a208a3793cdf0852a8103904f2b0ac62119b4ffdcde94e0", func := "dumbwaiter/dumbwaiterlaw14.BuckTells", spec := "buckTells", apart := false, narrowed := true }
def BuckTellsUptoSaid : Prop := buckTellsUptoRow.holds Try.pinned (OpenSpec.upto buckTellsSpec)

/-- 'dumbwaiterlaw14.BuckBack', WHERE WHAT IT READS IS OF BULK AT MOST 1048576: true; the input reads as it did. -/
def buckBackUptoRow : OpenClaim := { program := "ytgjffoeegnljlaa", sum := "ae44a1e0b856e3c80a208a3793cdf0852a8103904f2b0ac62119b4ffdcde94e0", func := "dumbwaiter/dumbwaiterlaw14.BuckBack", spec := "buckBack", apart := false, narrowed := true }
def BuckBackUptoSaid : Prop := buckBackUptoRow.holds Try.pinned (OpenSpec.upto buckBackSpec)

end Rows
end Go.Proofs.Ytgjffoeegnljlaa
