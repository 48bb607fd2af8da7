/-
  No cell of these rows narrows 'for every input' (looked for: loops, veiled, ifaces, maps, wideKeys, modest, calm, conditions, laid).
  DERIVED. THE GIVEN ROWS OF THIS SEAT. 6 by the template 'for every input the law returns true; each argument reads behind the call as it read before'; 0 by the template 'total and deterministic' (their statements: YtjogkadmkohifaaTotals.lean).
  GIVEN WITH THE SEED: the statements are not yours to turn. If you find one false, say at which input.
  Laid BY PROGRAM, IN A SANDBOX (cutbox-rows.mjs): the forced cells as the released guide's own fill.sh prints them over the translation f01cf0e854ca7c38… (all of the seat's roots in one cut). By AI agents, Wed Nov 11 2026. No macro, syntax, notation, axiom, sorry.
-/
import Derived.Test.YtjogkadmkohifaaChecked
import GoSem.Claim
import GoSem.ClaimJoined
import GoSem.ClaimMapViews
import Derived.JoinedTies
import Derived.KernelRfl
namespace Go.Proofs.Ytjogkadmkohifaa
/- THE CELL 'sum', in the pinned program and in every row, IS THE sha256 OF THE DUMP (.gsa) THAT YtjogkadmkohifaaProg.lean LOADS. Nothing in Lean hashes anything: it is a label: what it is worth is what the hold of that sum in a sandbox is worth. -/
noncomputable def Try.pinned : Pinned := { name := "ytjogkadmkohifaa", sum := "f01cf0e854ca7c38c36177bfe40252f00732a4f2deace13bbcbd511a43091be3", checked := Try.checked }
namespace Rows
def none {H : Type} : Left H := { results := [], args := [] }

/-- 'dumbwaiterlaw5.FlotEdges': WHATEVER THE INPUT: true; the input reads as it did. -/
def flotEdgesSpec : ChangeSpec := { name := "flotEdges", fn := fun _ => fun
  | [d] => { results := [.lit (.bool true)], args := [d] }
  | _ => none }
def flotEdgesRow : OpenClaim := { program := "ytjogkadmkohifaa", sum := "f01cf0e854ca7c38c36177bfe40252f00732a4f2deace13bbcbd511a43091be3", func := "dumbwaiter/dumbwaiterlaw5.FlotEdges", spec := "flotEdges", inPlace := ["math.Float64frombits", "math.Float64bits"], unfollowed := true, recurses := true, apart := false }
def FlotEdgesSaid : Prop := flotEdgesRow.holds Try.pinned (OpenSpec.ofChange flotEdgesSpec)

/-- ITS FALSE NEIGHBOUR: 'it returns false'. Refute it at one input. -/
def flotEdgesWrong : ChangeSpec := { name := "flotEdges", fn := fun _ => fun
  | [d] => { results := [.lit (.bool false)], args := [d] }
  | _ => none }
def FlotEdgesWrongFalsely : Prop := flotEdgesRow.holds Try.pinned (OpenSpec.ofChange flotEdgesWrong)

/-- 'dumbwaiterlaw5.FlotRising': WHATEVER THE INPUT: true; the input reads as it did. -/
def flotRisingSpec : ChangeSpec := { name := "flotRising", fn := fun _ => fun
  | [d1, d2] => { results := [.lit (.bool true)], args := [d1, d2] }
  | _ => none }
def flotRisingRow : OpenClaim := { program := "ytjogkadmkohifaa", sum := "f01cf0e854ca7c38c36177bfe40252f00732a4f2deace13bbcbd511a43091be3", func := "dumbwaiter/dumbwaiterlaw5.FlotRising", spec := "flotRising", inPlace := ["math.Float64frombits", "math.Float64bits"], unfollowed := true, recurses := true, apart := false }
def FlotRisingSaid : Prop := flotRisingRow.holds Try.pinned (OpenSpec.ofChange flotRisingSpec)

/-- ITS FALSE NEIGHBOUR: 'it returns false'. Refute it at one input. -/
def flotRisingWrong : ChangeSpec := { name := "flotRising", fn := fun _ => fun
  | [d1, d2] => { results := [.lit (.bool false)], args := [d1, d2] }
  | _ => none }
def FlotRisingWrongFalsely : Prop := flotRisingRow.holds Try.pinned (OpenSpec.ofChange flotRisingWrong)

/-- 'dumbwaiterlaw5.FlotFills': WHATEVER THE INPUT: true; the input reads as it did. -/
def flotFillsSpec : ChangeSpec := { name := "flotFills", fn := fun _ => fun
  | [d1, d2, d3, d4] => { results := [.lit (.bool true)], args := [d1, d2, d3, d4] }
  | _ => none }
def flotFillsRow : OpenClaim := { program := "ytjogkadmkohifaa", sum := "f01cf0e854ca7c38c36177bfe40252f00732a4f2deace13bbcbd511a43091be3", func := "dumbwaiter/dumbwaiterlaw5.FlotFills", spec := "flotFills", inPlace := ["math.Float64frombits", "math.Float64bits"], unfollowed := true, recurses := true, apart := false }
def FlotFillsSaid : Prop := flotFillsRow.holds Try.pinned (OpenSpec.ofChange flotFillsSpec)

/-- ITS FALSE NEIGHBOUR: 'it returns false'. Refute it at one input. -/
def flotFillsWrong : ChangeSpec := { name := "flotFills", fn := fun _ => fun
  | [d1, d2, d3, d4] => { results := [.lit (.bool false)], args := [d1, d2, d3, d4] }
  | _ => none }
def FlotFillsWrongFalsely : Prop := flotFillsRow.holds Try.pinned (OpenSpec.ofChange flotFillsWrong)

/-- 'dumbwaiterlaw5.FlotBits': WHATEVER THE INPUT: true; the input reads as it did. -/
def flotBitsSpec : ChangeSpec := { name := "flotBits", fn := fun _ => fun
  | [d1, d2] => { results := [.lit (.bool true)], args := [d1, d2] }
  | _ => none }
def flotBitsRow : OpenClaim := { program := "ytjogkadmkohifaa", sum := "f01cf0e854ca7c38c36177bfe40252f00732a4f2deace13bbcbd511a43091be3", func := "dumbwaiter/dumbwaiterlaw5.FlotBits", spec := "flotBits", inPlace := ["math.Float64frombits", "math.Float64bits"], unfollowed := true, recurses := true, apart := false }
def FlotBitsSaid : Prop := flotBitsRow.holds Try.pinned (OpenSpec.ofChange flotBitsSpec)

/-- ITS FALSE NEIGHBOUR: 'it returns false'. Refute it at one input. -/
def flotBitsWrong : ChangeSpec := { name := "flotBits", fn := fun _ => fun
  | [d1, d2] => { results := [.lit (.bool false)], args := [d1, d2] }
  | _ => none }
def FlotBitsWrongFalsely : Prop := flotBitsRow.holds Try.pinned (OpenSpec.ofChange flotBitsWrong)

/-- 'dumbwaiterlaw5.FlotTells': WHATEVER THE INPUT: true; the input reads as it did. -/
def flotTellsSpec : ChangeSpec := { name := "flotTells", fn := fun _ => fun
  | [d1, d2, d3] => { results := [.lit (.bool true)], args := [d1, d2, d3] }
  | _ => none }
def flotTellsRow : OpenClaim := { program := "ytjogkadmkohifaa", sum := "f01cf0e854ca7c38c36177bfe40252f00732a4f2deace13bbcbd511a43091be3", func := "dumbwaiter/dumbwaiterlaw5.FlotTells", spec := "flotTells", inPlace := ["math.Float64frombits", "math.Float64bits"], unfollowed := true, recurses := true, apart := false }
def FlotTellsSaid : Prop := flotTellsRow.holds Try.pinned (OpenSpec.ofChange flotTellsSpec)

/-- ITS FALSE NEIGHBOUR: 'it returns false'. Refute it at one input. -/
def flotTellsWrong : ChangeSpec := { name := "flotTells", fn := fun _ => fun
  | [d1, d2, d3] => { results := [.lit (.bool false)], args := [d1, d2, d3] }
  | _ => none }
def FlotTellsWrongFalsely : Prop := flotTellsRow.holds Try.pinned (OpenSpec.ofChange flotTellsWrong)

/-- 'dumbwaiterlaw5.FlotOrder': WHATEVER THE INPUT: true; the input reads as it did. -/
def flotOrderSpec : ChangeSpec := { name := "flotOrder", fn := fun _ => fun
  | [d1, d2, d3] => { results := [.lit (.bool true)], args := [d1, d2, d3] }
  | _ => none }
def flotOrderRow : OpenClaim := { program := "ytjogkadmkohifaa", sum := "f01cf0e854ca7c38c36177bfe40252f00732a4f2deace13bbcbd511a43091be3", func := "dumbwaiter/dumbwaiterlaw5.FlotOrder", spec := "flotOrder", inPlace := ["math.Float64frombits", "math.Float64bits"], unfollowed := true, recurses := true, apart := false }
def FlotOrderSaid : Prop := flotOrderRow.holds Try.pinned (OpenSpec.ofChange flotOrderSpec)

/-- ITS FALSE NEIGHBOUR: 'it returns false'. Refute it at one input. -/
def flotOrderWrong : ChangeSpec := { name := "flotOrder", fn := fun _ => fun
  | [d1, d2, d3] => { results := [.lit (.bool false)], args := [d1, d2, d3] }
  | _ => none }
def FlotOrderWrongFalsely : Prop := flotOrderRow.holds Try.pinned (OpenSpec.ofChange flotOrderWrong)

/- THE SECOND FORM. 'bulk': how many values and letters a reading holds, each counted each time it is reached (what is shared counts as often as it is met; a slice's spare places count too). A statement '..UptoSaid' is the law's where the arguments, and the package variables that the reading takes, are together of bulk at most 1048576: NARROWER than '..Said'. Prove '..Said' where nothing that the law and all that it calls make is longer than what came in: it says more and counts as full. Else prove '..UptoSaid'. A law counts once. -/
mutual
def uptoBulk {H : Type} : DataW H → Nat
  | .lit (.string bytes) => bytes.length + 1
  | .lit _ => 1
  | .nil => 1
  | .ptr d => uptoBulk d + 1
  | .slice elems spare => uptoBulkAll elems + uptoBulkAll spare + 1
  | .agg parts => uptoBulkAll parts + 1
  | .iface _ d => uptoBulk d + 1
  | .map entries => uptoBulkEntries entries + 1
  | .held _ => 1
def uptoBulkAll {H : Type} : List (DataW H) → Nat
  | [] => 0
  | d :: r => uptoBulk d + uptoBulkAll r
def uptoBulkEntries {H : Type} : List (Lit × DataW H) → Nat
  | [] => 0
  | x :: r => uptoBulkEntry x + uptoBulkEntries r
def uptoBulkEntry {H : Type} : Lit × DataW H → Nat
  | (.string bytes, d) => bytes.length + uptoBulk d + 1
  | (_, d) => uptoBulk d + 1
 end
def uptoSmall : (H : Type) → List (DataW H) → Bool := fun _ ds => decide (uptoBulkAll ds ≤ 1048576)
def OpenSpec.upto (s : _root_.Go.ChangeSpec) : _root_.Go.OpenSpec := { _root_.Go.OpenSpec.ofChange s with cond := some uptoSmall }

/-- 'dumbwaiterlaw5.FlotEdges', WHERE WHAT IT READS IS OF BULK AT MOST 1048576: true; the input reads as it did. -/
def flotEdgesUptoRow : OpenClaim := { program := "ytjogkadmkohifaa", sum := "f01cf0e854ca7c38c36177bfe40252f00732a4f2deace13bbcbd511a43091be3", func := "dumbwaiter/dumbwaiterlaw5.FlotEdges", spec := "flotEdges", inPlace := ["math.Float64frombits", "math.Float64bits"], unfollowed := true, recurses := true, apart := false, narrowed := true }
def FlotEdgesUptoSaid : Prop := flotEdgesUptoRow.holds Try.pinned (OpenSpec.upto flotEdgesSpec)

/-- 'dumbwaiterlaw5.FlotRising', WHERE WHAT IT READS IS OF BULK AT MOST 1048576: true; the input reads as it did. -/
def flotRisingUptoRow : OpenClaim := { program := "ytjogkadmkohifaa", sum := "f01cf0e854ca7c38c36177bfe40252f00732a4f2deace13bbcbd511a43091be3", func := "dumbwaiter/dumbwaiterlaw5.FlotRising", spec := "flotRising", inPlace := ["math.Float64frombits", "math.Float64bits"], unfollowed := true, recurses := true, apart := false, narrowed := true }
def FlotRisingUptoSaid : Prop := flotRisingUptoRow.holds Try.pinned (OpenSpec.upto flotRisingSpec)

/-- 'dumbwaiterlaw5.FlotFills', WHERE WHAT IT READS IS OF BULK AT MOST 1048576: true; the input reads as it did. -/
def flotFillsUptoRow : OpenClaim := { program := "ytjogkadmkohifaa", sum := "f01cf0e854ca7c38c36177bfe40252f00732a4f2deace13bbcbd511a43091be3", func := "dumbwaiter/dumbwaiterlaw5.FlotFills", spec := "flotFills", inPlace := ["math.Float64frombits", "math.Float64bits"], unfollowed := true, recurses := true, apart := false, narrowed := true }
def FlotFillsUptoSaid : Prop := flotFillsUptoRow.holds Try.pinned (OpenSpec.upto flotFillsSpec)

/-- 'dumbwaiterlaw5.FlotBits', WHERE WHAT IT READS IS OF BULK AT MOST 1048576: true; the input reads as it did. -/
def flotBitsUptoRow : OpenClaim := { program := "ytjogkadmkohifaa", sum := "f01cf0e854ca7c38c36177bfe40252f00732a4f2deace13bbcbd511a43091be3", func := "dumbwaiter/dumbwaiterlaw5.FlotBits", spec := "flotBits", inPlace := ["math.Float64frombits", "math.Float64bits"], unfollowed := true, recurses := true, apart := false, narrowed := true }
def FlotBitsUptoSaid : Prop := flotBitsUptoRow.holds Try.pinned (OpenSpec.upto flotBitsSpec)

/-- 'dumbwaiterlaw5.FlotTells', WHERE WHAT IT READS IS OF BULK AT MOST 1048576: true; the input reads as it did. -/
def flotTellsUptoRow : OpenClaim := { program := "ytjogkadmkohifaa", sum := "f01cf0e854ca7c38c36177bfe40252f00732a4f2deace13bbcbd511a43091be3", func := "dumbwaiter/dumbwaiterlaw5.FlotTells", spec := "flotTells", inPlace := ["math.Float64frombits", "math.Float64bits"], unfollowed := true, recurses := true, apart := false, narrowed := true }
def FlotTellsUptoSaid : Prop := flotTellsUptoRow.holds Try.pinned (OpenSpec.upto flotTellsSpec)

/-- 'dumbwaiterlaw5.FlotOrder', WHERE WHAT IT READS IS OF BULK AT MOST 1048576: true; the input reads as it did. -/
def flotOrderUptoRow : OpenClaim := { program := "ytjogkadmkohifaa", sum := "f01cf0e854ca7c38c36177bfe40252f00732a4f2deace13bbcbd511a43091be3", func := "dumbwaiter/dumbwaiterlaw5.FlotOrder", spec := "flotOrder", inPlace := ["math.Float64frombits", "math.Float64bits"], unfollowed := true, recurses := true, apart := false, narrowed := true }
def FlotOrderUptoSaid : Prop := flotOrderUptoRow.holds Try.pinned (OpenSpec.upto flotOrderSpec)

end Rows
end Go.Proofs.Ytjogkadmkohifaa
