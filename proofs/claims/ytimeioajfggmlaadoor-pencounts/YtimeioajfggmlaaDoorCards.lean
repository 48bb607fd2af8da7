/-
  DERIVED. GIVEN WITH THE SEED: THE CARDS: each row of YtimeioajfggmlaaDoorRows.lean that lists a variable, with what it lists TIED to the program's text (the seventh form; the later family's looks); each row that meets fmt, with fmt's text TOLD by the authors' own Lean function (tested against real Go, not proved from fmt's source: count such statements apart). THE CARD IS WHAT COUNTS. Prove the row's statement (the work); the ties are given (YtimeioajfggmlaaDoorTie.lean); close each card by the builder's one call (the guide's Derived/Test/ToyasCard.lean, 'card_holds'). Laid BY PROGRAM, IN A SANDBOX (cutbox-door.mjs). By AI agents, Wed Nov 11 2026. No macro, syntax, notation, axiom, sorry.
-/
import Derived.Test.YtimeioajfggmlaaDoorRows
import GoSem.ClaimSeven
namespace Go.Proofs.YtimeioajfggmlaaDoor
namespace Rows

/-- THE TIED CARD OF 'dumbwaiterlaw9.PenCounts'. -/
def penCountsCard : Claim7 := { stood := { row := penCountsRow, standIns := [], harness := (true, "13312e4a9b566c67d1a8accfc9dac1f31327264062b92d8ca3032a9029312871"), looks := false }, kinds := [], alts := [], laidByText := true, laidKinds := [.data, .sentinel], laidTests := true, laidLooks := .later }
def PenCountsCardSaid : Prop := Claim7.holds Tryd.pinned (.plain (OpenSpec.ofChange penCountsSpec)) penCountsCard

/-- THE TIED CARD OF 'dumbwaiterlaw9.PenOthers'. -/
def penOthersCard : Claim7 := { stood := { row := penOthersRow, standIns := [], harness := (true, "13312e4a9b566c67d1a8accfc9dac1f31327264062b92d8ca3032a9029312871"), looks := false }, kinds := [], alts := [], laidByText := true, laidKinds := [.data, .sentinel], laidTests := true, laidLooks := .later }
def PenOthersCardSaid : Prop := Claim7.holds Tryd.pinned (.plain (OpenSpec.ofChange penOthersSpec)) penOthersCard

/-- THE SECOND FORM's CARD OF 'dumbwaiterlaw9.PenCounts'. -/
def penCountsUptoCard : Claim7 := { stood := { row := penCountsUptoRow, standIns := [], harness := (true, "13312e4a9b566c67d1a8accfc9dac1f31327264062b92d8ca3032a9029312871"), looks := false }, kinds := [], alts := [], laidByText := true, laidKinds := [.data, .sentinel], laidTests := true, laidLooks := .later }
def PenCountsUptoCardSaid : Prop := Claim7.holds Tryd.pinned (.plain (OpenSpec.upto penCountsSpec)) penCountsUptoCard

/-- THE SECOND FORM's CARD OF 'dumbwaiterlaw9.PenOthers'. -/
def penOthersUptoCard : Claim7 := { stood := { row := penOthersUptoRow, standIns := [], harness := (true, "13312e4a9b566c67d1a8accfc9dac1f31327264062b92d8ca3032a9029312871"), looks := false }, kinds := [], alts := [], laidByText := true, laidKinds := [.data, .sentinel], laidTests := true, laidLooks := .later }
def PenOthersUptoCardSaid : Prop := Claim7.holds Tryd.pinned (.plain (OpenSpec.upto penOthersSpec)) penOthersUptoCard
end Rows
end Go.Proofs.YtimeioajfggmlaaDoor
