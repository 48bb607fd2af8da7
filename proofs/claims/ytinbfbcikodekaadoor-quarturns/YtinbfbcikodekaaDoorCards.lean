/-
  DERIVED. GIVEN WITH THE SEED: THE CARDS: each row of YtinbfbcikodekaaDoorRows.lean that lists a variable, with what it lists TIED to the program's text (the seventh form; the later family's looks); each row that meets fmt, with fmt's text TOLD by the authors' own Lean function (tested against real Go, not proved from fmt's source: count such statements apart). THE CARD IS WHAT COUNTS. Prove the row's statement (the work); the ties are given (YtinbfbcikodekaaDoorTie.lean); close each card by the builder's one call (the guide's Derived/Test/ToyasCard.lean, 'card_holds'). Laid BY PROGRAM, IN A SANDBOX (cutbox-door.mjs). By AI agents, Wed Nov 11 2026. No macro, syntax, notation, axiom, sorry.
-/
import Derived.Test.YtinbfbcikodekaaDoorRows
import GoSem.ClaimSeven
namespace Go.Proofs.YtinbfbcikodekaaDoor
namespace Rows

/-- THE TIED CARD OF 'dumbwaiterlaw2.QuarVectors'. -/
def quarVectorsCard : Claim7 := { stood := { row := quarVectorsRow, standIns := [], harness := (true, "9edb059b1b4ae43f9c609be5e8e6cd3fa9704d9f132fad1fe8b189fba232791d"), looks := false }, kinds := [], alts := [], laidByText := true, laidKinds := [.data], laidTests := true, laidLooks := .later }
def QuarVectorsCardSaid : Prop := Claim7.holds Tryd.pinned (.plain (OpenSpec.ofChange quarVectorsSpec)) quarVectorsCard

/-- THE TIED CARD OF 'dumbwaiterlaw2.QuarBacks'. -/
def quarBacksCard : Claim7 := { stood := { row := quarBacksRow, standIns := [], harness := (true, "9edb059b1b4ae43f9c609be5e8e6cd3fa9704d9f132fad1fe8b189fba232791d"), looks := false }, kinds := [], alts := [], laidByText := true, laidKinds := [.data], laidTests := true, laidLooks := .later }
def QuarBacksCardSaid : Prop := Claim7.holds Tryd.pinned (.plain (OpenSpec.ofChange quarBacksSpec)) quarBacksCard

/-- THE TIED CARD OF 'dumbwaiterlaw2.QuarTells'. -/
def quarTellsCard : Claim7 := { stood := { row := quarTellsRow, standIns := [], harness := (true, "9edb059b1b4ae43f9c609be5e8e6cd3fa9704d9f132fad1fe8b189fba232791d"), looks := false }, kinds := [], alts := [], laidByText := true, laidKinds := [.data], laidTests := true, laidLooks := .later }
def QuarTellsCardSaid : Prop := Claim7.holds Tryd.pinned (.plain (OpenSpec.ofChange quarTellsSpec)) quarTellsCard

/-- THE TIED CARD OF 'dumbwaiterlaw2.QuarTurns'. -/
def quarTurnsCard : Claim7 := { stood := { row := quarTurnsRow, standIns := [], harness := (true, "9edb059b1b4ae43f9c609be5e8e6cd3fa9704d9f132fad1fe8b189fba232791d"), looks := false }, kinds := [], alts := [], laidByText := true, laidKinds := [.data], laidTests := true, laidLooks := .later }
def QuarTurnsCardSaid : Prop := Claim7.holds Tryd.pinned (.plain (OpenSpec.ofChange quarTurnsSpec)) quarTurnsCard

/-- THE SECOND FORM's CARD OF 'dumbwaiterlaw2.QuarVectors'. -/
def quarVectorsUptoCard : Claim7 := { stood := { row := quarVectorsUptoRow, standIns := [], harness := (true, "9edb059b1b4ae43f9c609be5e8e6cd3fa9704d9f132fad1fe8b189fba232791d"), looks := false }, kinds := [], alts := [], laidByText := true, laidKinds := [.data], laidTests := true, laidLooks := .later }
def QuarVectorsUptoCardSaid : Prop := Claim7.holds Tryd.pinned (.plain (OpenSpec.upto quarVectorsSpec)) quarVectorsUptoCard

/-- THE SECOND FORM's CARD OF 'dumbwaiterlaw2.QuarBacks'. -/
def quarBacksUptoCard : Claim7 := { stood := { row := quarBacksUptoRow, standIns := [], harness := (true, "9edb059b1b4ae43f9c609be5e8e6cd3fa9704d9f132fad1fe8b189fba232791d"), looks := false }, kinds := [], alts := [], laidByText := true, laidKinds := [.data], laidTests := true, laidLooks := .later }
def QuarBacksUptoCardSaid : Prop := Claim7.holds Tryd.pinned (.plain (OpenSpec.upto quarBacksSpec)) quarBacksUptoCard

/-- THE SECOND FORM's CARD OF 'dumbwaiterlaw2.QuarTells'. -/
def quarTellsUptoCard : Claim7 := { stood := { row := quarTellsUptoRow, standIns := [], harness := (true, "9edb059b1b4ae43f9c609be5e8e6cd3fa9704d9f132fad1fe8b189fba232791d"), looks := false }, kinds := [], alts := [], laidByText := true, laidKinds := [.data], laidTests := true, laidLooks := .later }
def QuarTellsUptoCardSaid : Prop := Claim7.holds Tryd.pinned (.plain (OpenSpec.upto quarTellsSpec)) quarTellsUptoCard

/-- THE SECOND FORM's CARD OF 'dumbwaiterlaw2.QuarTurns'. -/
def quarTurnsUptoCard : Claim7 := { stood := { row := quarTurnsUptoRow, standIns := [], harness := (true, "9edb059b1b4ae43f9c609be5e8e6cd3fa9704d9f132fad1fe8b189fba232791d"), looks := false }, kinds := [], alts := [], laidByText := true, laidKinds := [.data], laidTests := true, laidLooks := .later }
def QuarTurnsUptoCardSaid : Prop := Claim7.holds Tryd.pinned (.plain (OpenSpec.upto quarTurnsSpec)) quarTurnsUptoCard
end Rows
end Go.Proofs.YtinbfbcikodekaaDoor
