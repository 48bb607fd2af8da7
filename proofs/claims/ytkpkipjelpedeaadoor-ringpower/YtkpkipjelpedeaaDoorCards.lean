/-
  DERIVED. GIVEN WITH THE SEED: THE CARDS: each row of YtkpkipjelpedeaaDoorRows.lean that lists a variable, with what it lists TIED to the program's text (the seventh form; the later family's looks); each row that meets fmt, with fmt's text TOLD by the authors' own Lean function (tested against real Go, not proved from fmt's source: count such statements apart). THE CARD IS WHAT COUNTS. Prove the row's statement (the work); the ties are given (YtkpkipjelpedeaaDoorTie.lean); close each card by the builder's one call (the guide's Derived/Test/ToyasCard.lean, 'card_holds'). Laid BY PROGRAM, IN A SANDBOX (cutbox-door.mjs). By AI agents, Wed Nov 11 2026. No macro, syntax, notation, axiom, sorry.
-/
import Derived.Test.YtkpkipjelpedeaaDoorRows
import GoSem.ClaimSeven
namespace Go.Proofs.YtkpkipjelpedeaaDoor
namespace Rows

/-- THE TIED CARD OF 'dumbwaiterlaw11.RingSteps'. -/
def ringStepsCard : Claim7 := { stood := { row := ringStepsRow, standIns := [], harness := (true, "6a6c2f5ae71df9bade08767d89ef800793e005520ab1000b2f3d092f95f0433c"), looks := true }, kinds := [], alts := [], laidByText := true, laidKinds := [.data, .sentinel], laidTests := true, laidLooks := .later }
def RingStepsCardSaid : Prop := Claim7.holds Tryd.pinned (.plain (OpenSpec.ofChange ringStepsSpec)) ringStepsCard

/-- THE TIED CARD OF 'dumbwaiterlaw11.RingForms'. -/
def ringFormsCard : Claim7 := { stood := { row := ringFormsRow, standIns := [], harness := (true, "6a6c2f5ae71df9bade08767d89ef800793e005520ab1000b2f3d092f95f0433c"), looks := true }, kinds := [], alts := [], laidByText := true, laidKinds := [.data, .sentinel], laidTests := true, laidLooks := .later }
def RingFormsCardSaid : Prop := Claim7.holds Tryd.pinned (.plain (OpenSpec.ofChange ringFormsSpec)) ringFormsCard

/-- THE TIED CARD OF 'dumbwaiterlaw11.RingPlays'. -/
def ringPlaysCard : Claim7 := { stood := { row := ringPlaysRow, standIns := [], harness := (true, "6a6c2f5ae71df9bade08767d89ef800793e005520ab1000b2f3d092f95f0433c"), looks := true }, kinds := [], alts := [], laidByText := true, laidKinds := [.data, .sentinel], laidTests := true, laidLooks := .later }
def RingPlaysCardSaid : Prop := Claim7.holds Tryd.pinned (.plain (OpenSpec.ofChange ringPlaysSpec)) ringPlaysCard

/-- THE TIED CARD OF 'dumbwaiterlaw11.RingPower'. -/
def ringPowerCard : Claim7 := { stood := { row := ringPowerRow, standIns := [], harness := (true, "6a6c2f5ae71df9bade08767d89ef800793e005520ab1000b2f3d092f95f0433c"), looks := true }, kinds := [], alts := [], laidByText := true, laidKinds := [.data, .sentinel], laidTests := true, laidLooks := .later }
def RingPowerCardSaid : Prop := Claim7.holds Tryd.pinned (.plain (OpenSpec.ofChange ringPowerSpec)) ringPowerCard

/-- THE SECOND FORM's CARD OF 'dumbwaiterlaw11.RingSteps'. -/
def ringStepsUptoCard : Claim7 := { stood := { row := ringStepsUptoRow, standIns := [], harness := (true, "6a6c2f5ae71df9bade08767d89ef800793e005520ab1000b2f3d092f95f0433c"), looks := true }, kinds := [], alts := [], laidByText := true, laidKinds := [.data, .sentinel], laidTests := true, laidLooks := .later }
def RingStepsUptoCardSaid : Prop := Claim7.holds Tryd.pinned (.plain (OpenSpec.upto ringStepsSpec)) ringStepsUptoCard

/-- THE SECOND FORM's CARD OF 'dumbwaiterlaw11.RingForms'. -/
def ringFormsUptoCard : Claim7 := { stood := { row := ringFormsUptoRow, standIns := [], harness := (true, "6a6c2f5ae71df9bade08767d89ef800793e005520ab1000b2f3d092f95f0433c"), looks := true }, kinds := [], alts := [], laidByText := true, laidKinds := [.data, .sentinel], laidTests := true, laidLooks := .later }
def RingFormsUptoCardSaid : Prop := Claim7.holds Tryd.pinned (.plain (OpenSpec.upto ringFormsSpec)) ringFormsUptoCard

/-- THE SECOND FORM's CARD OF 'dumbwaiterlaw11.RingPlays'. -/
def ringPlaysUptoCard : Claim7 := { stood := { row := ringPlaysUptoRow, standIns := [], harness := (true, "6a6c2f5ae71df9bade08767d89ef800793e005520ab1000b2f3d092f95f0433c"), looks := true }, kinds := [], alts := [], laidByText := true, laidKinds := [.data, .sentinel], laidTests := true, laidLooks := .later }
def RingPlaysUptoCardSaid : Prop := Claim7.holds Tryd.pinned (.plain (OpenSpec.upto ringPlaysSpec)) ringPlaysUptoCard

/-- THE SECOND FORM's CARD OF 'dumbwaiterlaw11.RingPower'. -/
def ringPowerUptoCard : Claim7 := { stood := { row := ringPowerUptoRow, standIns := [], harness := (true, "6a6c2f5ae71df9bade08767d89ef800793e005520ab1000b2f3d092f95f0433c"), looks := true }, kinds := [], alts := [], laidByText := true, laidKinds := [.data, .sentinel], laidTests := true, laidLooks := .later }
def RingPowerUptoCardSaid : Prop := Claim7.holds Tryd.pinned (.plain (OpenSpec.upto ringPowerSpec)) ringPowerUptoCard
end Rows
end Go.Proofs.YtkpkipjelpedeaaDoor
