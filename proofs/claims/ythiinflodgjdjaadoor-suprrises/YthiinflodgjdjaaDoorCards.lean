/-
  DERIVED. GIVEN WITH THE SEED: THE CARDS: each row of YthiinflodgjdjaaDoorRows.lean that lists a variable, with what it lists TIED to the program's text (the seventh form; the later family's looks); each row that meets fmt, with fmt's text TOLD by the authors' own Lean function (tested against real Go, not proved from fmt's source: count such statements apart). THE CARD IS WHAT COUNTS. Prove the row's statement (the work); the ties are given (YthiinflodgjdjaaDoorTie.lean); close each card by the builder's one call (the guide's Derived/Test/ToyasCard.lean, 'card_holds'). Laid BY PROGRAM, IN A SANDBOX (cutbox-door.mjs). By AI agents, Wed Nov 11 2026. No macro, syntax, notation, axiom, sorry.
-/
import Derived.Test.YthiinflodgjdjaaDoorRows
import GoSem.ClaimSeven
namespace Go.Proofs.YthiinflodgjdjaaDoor
namespace Rows

/-- THE TIED CARD OF 'dumbwaiterlaw10.SuprRises'. -/
def suprRisesCard : Claim7 := { stood := { row := suprRisesRow, standIns := [], harness := (true, "2cc1f14c82103286f482cfebf023f983e72b04906a0f062db6ce0c02b9562d29"), looks := true }, kinds := [], alts := [], laidByText := true, laidKinds := [.data, .sentinel], laidTests := true, laidLooks := .later }
def SuprRisesCardSaid : Prop := Claim7.holds Tryd.pinned (.plain (OpenSpec.ofChange suprRisesSpec)) suprRisesCard

/-- THE TIED CARD OF 'dumbwaiterlaw10.SuprForms'. -/
def suprFormsCard : Claim7 := { stood := { row := suprFormsRow, standIns := [], harness := (true, "2cc1f14c82103286f482cfebf023f983e72b04906a0f062db6ce0c02b9562d29"), looks := true }, kinds := [], alts := [], laidByText := true, laidKinds := [.data, .sentinel], laidTests := true, laidLooks := .later }
def SuprFormsCardSaid : Prop := Claim7.holds Tryd.pinned (.plain (OpenSpec.ofChange suprFormsSpec)) suprFormsCard

/-- THE TIED CARD OF 'dumbwaiterlaw10.SuprHolds'. -/
def suprHoldsCard : Claim7 := { stood := { row := suprHoldsRow, standIns := [], harness := (true, "2cc1f14c82103286f482cfebf023f983e72b04906a0f062db6ce0c02b9562d29"), looks := true }, kinds := [], alts := [], laidByText := true, laidKinds := [.data, .sentinel], laidTests := true, laidLooks := .later }
def SuprHoldsCardSaid : Prop := Claim7.holds Tryd.pinned (.plain (OpenSpec.ofChange suprHoldsSpec)) suprHoldsCard

/-- THE TIED CARD OF 'dumbwaiterlaw10.SuprPlaces'. -/
def suprPlacesCard : Claim7 := { stood := { row := suprPlacesRow, standIns := [], harness := (true, "2cc1f14c82103286f482cfebf023f983e72b04906a0f062db6ce0c02b9562d29"), looks := true }, kinds := [], alts := [], laidByText := true, laidKinds := [.data, .sentinel], laidTests := true, laidLooks := .later }
def SuprPlacesCardSaid : Prop := Claim7.holds Tryd.pinned (.plain (OpenSpec.ofChange suprPlacesSpec)) suprPlacesCard

/-- THE SECOND FORM's CARD OF 'dumbwaiterlaw10.SuprRises'. -/
def suprRisesUptoCard : Claim7 := { stood := { row := suprRisesUptoRow, standIns := [], harness := (true, "2cc1f14c82103286f482cfebf023f983e72b04906a0f062db6ce0c02b9562d29"), looks := true }, kinds := [], alts := [], laidByText := true, laidKinds := [.data, .sentinel], laidTests := true, laidLooks := .later }
def SuprRisesUptoCardSaid : Prop := Claim7.holds Tryd.pinned (.plain (OpenSpec.upto suprRisesSpec)) suprRisesUptoCard

/-- THE SECOND FORM's CARD OF 'dumbwaiterlaw10.SuprForms'. -/
def suprFormsUptoCard : Claim7 := { stood := { row := suprFormsUptoRow, standIns := [], harness := (true, "2cc1f14c82103286f482cfebf023f983e72b04906a0f062db6ce0c02b9562d29"), looks := true }, kinds := [], alts := [], laidByText := true, laidKinds := [.data, .sentinel], laidTests := true, laidLooks := .later }
def SuprFormsUptoCardSaid : Prop := Claim7.holds Tryd.pinned (.plain (OpenSpec.upto suprFormsSpec)) suprFormsUptoCard

/-- THE SECOND FORM's CARD OF 'dumbwaiterlaw10.SuprHolds'. -/
def suprHoldsUptoCard : Claim7 := { stood := { row := suprHoldsUptoRow, standIns := [], harness := (true, "2cc1f14c82103286f482cfebf023f983e72b04906a0f062db6ce0c02b9562d29"), looks := true }, kinds := [], alts := [], laidByText := true, laidKinds := [.data, .sentinel], laidTests := true, laidLooks := .later }
def SuprHoldsUptoCardSaid : Prop := Claim7.holds Tryd.pinned (.plain (OpenSpec.upto suprHoldsSpec)) suprHoldsUptoCard

/-- THE SECOND FORM's CARD OF 'dumbwaiterlaw10.SuprPlaces'. -/
def suprPlacesUptoCard : Claim7 := { stood := { row := suprPlacesUptoRow, standIns := [], harness := (true, "2cc1f14c82103286f482cfebf023f983e72b04906a0f062db6ce0c02b9562d29"), looks := true }, kinds := [], alts := [], laidByText := true, laidKinds := [.data, .sentinel], laidTests := true, laidLooks := .later }
def SuprPlacesUptoCardSaid : Prop := Claim7.holds Tryd.pinned (.plain (OpenSpec.upto suprPlacesSpec)) suprPlacesUptoCard
end Rows
end Go.Proofs.YthiinflodgjdjaaDoor
