/-
  DERIVED. GIVEN WITH THE SEED: THE CARDS: each row of YtgkhaedlfmloeaaDoorRows.lean that lists a variable, with what it lists TIED to the program's text (the seventh form; the later family's looks); each row that meets fmt, with fmt's text TOLD by the authors' own Lean function (tested against real Go, not proved from fmt's source: count such statements apart). THE CARD IS WHAT COUNTS. Prove the row's statement (the work); the ties are given (YtgkhaedlfmloeaaDoorTie.lean); close each card by the builder's one call (the guide's Derived/Test/ToyasCard.lean, 'card_holds'). Laid BY PROGRAM, IN A SANDBOX (cutbox-door.mjs). By AI agents, Wed Nov 11 2026. No macro, syntax, notation, axiom, sorry.
-/
import Derived.Test.YtgkhaedlfmloeaaDoorRows
import GoSem.ClaimSeven
namespace Go.Proofs.YtgkhaedlfmloeaaDoor
namespace Rows

/-- THE TIED CARD OF 'dumbwaiterlaw8.BootPlaces'. -/
def bootPlacesCard : Claim7 := { stood := { row := bootPlacesRow, standIns := [], harness := (true, "5c8db9d9a8cde9e652aee752d2c8e0c72cae1e144035f3bc01e623b3e621bc65"), looks := true }, kinds := [], alts := [], laidByText := true, laidKinds := [.sentinel], laidTests := true, laidLooks := .later }
def BootPlacesCardSaid : Prop := Claim7.holds Tryd.pinned (.plain (OpenSpec.ofChange bootPlacesSpec)) bootPlacesCard

/-- THE TIED CARD OF 'dumbwaiterlaw8.BootForms'. -/
def bootFormsCard : Claim7 := { stood := { row := bootFormsRow, standIns := [], harness := (true, "5c8db9d9a8cde9e652aee752d2c8e0c72cae1e144035f3bc01e623b3e621bc65"), looks := true }, kinds := [], alts := [], laidByText := true, laidKinds := [.sentinel], laidTests := true, laidLooks := .later }
def BootFormsCardSaid : Prop := Claim7.holds Tryd.pinned (.plain (OpenSpec.ofChange bootFormsSpec)) bootFormsCard

/-- THE TIED CARD OF 'dumbwaiterlaw8.BootTells'. -/
def bootTellsCard : Claim7 := { stood := { row := bootTellsRow, standIns := [], harness := (true, "5c8db9d9a8cde9e652aee752d2c8e0c72cae1e144035f3bc01e623b3e621bc65"), looks := true }, kinds := [], alts := [], laidByText := true, laidKinds := [.sentinel], laidTests := true, laidLooks := .later }
def BootTellsCardSaid : Prop := Claim7.holds Tryd.pinned (.plain (OpenSpec.ofChange bootTellsSpec)) bootTellsCard

/-- THE TIED CARD OF 'dumbwaiterlaw8.BootRises'. -/
def bootRisesCard : Claim7 := { stood := { row := bootRisesRow, standIns := [], harness := (true, "5c8db9d9a8cde9e652aee752d2c8e0c72cae1e144035f3bc01e623b3e621bc65"), looks := true }, kinds := [], alts := [], laidByText := true, laidKinds := [.sentinel], laidTests := true, laidLooks := .later }
def BootRisesCardSaid : Prop := Claim7.holds Tryd.pinned (.plain (OpenSpec.ofChange bootRisesSpec)) bootRisesCard

/-- THE SECOND FORM's CARD OF 'dumbwaiterlaw8.BootPlaces'. -/
def bootPlacesUptoCard : Claim7 := { stood := { row := bootPlacesUptoRow, standIns := [], harness := (true, "5c8db9d9a8cde9e652aee752d2c8e0c72cae1e144035f3bc01e623b3e621bc65"), looks := true }, kinds := [], alts := [], laidByText := true, laidKinds := [.sentinel], laidTests := true, laidLooks := .later }
def BootPlacesUptoCardSaid : Prop := Claim7.holds Tryd.pinned (.plain (OpenSpec.upto bootPlacesSpec)) bootPlacesUptoCard

/-- THE SECOND FORM's CARD OF 'dumbwaiterlaw8.BootForms'. -/
def bootFormsUptoCard : Claim7 := { stood := { row := bootFormsUptoRow, standIns := [], harness := (true, "5c8db9d9a8cde9e652aee752d2c8e0c72cae1e144035f3bc01e623b3e621bc65"), looks := true }, kinds := [], alts := [], laidByText := true, laidKinds := [.sentinel], laidTests := true, laidLooks := .later }
def BootFormsUptoCardSaid : Prop := Claim7.holds Tryd.pinned (.plain (OpenSpec.upto bootFormsSpec)) bootFormsUptoCard

/-- THE SECOND FORM's CARD OF 'dumbwaiterlaw8.BootTells'. -/
def bootTellsUptoCard : Claim7 := { stood := { row := bootTellsUptoRow, standIns := [], harness := (true, "5c8db9d9a8cde9e652aee752d2c8e0c72cae1e144035f3bc01e623b3e621bc65"), looks := true }, kinds := [], alts := [], laidByText := true, laidKinds := [.sentinel], laidTests := true, laidLooks := .later }
def BootTellsUptoCardSaid : Prop := Claim7.holds Tryd.pinned (.plain (OpenSpec.upto bootTellsSpec)) bootTellsUptoCard

/-- THE SECOND FORM's CARD OF 'dumbwaiterlaw8.BootRises'. -/
def bootRisesUptoCard : Claim7 := { stood := { row := bootRisesUptoRow, standIns := [], harness := (true, "5c8db9d9a8cde9e652aee752d2c8e0c72cae1e144035f3bc01e623b3e621bc65"), looks := true }, kinds := [], alts := [], laidByText := true, laidKinds := [.sentinel], laidTests := true, laidLooks := .later }
def BootRisesUptoCardSaid : Prop := Claim7.holds Tryd.pinned (.plain (OpenSpec.upto bootRisesSpec)) bootRisesUptoCard
end Rows
end Go.Proofs.YtgkhaedlfmloeaaDoor
