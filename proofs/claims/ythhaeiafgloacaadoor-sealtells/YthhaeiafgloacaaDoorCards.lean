/-
  DERIVED. GIVEN WITH THE SEED: THE CARDS: each row of YthhaeiafgloacaaDoorRows.lean that lists a variable, with what it lists TIED to the program's text (the seventh form; the later family's looks); each row that meets fmt, with fmt's text TOLD by the authors' own Lean function (tested against real Go, not proved from fmt's source: count such statements apart). THE CARD IS WHAT COUNTS. Prove the row's statement (the work); the ties are given (YthhaeiafgloacaaDoorTie.lean); close each card by the builder's one call (the guide's Derived/Test/ToyasCard.lean, 'card_holds'). Laid BY PROGRAM, IN A SANDBOX (cutbox-door.mjs). By AI agents, Wed Nov 11 2026. No macro, syntax, notation, axiom, sorry.
-/
import Derived.Test.YthhaeiafgloacaaDoorRows
import GoSem.ClaimSeven
namespace Go.Proofs.YthhaeiafgloacaaDoor
namespace Rows

/-- THE TIED CARD OF 'dumbwaiterlaw7.SealUnlike'. -/
def sealUnlikeCard : Claim7 := { stood := { row := sealUnlikeRow, standIns := [], harness := (true, "aea35d8bf890e5224c21ce8d96322f22113df5419c32965573d440f8097e312b"), looks := false }, kinds := [], alts := [], laidByText := true, laidKinds := [.data], laidTests := true, laidLooks := .later }
def SealUnlikeCardSaid : Prop := Claim7.holds Tryd.pinned (.plain (OpenSpec.ofChange sealUnlikeSpec)) sealUnlikeCard

/-- THE TIED CARD OF 'dumbwaiterlaw7.SealRooms'. -/
def sealRoomsCard : Claim7 := { stood := { row := sealRoomsRow, standIns := [], harness := (true, "aea35d8bf890e5224c21ce8d96322f22113df5419c32965573d440f8097e312b"), looks := false }, kinds := [], alts := [], laidByText := true, laidKinds := [.data], laidTests := true, laidLooks := .later }
def SealRoomsCardSaid : Prop := Claim7.holds Tryd.pinned (.plain (OpenSpec.ofChange sealRoomsSpec)) sealRoomsCard

/-- THE TIED CARD OF 'dumbwaiterlaw7.SealTells'. -/
def sealTellsCard : Claim7 := { stood := { row := sealTellsRow, standIns := [], harness := (true, "aea35d8bf890e5224c21ce8d96322f22113df5419c32965573d440f8097e312b"), looks := false }, kinds := [], alts := [], laidByText := true, laidKinds := [.data], laidTests := true, laidLooks := .later }
def SealTellsCardSaid : Prop := Claim7.holds Tryd.pinned (.plain (OpenSpec.ofChange sealTellsSpec)) sealTellsCard

/-- THE TIED CARD OF 'dumbwaiterlaw7.SealBack'. -/
def sealBackCard : Claim7 := { stood := { row := sealBackRow, standIns := [], harness := (true, "aea35d8bf890e5224c21ce8d96322f22113df5419c32965573d440f8097e312b"), looks := false }, kinds := [], alts := [], laidByText := true, laidKinds := [.data], laidTests := true, laidLooks := .later }
def SealBackCardSaid : Prop := Claim7.holds Tryd.pinned (.plain (OpenSpec.ofChange sealBackSpec)) sealBackCard

/-- THE SECOND FORM's CARD OF 'dumbwaiterlaw7.SealUnlike'. -/
def sealUnlikeUptoCard : Claim7 := { stood := { row := sealUnlikeUptoRow, standIns := [], harness := (true, "aea35d8bf890e5224c21ce8d96322f22113df5419c32965573d440f8097e312b"), looks := false }, kinds := [], alts := [], laidByText := true, laidKinds := [.data], laidTests := true, laidLooks := .later }
def SealUnlikeUptoCardSaid : Prop := Claim7.holds Tryd.pinned (.plain (OpenSpec.upto sealUnlikeSpec)) sealUnlikeUptoCard

/-- THE SECOND FORM's CARD OF 'dumbwaiterlaw7.SealRooms'. -/
def sealRoomsUptoCard : Claim7 := { stood := { row := sealRoomsUptoRow, standIns := [], harness := (true, "aea35d8bf890e5224c21ce8d96322f22113df5419c32965573d440f8097e312b"), looks := false }, kinds := [], alts := [], laidByText := true, laidKinds := [.data], laidTests := true, laidLooks := .later }
def SealRoomsUptoCardSaid : Prop := Claim7.holds Tryd.pinned (.plain (OpenSpec.upto sealRoomsSpec)) sealRoomsUptoCard

/-- THE SECOND FORM's CARD OF 'dumbwaiterlaw7.SealTells'. -/
def sealTellsUptoCard : Claim7 := { stood := { row := sealTellsUptoRow, standIns := [], harness := (true, "aea35d8bf890e5224c21ce8d96322f22113df5419c32965573d440f8097e312b"), looks := false }, kinds := [], alts := [], laidByText := true, laidKinds := [.data], laidTests := true, laidLooks := .later }
def SealTellsUptoCardSaid : Prop := Claim7.holds Tryd.pinned (.plain (OpenSpec.upto sealTellsSpec)) sealTellsUptoCard

/-- THE SECOND FORM's CARD OF 'dumbwaiterlaw7.SealBack'. -/
def sealBackUptoCard : Claim7 := { stood := { row := sealBackUptoRow, standIns := [], harness := (true, "aea35d8bf890e5224c21ce8d96322f22113df5419c32965573d440f8097e312b"), looks := false }, kinds := [], alts := [], laidByText := true, laidKinds := [.data], laidTests := true, laidLooks := .later }
def SealBackUptoCardSaid : Prop := Claim7.holds Tryd.pinned (.plain (OpenSpec.upto sealBackSpec)) sealBackUptoCard
end Rows
end Go.Proofs.YthhaeiafgloacaaDoor
