/-
  DERIVED. GIVEN WITH THE SEED: THE CARDS: each row of YtidmmncleifoiaaDoorRows.lean that lists a variable, with what it lists TIED to the program's text (the seventh form; the later family's looks); each row that meets fmt, with fmt's text TOLD by the authors' own Lean function (tested against real Go, not proved from fmt's source: count such statements apart). THE CARD IS WHAT COUNTS. Prove the row's statement (the work); the ties are given (YtidmmncleifoiaaDoorTie.lean); close each card by the builder's one call (the guide's Derived/Test/ToyasCard.lean, 'card_holds'). Laid BY PROGRAM, IN A SANDBOX (cutbox-door.mjs). By AI agents, Wed Nov 11 2026. No macro, syntax, notation, axiom, sorry.
-/
import Derived.Test.YtidmmncleifoiaaDoorRows
import GoSem.ClaimSeven
namespace Go.Proofs.YtidmmncleifoiaaDoor
namespace Rows

/-- THE TIED CARD OF 'dumbwaiterlaw3.ChacVectors'. -/
def chacVectorsCard : Claim7 := { stood := { row := chacVectorsRow, standIns := [], harness := (true, "194442158005708f6ac652a495fbad7a84bef84dd41a2bfe3745c054e88dcd9d"), looks := false }, kinds := [], alts := [], laidByText := true, laidKinds := [.data], laidTests := true, laidLooks := .later }
def ChacVectorsCardSaid : Prop := Claim7.holds Tryd.pinned (.plain (OpenSpec.ofChange chacVectorsSpec)) chacVectorsCard

/-- THE TIED CARD OF 'dumbwaiterlaw3.ChacBounds'. -/
def chacBoundsCard : Claim7 := { stood := { row := chacBoundsRow, standIns := [], harness := (true, "194442158005708f6ac652a495fbad7a84bef84dd41a2bfe3745c054e88dcd9d"), looks := false }, kinds := [], alts := [], laidByText := true, laidKinds := [.data], laidTests := true, laidLooks := .later }
def ChacBoundsCardSaid : Prop := Claim7.holds Tryd.pinned (.plain (OpenSpec.ofChange chacBoundsSpec)) chacBoundsCard

/-- THE TIED CARD OF 'dumbwaiterlaw3.ChacAdds'. -/
def chacAddsCard : Claim7 := { stood := { row := chacAddsRow, standIns := [], harness := (true, "194442158005708f6ac652a495fbad7a84bef84dd41a2bfe3745c054e88dcd9d"), looks := false }, kinds := [], alts := [], laidByText := true, laidKinds := [.data], laidTests := true, laidLooks := .later }
def ChacAddsCardSaid : Prop := Claim7.holds Tryd.pinned (.plain (OpenSpec.ofChange chacAddsSpec)) chacAddsCard

/-- THE TIED CARD OF 'dumbwaiterlaw3.ChacTells'. -/
def chacTellsCard : Claim7 := { stood := { row := chacTellsRow, standIns := [], harness := (true, "194442158005708f6ac652a495fbad7a84bef84dd41a2bfe3745c054e88dcd9d"), looks := false }, kinds := [], alts := [], laidByText := true, laidKinds := [.data], laidTests := true, laidLooks := .later }
def ChacTellsCardSaid : Prop := Claim7.holds Tryd.pinned (.plain (OpenSpec.ofChange chacTellsSpec)) chacTellsCard

/-- THE TIED CARD OF 'dumbwaiterlaw3.ChacBack'. -/
def chacBackCard : Claim7 := { stood := { row := chacBackRow, standIns := [], harness := (true, "194442158005708f6ac652a495fbad7a84bef84dd41a2bfe3745c054e88dcd9d"), looks := false }, kinds := [], alts := [], laidByText := true, laidKinds := [.data], laidTests := true, laidLooks := .later }
def ChacBackCardSaid : Prop := Claim7.holds Tryd.pinned (.plain (OpenSpec.ofChange chacBackSpec)) chacBackCard

/-- THE TIED CARD OF 'dumbwaiterlaw3.ChacSums'. -/
def chacSumsCard : Claim7 := { stood := { row := chacSumsRow, standIns := [], harness := (true, "194442158005708f6ac652a495fbad7a84bef84dd41a2bfe3745c054e88dcd9d"), looks := false }, kinds := [], alts := [], laidByText := true, laidKinds := [.data], laidTests := true, laidLooks := .later }
def ChacSumsCardSaid : Prop := Claim7.holds Tryd.pinned (.plain (OpenSpec.ofChange chacSumsSpec)) chacSumsCard

/-- THE SECOND FORM's CARD OF 'dumbwaiterlaw3.ChacVectors'. -/
def chacVectorsUptoCard : Claim7 := { stood := { row := chacVectorsUptoRow, standIns := [], harness := (true, "194442158005708f6ac652a495fbad7a84bef84dd41a2bfe3745c054e88dcd9d"), looks := false }, kinds := [], alts := [], laidByText := true, laidKinds := [.data], laidTests := true, laidLooks := .later }
def ChacVectorsUptoCardSaid : Prop := Claim7.holds Tryd.pinned (.plain (OpenSpec.upto chacVectorsSpec)) chacVectorsUptoCard

/-- THE SECOND FORM's CARD OF 'dumbwaiterlaw3.ChacBounds'. -/
def chacBoundsUptoCard : Claim7 := { stood := { row := chacBoundsUptoRow, standIns := [], harness := (true, "194442158005708f6ac652a495fbad7a84bef84dd41a2bfe3745c054e88dcd9d"), looks := false }, kinds := [], alts := [], laidByText := true, laidKinds := [.data], laidTests := true, laidLooks := .later }
def ChacBoundsUptoCardSaid : Prop := Claim7.holds Tryd.pinned (.plain (OpenSpec.upto chacBoundsSpec)) chacBoundsUptoCard

/-- THE SECOND FORM's CARD OF 'dumbwaiterlaw3.ChacAdds'. -/
def chacAddsUptoCard : Claim7 := { stood := { row := chacAddsUptoRow, standIns := [], harness := (true, "194442158005708f6ac652a495fbad7a84bef84dd41a2bfe3745c054e88dcd9d"), looks := false }, kinds := [], alts := [], laidByText := true, laidKinds := [.data], laidTests := true, laidLooks := .later }
def ChacAddsUptoCardSaid : Prop := Claim7.holds Tryd.pinned (.plain (OpenSpec.upto chacAddsSpec)) chacAddsUptoCard

/-- THE SECOND FORM's CARD OF 'dumbwaiterlaw3.ChacTells'. -/
def chacTellsUptoCard : Claim7 := { stood := { row := chacTellsUptoRow, standIns := [], harness := (true, "194442158005708f6ac652a495fbad7a84bef84dd41a2bfe3745c054e88dcd9d"), looks := false }, kinds := [], alts := [], laidByText := true, laidKinds := [.data], laidTests := true, laidLooks := .later }
def ChacTellsUptoCardSaid : Prop := Claim7.holds Tryd.pinned (.plain (OpenSpec.upto chacTellsSpec)) chacTellsUptoCard

/-- THE SECOND FORM's CARD OF 'dumbwaiterlaw3.ChacBack'. -/
def chacBackUptoCard : Claim7 := { stood := { row := chacBackUptoRow, standIns := [], harness := (true, "194442158005708f6ac652a495fbad7a84bef84dd41a2bfe3745c054e88dcd9d"), looks := false }, kinds := [], alts := [], laidByText := true, laidKinds := [.data], laidTests := true, laidLooks := .later }
def ChacBackUptoCardSaid : Prop := Claim7.holds Tryd.pinned (.plain (OpenSpec.upto chacBackSpec)) chacBackUptoCard

/-- THE SECOND FORM's CARD OF 'dumbwaiterlaw3.ChacSums'. -/
def chacSumsUptoCard : Claim7 := { stood := { row := chacSumsUptoRow, standIns := [], harness := (true, "194442158005708f6ac652a495fbad7a84bef84dd41a2bfe3745c054e88dcd9d"), looks := false }, kinds := [], alts := [], laidByText := true, laidKinds := [.data], laidTests := true, laidLooks := .later }
def ChacSumsUptoCardSaid : Prop := Claim7.holds Tryd.pinned (.plain (OpenSpec.upto chacSumsSpec)) chacSumsUptoCard
end Rows
end Go.Proofs.YtidmmncleifoiaaDoor
