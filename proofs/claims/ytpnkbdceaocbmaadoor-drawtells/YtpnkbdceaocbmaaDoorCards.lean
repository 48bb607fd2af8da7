/-
  DERIVED. GIVEN WITH THE SEED: THE CARDS: each row of YtpnkbdceaocbmaaDoorRows.lean that lists a variable, with what it lists TIED to the program's text (the seventh form; the later family's looks); each row that meets fmt, with fmt's text TOLD by the authors' own Lean function (tested against real Go, not proved from fmt's source: count such statements apart). THE CARD IS WHAT COUNTS. Prove the row's statement (the work); the ties are given (YtpnkbdceaocbmaaDoorTie.lean); close each card by the builder's one call (the guide's Derived/Test/ToyasCard.lean, 'card_holds'). Laid BY PROGRAM, IN A SANDBOX (cutbox-door.mjs). By AI agents, Wed Nov 11 2026. No macro, syntax, notation, axiom, sorry.
-/
import Derived.Test.YtpnkbdceaocbmaaDoorRows
import GoSem.ClaimSeven
namespace Go.Proofs.YtpnkbdceaocbmaaDoor
namespace Rows

/-- THE TIED CARD OF 'dumbwaiterlaw4.DrawMasks'. -/
def drawMasksCard : Claim7 := { stood := { row := drawMasksRow, standIns := [], harness := (true, "91073aa72bed59de1e4ab35ec6ec3ce289751d85acae3da31ac3d1565adc8c5d"), looks := false }, kinds := [], alts := [], laidByText := true, laidKinds := [.data], laidTests := true, laidLooks := .later }
def DrawMasksCardSaid : Prop := Claim7.holds Tryd.pinned (.plain (OpenSpec.ofChange drawMasksSpec)) drawMasksCard

/-- THE TIED CARD OF 'dumbwaiterlaw4.DrawTapes'. -/
def drawTapesCard : Claim7 := { stood := { row := drawTapesRow, standIns := [], harness := (true, "91073aa72bed59de1e4ab35ec6ec3ce289751d85acae3da31ac3d1565adc8c5d"), looks := false }, kinds := [], alts := [], laidByText := true, laidKinds := [.data], laidTests := true, laidLooks := .later }
def DrawTapesCardSaid : Prop := Claim7.holds Tryd.pinned (.plain (OpenSpec.ofChange drawTapesSpec)) drawTapesCard

/-- THE TIED CARD OF 'dumbwaiterlaw4.DrawLeaves'. -/
def drawLeavesCard : Claim7 := { stood := { row := drawLeavesRow, standIns := [], harness := (true, "91073aa72bed59de1e4ab35ec6ec3ce289751d85acae3da31ac3d1565adc8c5d"), looks := false }, kinds := [], alts := [], laidByText := true, laidKinds := [.data], laidTests := true, laidLooks := .later }
def DrawLeavesCardSaid : Prop := Claim7.holds Tryd.pinned (.plain (OpenSpec.ofChange drawLeavesSpec)) drawLeavesCard

/-- THE TIED CARD OF 'dumbwaiterlaw4.DrawTells'. -/
def drawTellsCard : Claim7 := { stood := { row := drawTellsRow, standIns := [], harness := (true, "91073aa72bed59de1e4ab35ec6ec3ce289751d85acae3da31ac3d1565adc8c5d"), looks := false }, kinds := [], alts := [], laidByText := true, laidKinds := [.data], laidTests := true, laidLooks := .later }
def DrawTellsCardSaid : Prop := Claim7.holds Tryd.pinned (.plain (OpenSpec.ofChange drawTellsSpec)) drawTellsCard

/-- THE TIED CARD OF 'dumbwaiterlaw4.DrawWithin'. -/
def drawWithinCard : Claim7 := { stood := { row := drawWithinRow, standIns := [], harness := (true, "91073aa72bed59de1e4ab35ec6ec3ce289751d85acae3da31ac3d1565adc8c5d"), looks := false }, kinds := [], alts := [], laidByText := true, laidKinds := [.data], laidTests := true, laidLooks := .later }
def DrawWithinCardSaid : Prop := Claim7.holds Tryd.pinned (.plain (OpenSpec.ofChange drawWithinSpec)) drawWithinCard

/-- THE SECOND FORM's CARD OF 'dumbwaiterlaw4.DrawMasks'. -/
def drawMasksUptoCard : Claim7 := { stood := { row := drawMasksUptoRow, standIns := [], harness := (true, "91073aa72bed59de1e4ab35ec6ec3ce289751d85acae3da31ac3d1565adc8c5d"), looks := false }, kinds := [], alts := [], laidByText := true, laidKinds := [.data], laidTests := true, laidLooks := .later }
def DrawMasksUptoCardSaid : Prop := Claim7.holds Tryd.pinned (.plain (OpenSpec.upto drawMasksSpec)) drawMasksUptoCard

/-- THE SECOND FORM's CARD OF 'dumbwaiterlaw4.DrawTapes'. -/
def drawTapesUptoCard : Claim7 := { stood := { row := drawTapesUptoRow, standIns := [], harness := (true, "91073aa72bed59de1e4ab35ec6ec3ce289751d85acae3da31ac3d1565adc8c5d"), looks := false }, kinds := [], alts := [], laidByText := true, laidKinds := [.data], laidTests := true, laidLooks := .later }
def DrawTapesUptoCardSaid : Prop := Claim7.holds Tryd.pinned (.plain (OpenSpec.upto drawTapesSpec)) drawTapesUptoCard

/-- THE SECOND FORM's CARD OF 'dumbwaiterlaw4.DrawLeaves'. -/
def drawLeavesUptoCard : Claim7 := { stood := { row := drawLeavesUptoRow, standIns := [], harness := (true, "91073aa72bed59de1e4ab35ec6ec3ce289751d85acae3da31ac3d1565adc8c5d"), looks := false }, kinds := [], alts := [], laidByText := true, laidKinds := [.data], laidTests := true, laidLooks := .later }
def DrawLeavesUptoCardSaid : Prop := Claim7.holds Tryd.pinned (.plain (OpenSpec.upto drawLeavesSpec)) drawLeavesUptoCard

/-- THE SECOND FORM's CARD OF 'dumbwaiterlaw4.DrawTells'. -/
def drawTellsUptoCard : Claim7 := { stood := { row := drawTellsUptoRow, standIns := [], harness := (true, "91073aa72bed59de1e4ab35ec6ec3ce289751d85acae3da31ac3d1565adc8c5d"), looks := false }, kinds := [], alts := [], laidByText := true, laidKinds := [.data], laidTests := true, laidLooks := .later }
def DrawTellsUptoCardSaid : Prop := Claim7.holds Tryd.pinned (.plain (OpenSpec.upto drawTellsSpec)) drawTellsUptoCard

/-- THE SECOND FORM's CARD OF 'dumbwaiterlaw4.DrawWithin'. -/
def drawWithinUptoCard : Claim7 := { stood := { row := drawWithinUptoRow, standIns := [], harness := (true, "91073aa72bed59de1e4ab35ec6ec3ce289751d85acae3da31ac3d1565adc8c5d"), looks := false }, kinds := [], alts := [], laidByText := true, laidKinds := [.data], laidTests := true, laidLooks := .later }
def DrawWithinUptoCardSaid : Prop := Claim7.holds Tryd.pinned (.plain (OpenSpec.upto drawWithinSpec)) drawWithinUptoCard
end Rows
end Go.Proofs.YtpnkbdceaocbmaaDoor
