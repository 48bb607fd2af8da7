/-
  DERIVED. GIVEN WITH THE SEED: THE CARDS: each row of YtlfcejfpdgdnkaaDoorRows.lean that lists a variable, with what it lists TIED to the program's text (the seventh form; the later family's looks); each row that meets fmt, with fmt's text TOLD by the authors' own Lean function (tested against real Go, not proved from fmt's source: count such statements apart). THE CARD IS WHAT COUNTS. Prove the row's statement (the work); the ties are given (YtlfcejfpdgdnkaaDoorTie.lean); close each card by the builder's one call (the guide's Derived/Test/ToyasCard.lean, 'card_holds'). Laid BY PROGRAM, IN A SANDBOX (cutbox-door.mjs). By AI agents, Wed Nov 11 2026. No macro, syntax, notation, axiom, sorry.
-/
import Derived.Test.YtlfcejfpdgdnkaaDoorRows
import GoSem.ClaimSeven
namespace Go.Proofs.YtlfcejfpdgdnkaaDoor
namespace Rows

/-- THE TIED CARD OF 'dumbwaiterlaw12.BankTurns'. -/
def bankTurnsCard : Claim7 := { stood := { row := bankTurnsRow, standIns := [], harness := (true, "b60efe6682b8de15f57a776a72da510b6c8abe9fd408768bce850954b1ef90c4"), looks := false }, kinds := [], alts := [], laidByText := true, laidKinds := [.data, .sentinel], laidTests := true, laidLooks := .later }
def BankTurnsCardSaid : Prop := Claim7.holds Tryd.pinned (.plain (OpenSpec.ofChange bankTurnsSpec)) bankTurnsCard

/-- THE TIED CARD OF 'dumbwaiterlaw12.BankPlays'. -/
def bankPlaysCard : Claim7 := { stood := { row := bankPlaysRow, standIns := [], harness := (true, "b60efe6682b8de15f57a776a72da510b6c8abe9fd408768bce850954b1ef90c4"), looks := false }, kinds := [], alts := [], laidByText := true, laidKinds := [.data, .sentinel], laidTests := true, laidLooks := .later }
def BankPlaysCardSaid : Prop := Claim7.holds Tryd.pinned (.plain (OpenSpec.ofChange bankPlaysSpec)) bankPlaysCard

/-- THE TIED CARD OF 'dumbwaiterlaw12.BankStates'. -/
def bankStatesCard : Claim7 := { stood := { row := bankStatesRow, standIns := [], harness := (true, "b60efe6682b8de15f57a776a72da510b6c8abe9fd408768bce850954b1ef90c4"), looks := false }, kinds := [], alts := [], laidByText := true, laidKinds := [.data, .sentinel], laidTests := true, laidLooks := .later }
def BankStatesCardSaid : Prop := Claim7.holds Tryd.pinned (.plain (OpenSpec.ofChange bankStatesSpec)) bankStatesCard

/-- THE SECOND FORM's CARD OF 'dumbwaiterlaw12.BankTurns'. -/
def bankTurnsUptoCard : Claim7 := { stood := { row := bankTurnsUptoRow, standIns := [], harness := (true, "b60efe6682b8de15f57a776a72da510b6c8abe9fd408768bce850954b1ef90c4"), looks := false }, kinds := [], alts := [], laidByText := true, laidKinds := [.data, .sentinel], laidTests := true, laidLooks := .later }
def BankTurnsUptoCardSaid : Prop := Claim7.holds Tryd.pinned (.plain (OpenSpec.upto bankTurnsSpec)) bankTurnsUptoCard

/-- THE SECOND FORM's CARD OF 'dumbwaiterlaw12.BankPlays'. -/
def bankPlaysUptoCard : Claim7 := { stood := { row := bankPlaysUptoRow, standIns := [], harness := (true, "b60efe6682b8de15f57a776a72da510b6c8abe9fd408768bce850954b1ef90c4"), looks := false }, kinds := [], alts := [], laidByText := true, laidKinds := [.data, .sentinel], laidTests := true, laidLooks := .later }
def BankPlaysUptoCardSaid : Prop := Claim7.holds Tryd.pinned (.plain (OpenSpec.upto bankPlaysSpec)) bankPlaysUptoCard

/-- THE SECOND FORM's CARD OF 'dumbwaiterlaw12.BankStates'. -/
def bankStatesUptoCard : Claim7 := { stood := { row := bankStatesUptoRow, standIns := [], harness := (true, "b60efe6682b8de15f57a776a72da510b6c8abe9fd408768bce850954b1ef90c4"), looks := false }, kinds := [], alts := [], laidByText := true, laidKinds := [.data, .sentinel], laidTests := true, laidLooks := .later }
def BankStatesUptoCardSaid : Prop := Claim7.holds Tryd.pinned (.plain (OpenSpec.upto bankStatesSpec)) bankStatesUptoCard
end Rows
end Go.Proofs.YtlfcejfpdgdnkaaDoor
