/-
  DERIVED. GIVEN WITH THE SEED: THE CARDS: each row of YtmapkiefmbgdoabDoorRows.lean that lists a variable, with what it lists TIED to the program's text (the seventh form; the later family's looks); each row that meets fmt, with fmt's text TOLD by the authors' own Lean function (tested against real Go, not proved from fmt's source: count such statements apart). THE CARD IS WHAT COUNTS. Prove the row's statement (the work); the ties are given (YtmapkiefmbgdoabDoorTie.lean); close each card by the builder's one call (the guide's Derived/Test/ToyasCard.lean, 'card_holds'). Laid BY PROGRAM, IN A SANDBOX (cutbox-door.mjs). By AI agents, Wed Nov 11 2026. No macro, syntax, notation, axiom, sorry.
-/
import Derived.Test.YtmapkiefmbgdoabDoorRows
import GoSem.ClaimSeven
namespace Go.Proofs.YtmapkiefmbgdoabDoor
namespace Rows

/-- THE TIED CARD OF 'chargenetlaw03.MoneyShares'. -/
def moneySharesCard : Claim7 := { stood := { row := moneySharesRow, standIns := [], harness := (true, "082d9db3f4a722d50b6a61493de776b7d858b14622a6b1b5b7e1ca987adf5237"), looks := true }, kinds := [], alts := [], laidByText := true, laidKinds := [.data, .data, .data, .sentinel, .sentinel], laidTests := true, laidLooks := .later }
def MoneySharesCardSaid : Prop := Claim7.holds Tryd.pinned (.plain (OpenSpec.ofChange moneySharesSpec)) moneySharesCard

/-- THE TIED CARD OF 'chargenettop.WindowsDivide'. -/
def windowsDivideCard : Claim7 := { stood := { row := windowsDivideRow, standIns := [], harness := (true, "082d9db3f4a722d50b6a61493de776b7d858b14622a6b1b5b7e1ca987adf5237"), looks := true }, kinds := [], alts := [], laidByText := true, laidKinds := [.data], laidTests := true, laidLooks := .later }
def WindowsDivideCardSaid : Prop := Claim7.holds Tryd.pinned (.plain (OpenSpec.ofChange windowsDivideSpec)) windowsDivideCard

/-- THE SECOND FORM's CARD OF 'chargenetlaw03.MoneyShares'. -/
def moneySharesUptoCard : Claim7 := { stood := { row := moneySharesUptoRow, standIns := [], harness := (true, "082d9db3f4a722d50b6a61493de776b7d858b14622a6b1b5b7e1ca987adf5237"), looks := true }, kinds := [], alts := [], laidByText := true, laidKinds := [.data, .data, .data, .sentinel, .sentinel], laidTests := true, laidLooks := .later }
def MoneySharesUptoCardSaid : Prop := Claim7.holds Tryd.pinned (.plain (OpenSpec.upto moneySharesSpec)) moneySharesUptoCard

/-- THE SECOND FORM's CARD OF 'chargenettop.WindowsDivide'. -/
def windowsDivideUptoCard : Claim7 := { stood := { row := windowsDivideUptoRow, standIns := [], harness := (true, "082d9db3f4a722d50b6a61493de776b7d858b14622a6b1b5b7e1ca987adf5237"), looks := true }, kinds := [], alts := [], laidByText := true, laidKinds := [.data], laidTests := true, laidLooks := .later }
def WindowsDivideUptoCardSaid : Prop := Claim7.holds Tryd.pinned (.plain (OpenSpec.upto windowsDivideSpec)) windowsDivideUptoCard
end Rows
end Go.Proofs.YtmapkiefmbgdoabDoor
