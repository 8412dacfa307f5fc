/-
  DERIVED. GIVEN WITH THE SEED: THE CARDS: each row of YtkimniggdnlliabDoorRows.lean that lists a variable, with what it lists TIED to the program's text (the seventh form; the later family's looks); each row that meets fmt, with fmt's text TOLD by the authors' own Lean function (tested against real Go, not proved from fmt's source: count such statements apart). THE CARD IS WHAT COUNTS. Prove the row's statement (the work); the ties are given (YtkimniggdnlliabDoorTie.lean); close each card by the builder's one call (the guide's Derived/Test/ToyasCard.lean, 'card_holds'). Laid BY PROGRAM, IN A SANDBOX (cutbox-door.mjs). By AI agents, Wed Nov 11 2026. No macro, syntax, notation, axiom, sorry.
-/
import Derived.Test.YtkimniggdnlliabDoorRows
import GoSem.ClaimSeven
namespace Go.Proofs.YtkimniggdnlliabDoor
namespace Rows

/-- THE TIED CARD OF 'chargenetlaw02.CalendarSteps'. -/
def calendarStepsCard : Claim7 := { stood := { row := calendarStepsRow, standIns := [], harness := (true, "3df89d6396c9dfbb9e89322af34fc38bffe53e37a5dfd7d2f177c89132267ce7"), looks := false }, kinds := [], alts := [], laidByText := true, laidKinds := [.data], laidTests := true, laidLooks := .later }
def CalendarStepsCardSaid : Prop := Claim7.holds Tryd.pinned (.plain (OpenSpec.ofChange calendarStepsSpec)) calendarStepsCard

/-- THE TIED CARD OF 'chargenetlaw02.CalendarLeast'. -/
def calendarLeastCard : Claim7 := { stood := { row := calendarLeastRow, standIns := [], harness := (true, "3df89d6396c9dfbb9e89322af34fc38bffe53e37a5dfd7d2f177c89132267ce7"), looks := false }, kinds := [], alts := [], laidByText := true, laidKinds := [.data], laidTests := true, laidLooks := .later }
def CalendarLeastCardSaid : Prop := Claim7.holds Tryd.pinned (.plain (OpenSpec.ofChange calendarLeastSpec)) calendarLeastCard

/-- THE TIED CARD OF 'chargenetlaw02.CalendarWeeks'. -/
def calendarWeeksCard : Claim7 := { stood := { row := calendarWeeksRow, standIns := [], harness := (true, "3df89d6396c9dfbb9e89322af34fc38bffe53e37a5dfd7d2f177c89132267ce7"), looks := false }, kinds := [], alts := [], laidByText := true, laidKinds := [.data], laidTests := true, laidLooks := .later }
def CalendarWeeksCardSaid : Prop := Claim7.holds Tryd.pinned (.plain (OpenSpec.ofChange calendarWeeksSpec)) calendarWeeksCard

/-- THE SECOND FORM's CARD OF 'chargenetlaw02.CalendarSteps'. -/
def calendarStepsUptoCard : Claim7 := { stood := { row := calendarStepsUptoRow, standIns := [], harness := (true, "3df89d6396c9dfbb9e89322af34fc38bffe53e37a5dfd7d2f177c89132267ce7"), looks := false }, kinds := [], alts := [], laidByText := true, laidKinds := [.data], laidTests := true, laidLooks := .later }
def CalendarStepsUptoCardSaid : Prop := Claim7.holds Tryd.pinned (.plain (OpenSpec.upto calendarStepsSpec)) calendarStepsUptoCard

/-- THE SECOND FORM's CARD OF 'chargenetlaw02.CalendarLeast'. -/
def calendarLeastUptoCard : Claim7 := { stood := { row := calendarLeastUptoRow, standIns := [], harness := (true, "3df89d6396c9dfbb9e89322af34fc38bffe53e37a5dfd7d2f177c89132267ce7"), looks := false }, kinds := [], alts := [], laidByText := true, laidKinds := [.data], laidTests := true, laidLooks := .later }
def CalendarLeastUptoCardSaid : Prop := Claim7.holds Tryd.pinned (.plain (OpenSpec.upto calendarLeastSpec)) calendarLeastUptoCard

/-- THE SECOND FORM's CARD OF 'chargenetlaw02.CalendarWeeks'. -/
def calendarWeeksUptoCard : Claim7 := { stood := { row := calendarWeeksUptoRow, standIns := [], harness := (true, "3df89d6396c9dfbb9e89322af34fc38bffe53e37a5dfd7d2f177c89132267ce7"), looks := false }, kinds := [], alts := [], laidByText := true, laidKinds := [.data], laidTests := true, laidLooks := .later }
def CalendarWeeksUptoCardSaid : Prop := Claim7.holds Tryd.pinned (.plain (OpenSpec.upto calendarWeeksSpec)) calendarWeeksUptoCard
end Rows
end Go.Proofs.YtkimniggdnlliabDoor
