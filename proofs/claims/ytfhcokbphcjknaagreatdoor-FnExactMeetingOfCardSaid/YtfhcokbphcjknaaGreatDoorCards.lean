/-
  DERIVED. GIVEN WITH THE SEED: THE CARDS: each row of YtfhcokbphcjknaaGreatDoorRows.lean that lists a variable, with what it lists TIED to the program's text (the seventh form; the later family's looks); each row that meets fmt, with fmt's text TOLD by the authors' own Lean function (tested against real Go, not proved from fmt's source: count such statements apart). THE CARD IS WHAT COUNTS. Prove the row's statement (the work); the ties are given (YtfhcokbphcjknaaGreatDoorTie.lean); close each card by the builder's one call (the guide's Derived/Test/ToyasCard.lean, 'card_holds'). Laid BY PROGRAM, IN A SANDBOX (cutbox-door.mjs). By AI agents, Wed Nov 11 2026. No macro, syntax, notation, axiom, sorry.
-/
import Derived.Test.YtfhcokbphcjknaaGreatDoorRows
import GoSem.ClaimSeven
namespace Go.Proofs.YtfhcokbphcjknaaGreatDoor
namespace Rows

/-- THE TIED CARD OF 'laws.FnExactSystemFault'. -/
def fnExactSystemFaultCard : Claim7 := { stood := { row := fnExactSystemFaultRow, standIns := [], harness := (true, "b3f65323aaefb54f35424d3ab37bbebd587b8b26d495dc1ba80addf6ef8c81b0"), looks := false }, kinds := [], alts := [], laidByText := true, laidKinds := [.data], laidTests := true, laidLooks := .later }
def FnExactSystemFaultCardSaid : Prop := Claim7.holds Tryz.pinned (.plain (OpenSpec.ofChange fnExactSystemFaultSpec)) fnExactSystemFaultCard

/-- THE TIED CARD OF 'laws.FnExactValidSystem'. -/
def fnExactValidSystemCard : Claim7 := { stood := { row := fnExactValidSystemRow, standIns := [], harness := (true, "b3f65323aaefb54f35424d3ab37bbebd587b8b26d495dc1ba80addf6ef8c81b0"), looks := false }, kinds := [], alts := [], laidByText := true, laidKinds := [.data], laidTests := true, laidLooks := .later }
def FnExactValidSystemCardSaid : Prop := Claim7.holds Tryz.pinned (.plain (OpenSpec.ofChange fnExactValidSystemSpec)) fnExactValidSystemCard

/-- THE TIED CARD OF 'laws.FnExactMeetingOf'. -/
def fnExactMeetingOfCard : Claim7 := { stood := { row := fnExactMeetingOfRow, standIns := [], harness := (true, "b3f65323aaefb54f35424d3ab37bbebd587b8b26d495dc1ba80addf6ef8c81b0"), looks := false }, kinds := [], alts := [], laidByText := true, laidKinds := [.data], laidTests := true, laidLooks := .later }
def FnExactMeetingOfCardSaid : Prop := Claim7.holds Tryz.pinned (.plain (OpenSpec.ofChange fnExactMeetingOfSpec)) fnExactMeetingOfCard

/-- THE SECOND FORM's CARD OF 'laws.FnExactSystemFault'. -/
def fnExactSystemFaultUptoCard : Claim7 := { stood := { row := fnExactSystemFaultUptoRow, standIns := [], harness := (true, "b3f65323aaefb54f35424d3ab37bbebd587b8b26d495dc1ba80addf6ef8c81b0"), looks := false }, kinds := [], alts := [], laidByText := true, laidKinds := [.data], laidTests := true, laidLooks := .later }
def FnExactSystemFaultUptoCardSaid : Prop := Claim7.holds Tryz.pinned (.plain (OpenSpec.upto fnExactSystemFaultSpec)) fnExactSystemFaultUptoCard

/-- THE SECOND FORM's CARD OF 'laws.FnExactValidSystem'. -/
def fnExactValidSystemUptoCard : Claim7 := { stood := { row := fnExactValidSystemUptoRow, standIns := [], harness := (true, "b3f65323aaefb54f35424d3ab37bbebd587b8b26d495dc1ba80addf6ef8c81b0"), looks := false }, kinds := [], alts := [], laidByText := true, laidKinds := [.data], laidTests := true, laidLooks := .later }
def FnExactValidSystemUptoCardSaid : Prop := Claim7.holds Tryz.pinned (.plain (OpenSpec.upto fnExactValidSystemSpec)) fnExactValidSystemUptoCard

/-- THE SECOND FORM's CARD OF 'laws.FnExactMeetingOf'. -/
def fnExactMeetingOfUptoCard : Claim7 := { stood := { row := fnExactMeetingOfUptoRow, standIns := [], harness := (true, "b3f65323aaefb54f35424d3ab37bbebd587b8b26d495dc1ba80addf6ef8c81b0"), looks := false }, kinds := [], alts := [], laidByText := true, laidKinds := [.data], laidTests := true, laidLooks := .later }
def FnExactMeetingOfUptoCardSaid : Prop := Claim7.holds Tryz.pinned (.plain (OpenSpec.upto fnExactMeetingOfSpec)) fnExactMeetingOfUptoCard
end Rows
end Go.Proofs.YtfhcokbphcjknaaGreatDoor
