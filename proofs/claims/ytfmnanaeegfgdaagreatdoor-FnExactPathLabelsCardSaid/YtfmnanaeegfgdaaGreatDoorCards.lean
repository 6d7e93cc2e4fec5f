/-
  DERIVED. GIVEN WITH THE SEED: THE CARDS: each row of YtfmnanaeegfgdaaGreatDoorRows.lean that lists a variable, with what it lists TIED to the program's text (the seventh form; the later family's looks); each row that meets fmt, with fmt's text TOLD by the authors' own Lean function (tested against real Go, not proved from fmt's source: count such statements apart). THE CARD IS WHAT COUNTS. Prove the row's statement (the work); the ties are given (YtfmnanaeegfgdaaGreatDoorTie.lean); close each card by the builder's one call (the guide's Derived/Test/ToyasCard.lean, 'card_holds'). Laid BY PROGRAM, IN A SANDBOX (cutbox-door.mjs). By AI agents, Wed Nov 11 2026. No macro, syntax, notation, axiom, sorry.
-/
import Derived.Test.YtfmnanaeegfgdaaGreatDoorRows
import GoSem.ClaimSeven
namespace Go.Proofs.YtfmnanaeegfgdaaGreatDoor
namespace Rows

/-- THE TIED CARD OF 'laws.FnExactEndOfPath'. -/
def fnExactEndOfPathCard : Claim7 := { stood := { row := fnExactEndOfPathRow, standIns := [], harness := (true, "66f0c34915817a4c1ba59b762f74536ff486122af09eceb417bcc4717c935565"), looks := true }, kinds := [], alts := [], laidByText := true, laidKinds := [.data, .data, .data, .data, .sentinel, .sentinel, .pinned], laidTests := true, laidLooks := .later }
def FnExactEndOfPathCardSaid : Prop := Claim7.holds Tryz.pinned (.plain (OpenSpec.ofChange fnExactEndOfPathSpec)) fnExactEndOfPathCard

/-- THE TIED CARD OF 'laws.FnExactPathLabels'. -/
def fnExactPathLabelsCard : Claim7 := { stood := { row := fnExactPathLabelsRow, standIns := [], harness := (true, "66f0c34915817a4c1ba59b762f74536ff486122af09eceb417bcc4717c935565"), looks := true }, kinds := [], alts := [], laidByText := true, laidKinds := [.data, .data, .data, .data, .sentinel, .sentinel, .pinned], laidTests := true, laidLooks := .later }
def FnExactPathLabelsCardSaid : Prop := Claim7.holds Tryz.pinned (.plain (OpenSpec.ofChange fnExactPathLabelsSpec)) fnExactPathLabelsCard

/-- THE TIED CARD OF 'laws.FnExactValidLts'. -/
def fnExactValidLtsCard : Claim7 := { stood := { row := fnExactValidLtsRow, standIns := [], harness := (true, "66f0c34915817a4c1ba59b762f74536ff486122af09eceb417bcc4717c935565"), looks := true }, kinds := [], alts := [], laidByText := true, laidKinds := [.data, .data, .data, .data, .sentinel, .sentinel, .pinned], laidTests := true, laidLooks := .later }
def FnExactValidLtsCardSaid : Prop := Claim7.holds Tryz.pinned (.plain (OpenSpec.ofChange fnExactValidLtsSpec)) fnExactValidLtsCard

/-- THE SECOND FORM's CARD OF 'laws.FnExactEndOfPath'. -/
def fnExactEndOfPathUptoCard : Claim7 := { stood := { row := fnExactEndOfPathUptoRow, standIns := [], harness := (true, "66f0c34915817a4c1ba59b762f74536ff486122af09eceb417bcc4717c935565"), looks := true }, kinds := [], alts := [], laidByText := true, laidKinds := [.data, .data, .data, .data, .sentinel, .sentinel, .pinned], laidTests := true, laidLooks := .later }
def FnExactEndOfPathUptoCardSaid : Prop := Claim7.holds Tryz.pinned (.plain (OpenSpec.upto fnExactEndOfPathSpec)) fnExactEndOfPathUptoCard

/-- THE SECOND FORM's CARD OF 'laws.FnExactPathLabels'. -/
def fnExactPathLabelsUptoCard : Claim7 := { stood := { row := fnExactPathLabelsUptoRow, standIns := [], harness := (true, "66f0c34915817a4c1ba59b762f74536ff486122af09eceb417bcc4717c935565"), looks := true }, kinds := [], alts := [], laidByText := true, laidKinds := [.data, .data, .data, .data, .sentinel, .sentinel, .pinned], laidTests := true, laidLooks := .later }
def FnExactPathLabelsUptoCardSaid : Prop := Claim7.holds Tryz.pinned (.plain (OpenSpec.upto fnExactPathLabelsSpec)) fnExactPathLabelsUptoCard

/-- THE SECOND FORM's CARD OF 'laws.FnExactValidLts'. -/
def fnExactValidLtsUptoCard : Claim7 := { stood := { row := fnExactValidLtsUptoRow, standIns := [], harness := (true, "66f0c34915817a4c1ba59b762f74536ff486122af09eceb417bcc4717c935565"), looks := true }, kinds := [], alts := [], laidByText := true, laidKinds := [.data, .data, .data, .data, .sentinel, .sentinel, .pinned], laidTests := true, laidLooks := .later }
def FnExactValidLtsUptoCardSaid : Prop := Claim7.holds Tryz.pinned (.plain (OpenSpec.upto fnExactValidLtsSpec)) fnExactValidLtsUptoCard
end Rows
end Go.Proofs.YtfmnanaeegfgdaaGreatDoor
