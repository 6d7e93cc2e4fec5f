/-
  DERIVED. GIVEN WITH THE SEED: THE CARDS: each row of YtkfkdaencajplaaDoorRows.lean that lists a variable, with what it lists TIED to the program's text (the seventh form; the later family's looks); each row that meets fmt, with fmt's text TOLD by the authors' own Lean function (tested against real Go, not proved from fmt's source: count such statements apart). THE CARD IS WHAT COUNTS. Prove the row's statement (the work); the ties are given (YtkfkdaencajplaaDoorTie.lean); close each card by the builder's one call (the guide's Derived/Test/ToyasCard.lean, 'card_holds'). Laid BY PROGRAM, IN A SANDBOX (cutbox-door.mjs). By AI agents, Wed Nov 11 2026. No macro, syntax, notation, axiom, sorry.
-/
import Derived.Test.YtkfkdaencajplaaDoorRows
import GoSem.ClaimSeven
namespace Go.Proofs.YtkfkdaencajplaaDoor
namespace Rows

/-- THE TIED CARD OF 'laws.FnExactListText'. -/
def fnExactListTextCard : Claim7 := { stood := { row := fnExactListTextRow, standIns := [], harness := (true, "4d42d7739f11e6dcb26f368ffa61e25b5919768577be806e2e3cfd8ba397faf7"), looks := true }, kinds := [], alts := [], laidByText := true, laidKinds := [.data, .data, .data], laidTests := true, laidLooks := .later }
def FnExactListTextCardSaid : Prop := Claim7.holds Tryd.pinned (.plain (OpenSpec.ofChange fnExactListTextSpec)) fnExactListTextCard

/-- THE TIED CARD OF 'laws.FnExactReadList'. -/
def fnExactReadListCard : Claim7 := { stood := { row := fnExactReadListRow, standIns := [], harness := (true, "4d42d7739f11e6dcb26f368ffa61e25b5919768577be806e2e3cfd8ba397faf7"), looks := true }, kinds := [], alts := [], laidByText := true, laidKinds := [.data, .data, .data, .data, .sentinel, .sentinel, .pinned], laidTests := true, laidLooks := .later }
def FnExactReadListCardSaid : Prop := Claim7.holds Tryd.pinned (.plain (OpenSpec.ofChange fnExactReadListSpec)) fnExactReadListCard

/-- THE TIED CARD OF 'laws.FnExactIsLabel'. -/
def fnExactIsLabelCard : Claim7 := { stood := { row := fnExactIsLabelRow, standIns := [], harness := (true, "4d42d7739f11e6dcb26f368ffa61e25b5919768577be806e2e3cfd8ba397faf7"), looks := true }, kinds := [], alts := [], laidByText := true, laidKinds := [.data, .data, .data, .data, .sentinel, .sentinel, .pinned], laidTests := true, laidLooks := .later }
def FnExactIsLabelCardSaid : Prop := Claim7.holds Tryd.pinned (.plain (OpenSpec.ofChange fnExactIsLabelSpec)) fnExactIsLabelCard

/-- THE TIED CARD OF 'laws.FnExactLabelName'. -/
def fnExactLabelNameCard : Claim7 := { stood := { row := fnExactLabelNameRow, standIns := [], harness := (true, "4d42d7739f11e6dcb26f368ffa61e25b5919768577be806e2e3cfd8ba397faf7"), looks := true }, kinds := [], alts := [], laidByText := true, laidKinds := [.data, .data, .data, .data, .sentinel, .sentinel, .pinned], laidTests := true, laidLooks := .later }
def FnExactLabelNameCardSaid : Prop := Claim7.holds Tryd.pinned (.plain (OpenSpec.ofChange fnExactLabelNameSpec)) fnExactLabelNameCard

/-- THE TIED CARD OF 'laws.FnExactLabelValues'. -/
def fnExactLabelValuesCard : Claim7 := { stood := { row := fnExactLabelValuesRow, standIns := [], harness := (true, "4d42d7739f11e6dcb26f368ffa61e25b5919768577be806e2e3cfd8ba397faf7"), looks := true }, kinds := [], alts := [], laidByText := true, laidKinds := [.data, .data, .data, .data, .sentinel, .sentinel, .pinned], laidTests := true, laidLooks := .later }
def FnExactLabelValuesCardSaid : Prop := Claim7.holds Tryd.pinned (.plain (OpenSpec.ofChange fnExactLabelValuesSpec)) fnExactLabelValuesCard

/-- THE TIED CARD OF 'laws.FnExactLabelText'. -/
def fnExactLabelTextCard : Claim7 := { stood := { row := fnExactLabelTextRow, standIns := [], harness := (true, "4d42d7739f11e6dcb26f368ffa61e25b5919768577be806e2e3cfd8ba397faf7"), looks := true }, kinds := [], alts := [], laidByText := true, laidKinds := [.data, .data, .data], laidTests := true, laidLooks := .later }
def FnExactLabelTextCardSaid : Prop := Claim7.holds Tryd.pinned (.plain (OpenSpec.ofChange fnExactLabelTextSpec)) fnExactLabelTextCard

/-- THE SECOND FORM's CARD OF 'laws.FnExactListText'. -/
def fnExactListTextUptoCard : Claim7 := { stood := { row := fnExactListTextUptoRow, standIns := [], harness := (true, "4d42d7739f11e6dcb26f368ffa61e25b5919768577be806e2e3cfd8ba397faf7"), looks := true }, kinds := [], alts := [], laidByText := true, laidKinds := [.data, .data, .data], laidTests := true, laidLooks := .later }
def FnExactListTextUptoCardSaid : Prop := Claim7.holds Tryd.pinned (.plain (OpenSpec.upto fnExactListTextSpec)) fnExactListTextUptoCard

/-- THE SECOND FORM's CARD OF 'laws.FnExactReadList'. -/
def fnExactReadListUptoCard : Claim7 := { stood := { row := fnExactReadListUptoRow, standIns := [], harness := (true, "4d42d7739f11e6dcb26f368ffa61e25b5919768577be806e2e3cfd8ba397faf7"), looks := true }, kinds := [], alts := [], laidByText := true, laidKinds := [.data, .data, .data, .data, .sentinel, .sentinel, .pinned], laidTests := true, laidLooks := .later }
def FnExactReadListUptoCardSaid : Prop := Claim7.holds Tryd.pinned (.plain (OpenSpec.upto fnExactReadListSpec)) fnExactReadListUptoCard

/-- THE SECOND FORM's CARD OF 'laws.FnExactIsLabel'. -/
def fnExactIsLabelUptoCard : Claim7 := { stood := { row := fnExactIsLabelUptoRow, standIns := [], harness := (true, "4d42d7739f11e6dcb26f368ffa61e25b5919768577be806e2e3cfd8ba397faf7"), looks := true }, kinds := [], alts := [], laidByText := true, laidKinds := [.data, .data, .data, .data, .sentinel, .sentinel, .pinned], laidTests := true, laidLooks := .later }
def FnExactIsLabelUptoCardSaid : Prop := Claim7.holds Tryd.pinned (.plain (OpenSpec.upto fnExactIsLabelSpec)) fnExactIsLabelUptoCard

/-- THE SECOND FORM's CARD OF 'laws.FnExactLabelName'. -/
def fnExactLabelNameUptoCard : Claim7 := { stood := { row := fnExactLabelNameUptoRow, standIns := [], harness := (true, "4d42d7739f11e6dcb26f368ffa61e25b5919768577be806e2e3cfd8ba397faf7"), looks := true }, kinds := [], alts := [], laidByText := true, laidKinds := [.data, .data, .data, .data, .sentinel, .sentinel, .pinned], laidTests := true, laidLooks := .later }
def FnExactLabelNameUptoCardSaid : Prop := Claim7.holds Tryd.pinned (.plain (OpenSpec.upto fnExactLabelNameSpec)) fnExactLabelNameUptoCard

/-- THE SECOND FORM's CARD OF 'laws.FnExactLabelValues'. -/
def fnExactLabelValuesUptoCard : Claim7 := { stood := { row := fnExactLabelValuesUptoRow, standIns := [], harness := (true, "4d42d7739f11e6dcb26f368ffa61e25b5919768577be806e2e3cfd8ba397faf7"), looks := true }, kinds := [], alts := [], laidByText := true, laidKinds := [.data, .data, .data, .data, .sentinel, .sentinel, .pinned], laidTests := true, laidLooks := .later }
def FnExactLabelValuesUptoCardSaid : Prop := Claim7.holds Tryd.pinned (.plain (OpenSpec.upto fnExactLabelValuesSpec)) fnExactLabelValuesUptoCard

/-- THE SECOND FORM's CARD OF 'laws.FnExactLabelText'. -/
def fnExactLabelTextUptoCard : Claim7 := { stood := { row := fnExactLabelTextUptoRow, standIns := [], harness := (true, "4d42d7739f11e6dcb26f368ffa61e25b5919768577be806e2e3cfd8ba397faf7"), looks := true }, kinds := [], alts := [], laidByText := true, laidKinds := [.data, .data, .data], laidTests := true, laidLooks := .later }
def FnExactLabelTextUptoCardSaid : Prop := Claim7.holds Tryd.pinned (.plain (OpenSpec.upto fnExactLabelTextSpec)) fnExactLabelTextUptoCard
end Rows
end Go.Proofs.YtkfkdaencajplaaDoor
