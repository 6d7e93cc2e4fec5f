/-
  DERIVED. GIVEN WITH THE SEED: THE CARDS: each row of YtdgcpaeneafejaaGreatDoorRows.lean that lists a variable, with what it lists TIED to the program's text (the seventh form; the later family's looks); each row that meets fmt, with fmt's text TOLD by the authors' own Lean function (tested against real Go, not proved from fmt's source: count such statements apart). THE CARD IS WHAT COUNTS. Prove the row's statement (the work); the ties are given (YtdgcpaeneafejaaGreatDoorTie.lean); close each card by the builder's one call (the guide's Derived/Test/ToyasCard.lean, 'card_holds'). Laid BY PROGRAM, IN A SANDBOX (cutbox-door.mjs). By AI agents, Wed Nov 11 2026. No macro, syntax, notation, axiom, sorry.
-/
import Derived.Test.YtdgcpaeneafejaaGreatDoorRows
import GoSem.ClaimSeven
namespace Go.Proofs.YtdgcpaeneafejaaGreatDoor
namespace Rows

/-- THE TIED CARD OF 'laws.FnExactMeetingOf'. -/
def fnExactMeetingOfCard : Claim7 := { stood := { row := fnExactMeetingOfRow, standIns := [], harness := (true, "e299bcfcf81a9a45770dbc99fc9df8889590e9ccb47f7d178dbeded7909880ea"), looks := false }, kinds := [], alts := [], laidByText := true, laidKinds := [.data], laidTests := true, laidLooks := .later }
def FnExactMeetingOfCardSaid : Prop := Claim7.holds Tryz.pinned (.plain (OpenSpec.ofChange fnExactMeetingOfSpec)) fnExactMeetingOfCard

/-- THE TIED CARD OF 'laws.FnExactAddComponent'. -/
def fnExactAddComponentCard : Claim7 := { stood := { row := fnExactAddComponentRow, standIns := [], harness := (true, "e299bcfcf81a9a45770dbc99fc9df8889590e9ccb47f7d178dbeded7909880ea"), looks := false }, kinds := [], alts := [], laidByText := true, laidKinds := [.data], laidTests := true, laidLooks := .later }
def FnExactAddComponentCardSaid : Prop := Claim7.holds Tryz.pinned (.plain (OpenSpec.ofChange fnExactAddComponentSpec)) fnExactAddComponentCard

/-- THE TIED CARD OF 'laws.FnExactRemoveComponent'. -/
def fnExactRemoveComponentCard : Claim7 := { stood := { row := fnExactRemoveComponentRow, standIns := [], harness := (true, "e299bcfcf81a9a45770dbc99fc9df8889590e9ccb47f7d178dbeded7909880ea"), looks := false }, kinds := [], alts := [], laidByText := true, laidKinds := [.data], laidTests := true, laidLooks := .later }
def FnExactRemoveComponentCardSaid : Prop := Claim7.holds Tryz.pinned (.plain (OpenSpec.ofChange fnExactRemoveComponentSpec)) fnExactRemoveComponentCard

/-- THE TIED CARD OF 'laws.FnExactRenameDefinition'. -/
def fnExactRenameDefinitionCard : Claim7 := { stood := { row := fnExactRenameDefinitionRow, standIns := [], harness := (true, "e299bcfcf81a9a45770dbc99fc9df8889590e9ccb47f7d178dbeded7909880ea"), looks := false }, kinds := [], alts := [], laidByText := true, laidKinds := [.data], laidTests := true, laidLooks := .later }
def FnExactRenameDefinitionCardSaid : Prop := Claim7.holds Tryz.pinned (.plain (OpenSpec.ofChange fnExactRenameDefinitionSpec)) fnExactRenameDefinitionCard

/-- THE TIED CARD OF 'laws.FnExactValidState'. -/
def fnExactValidStateCard : Claim7 := { stood := { row := fnExactValidStateRow, standIns := [], harness := (true, "e299bcfcf81a9a45770dbc99fc9df8889590e9ccb47f7d178dbeded7909880ea"), looks := false }, kinds := [], alts := [], laidByText := true, laidKinds := [.data], laidTests := true, laidLooks := .later }
def FnExactValidStateCardSaid : Prop := Claim7.holds Tryz.pinned (.plain (OpenSpec.ofChange fnExactValidStateSpec)) fnExactValidStateCard

/-- THE TIED CARD OF 'laws.FnExactStartState'. -/
def fnExactStartStateCard : Claim7 := { stood := { row := fnExactStartStateRow, standIns := [], harness := (true, "e299bcfcf81a9a45770dbc99fc9df8889590e9ccb47f7d178dbeded7909880ea"), looks := false }, kinds := [], alts := [], laidByText := true, laidKinds := [.data], laidTests := true, laidLooks := .later }
def FnExactStartStateCardSaid : Prop := Claim7.holds Tryz.pinned (.plain (OpenSpec.ofChange fnExactStartStateSpec)) fnExactStartStateCard

/-- THE SECOND FORM's CARD OF 'laws.FnExactMeetingOf'. -/
def fnExactMeetingOfUptoCard : Claim7 := { stood := { row := fnExactMeetingOfUptoRow, standIns := [], harness := (true, "e299bcfcf81a9a45770dbc99fc9df8889590e9ccb47f7d178dbeded7909880ea"), looks := false }, kinds := [], alts := [], laidByText := true, laidKinds := [.data], laidTests := true, laidLooks := .later }
def FnExactMeetingOfUptoCardSaid : Prop := Claim7.holds Tryz.pinned (.plain (OpenSpec.upto fnExactMeetingOfSpec)) fnExactMeetingOfUptoCard

/-- THE SECOND FORM's CARD OF 'laws.FnExactAddComponent'. -/
def fnExactAddComponentUptoCard : Claim7 := { stood := { row := fnExactAddComponentUptoRow, standIns := [], harness := (true, "e299bcfcf81a9a45770dbc99fc9df8889590e9ccb47f7d178dbeded7909880ea"), looks := false }, kinds := [], alts := [], laidByText := true, laidKinds := [.data], laidTests := true, laidLooks := .later }
def FnExactAddComponentUptoCardSaid : Prop := Claim7.holds Tryz.pinned (.plain (OpenSpec.upto fnExactAddComponentSpec)) fnExactAddComponentUptoCard

/-- THE SECOND FORM's CARD OF 'laws.FnExactRemoveComponent'. -/
def fnExactRemoveComponentUptoCard : Claim7 := { stood := { row := fnExactRemoveComponentUptoRow, standIns := [], harness := (true, "e299bcfcf81a9a45770dbc99fc9df8889590e9ccb47f7d178dbeded7909880ea"), looks := false }, kinds := [], alts := [], laidByText := true, laidKinds := [.data], laidTests := true, laidLooks := .later }
def FnExactRemoveComponentUptoCardSaid : Prop := Claim7.holds Tryz.pinned (.plain (OpenSpec.upto fnExactRemoveComponentSpec)) fnExactRemoveComponentUptoCard

/-- THE SECOND FORM's CARD OF 'laws.FnExactRenameDefinition'. -/
def fnExactRenameDefinitionUptoCard : Claim7 := { stood := { row := fnExactRenameDefinitionUptoRow, standIns := [], harness := (true, "e299bcfcf81a9a45770dbc99fc9df8889590e9ccb47f7d178dbeded7909880ea"), looks := false }, kinds := [], alts := [], laidByText := true, laidKinds := [.data], laidTests := true, laidLooks := .later }
def FnExactRenameDefinitionUptoCardSaid : Prop := Claim7.holds Tryz.pinned (.plain (OpenSpec.upto fnExactRenameDefinitionSpec)) fnExactRenameDefinitionUptoCard

/-- THE SECOND FORM's CARD OF 'laws.FnExactValidState'. -/
def fnExactValidStateUptoCard : Claim7 := { stood := { row := fnExactValidStateUptoRow, standIns := [], harness := (true, "e299bcfcf81a9a45770dbc99fc9df8889590e9ccb47f7d178dbeded7909880ea"), looks := false }, kinds := [], alts := [], laidByText := true, laidKinds := [.data], laidTests := true, laidLooks := .later }
def FnExactValidStateUptoCardSaid : Prop := Claim7.holds Tryz.pinned (.plain (OpenSpec.upto fnExactValidStateSpec)) fnExactValidStateUptoCard

/-- THE SECOND FORM's CARD OF 'laws.FnExactStartState'. -/
def fnExactStartStateUptoCard : Claim7 := { stood := { row := fnExactStartStateUptoRow, standIns := [], harness := (true, "e299bcfcf81a9a45770dbc99fc9df8889590e9ccb47f7d178dbeded7909880ea"), looks := false }, kinds := [], alts := [], laidByText := true, laidKinds := [.data], laidTests := true, laidLooks := .later }
def FnExactStartStateUptoCardSaid : Prop := Claim7.holds Tryz.pinned (.plain (OpenSpec.upto fnExactStartStateSpec)) fnExactStartStateUptoCard
end Rows
end Go.Proofs.YtdgcpaeneafejaaGreatDoor
