/-
  DERIVED. GIVEN WITH THE SEED: THE CARDS: each row of YthbnfjedjijacaaGreatDoorRows.lean that lists a variable, with what it lists TIED to the program's text (the seventh form; the later family's looks); each row that meets fmt, with fmt's text TOLD by the authors' own Lean function (tested against real Go, not proved from fmt's source: count such statements apart). THE CARD IS WHAT COUNTS. Prove the row's statement (the work); the ties are given (YthbnfjedjijacaaGreatDoorTie.lean); close each card by the builder's one call (the guide's Derived/Test/ToyasCard.lean, 'card_holds'). Laid BY PROGRAM, IN A SANDBOX (cutbox-door.mjs). By AI agents, Wed Nov 11 2026. No macro, syntax, notation, axiom, sorry.
-/
import Derived.Test.YthbnfjedjijacaaGreatDoorRows
import GoSem.ClaimSeven
namespace Go.Proofs.YthbnfjedjijacaaGreatDoor
namespace Rows

/-- THE TIED CARD OF 'laws.FnExactLtsText'. -/
def fnExactLtsTextCard : Claim7 := { stood := { row := fnExactLtsTextRow, standIns := [], harness := (true, "0e9ae378fa6b064961462ba4f6d6a8d332ca129273d2bc1d21d0bee007fc2e35"), looks := true }, kinds := [], alts := [], laidByText := true, laidKinds := [.data, .data, .data, .data, .sentinel, .sentinel, .pinned], laidTests := true, laidLooks := .later }
def FnExactLtsTextCardSaid : Prop := Claim7.holds Tryz.pinned (.plain (OpenSpec.ofChange fnExactLtsTextSpec)) fnExactLtsTextCard

/-- THE TIED CARD OF 'laws.FnExactOutOf'. -/
def fnExactOutOfCard : Claim7 := { stood := { row := fnExactOutOfRow, standIns := [], harness := (true, "0e9ae378fa6b064961462ba4f6d6a8d332ca129273d2bc1d21d0bee007fc2e35"), looks := true }, kinds := [], alts := [], laidByText := true, laidKinds := [.data, .data, .data, .data, .sentinel, .sentinel, .pinned], laidTests := true, laidLooks := .later }
def FnExactOutOfCardSaid : Prop := Claim7.holds Tryz.pinned (.plain (OpenSpec.ofChange fnExactOutOfSpec)) fnExactOutOfCard

/-- THE TIED CARD OF 'laws.FnExactSuccessorsOf'. -/
def fnExactSuccessorsOfCard : Claim7 := { stood := { row := fnExactSuccessorsOfRow, standIns := [], harness := (true, "0e9ae378fa6b064961462ba4f6d6a8d332ca129273d2bc1d21d0bee007fc2e35"), looks := true }, kinds := [], alts := [], laidByText := true, laidKinds := [.data, .data, .data, .data, .sentinel, .sentinel, .pinned], laidTests := true, laidLooks := .later }
def FnExactSuccessorsOfCardSaid : Prop := Claim7.holds Tryz.pinned (.plain (OpenSpec.ofChange fnExactSuccessorsOfSpec)) fnExactSuccessorsOfCard

/-- THE TIED CARD OF 'laws.FnExactIsDeterministicLts'. -/
def fnExactIsDeterministicLtsCard : Claim7 := { stood := { row := fnExactIsDeterministicLtsRow, standIns := [], harness := (true, "0e9ae378fa6b064961462ba4f6d6a8d332ca129273d2bc1d21d0bee007fc2e35"), looks := true }, kinds := [], alts := [], laidByText := true, laidKinds := [.data, .data, .data, .data, .sentinel, .sentinel, .pinned], laidTests := true, laidLooks := .later }
def FnExactIsDeterministicLtsCardSaid : Prop := Claim7.holds Tryz.pinned (.plain (OpenSpec.ofChange fnExactIsDeterministicLtsSpec)) fnExactIsDeterministicLtsCard

/-- THE TIED CARD OF 'laws.FnExactReachableStates'. -/
def fnExactReachableStatesCard : Claim7 := { stood := { row := fnExactReachableStatesRow, standIns := [], harness := (true, "0e9ae378fa6b064961462ba4f6d6a8d332ca129273d2bc1d21d0bee007fc2e35"), looks := true }, kinds := [], alts := [], laidByText := true, laidKinds := [.data, .data, .data, .data, .sentinel, .sentinel, .pinned], laidTests := true, laidLooks := .later }
def FnExactReachableStatesCardSaid : Prop := Claim7.holds Tryz.pinned (.plain (OpenSpec.ofChange fnExactReachableStatesSpec)) fnExactReachableStatesCard

/-- THE TIED CARD OF 'laws.FnExactDeadlocksOf'. -/
def fnExactDeadlocksOfCard : Claim7 := { stood := { row := fnExactDeadlocksOfRow, standIns := [], harness := (true, "0e9ae378fa6b064961462ba4f6d6a8d332ca129273d2bc1d21d0bee007fc2e35"), looks := true }, kinds := [], alts := [], laidByText := true, laidKinds := [.data, .data, .data, .data, .sentinel, .sentinel, .pinned], laidTests := true, laidLooks := .later }
def FnExactDeadlocksOfCardSaid : Prop := Claim7.holds Tryz.pinned (.plain (OpenSpec.ofChange fnExactDeadlocksOfSpec)) fnExactDeadlocksOfCard

/-- THE SECOND FORM's CARD OF 'laws.FnExactLtsText'. -/
def fnExactLtsTextUptoCard : Claim7 := { stood := { row := fnExactLtsTextUptoRow, standIns := [], harness := (true, "0e9ae378fa6b064961462ba4f6d6a8d332ca129273d2bc1d21d0bee007fc2e35"), looks := true }, kinds := [], alts := [], laidByText := true, laidKinds := [.data, .data, .data, .data, .sentinel, .sentinel, .pinned], laidTests := true, laidLooks := .later }
def FnExactLtsTextUptoCardSaid : Prop := Claim7.holds Tryz.pinned (.plain (OpenSpec.upto fnExactLtsTextSpec)) fnExactLtsTextUptoCard

/-- THE SECOND FORM's CARD OF 'laws.FnExactOutOf'. -/
def fnExactOutOfUptoCard : Claim7 := { stood := { row := fnExactOutOfUptoRow, standIns := [], harness := (true, "0e9ae378fa6b064961462ba4f6d6a8d332ca129273d2bc1d21d0bee007fc2e35"), looks := true }, kinds := [], alts := [], laidByText := true, laidKinds := [.data, .data, .data, .data, .sentinel, .sentinel, .pinned], laidTests := true, laidLooks := .later }
def FnExactOutOfUptoCardSaid : Prop := Claim7.holds Tryz.pinned (.plain (OpenSpec.upto fnExactOutOfSpec)) fnExactOutOfUptoCard

/-- THE SECOND FORM's CARD OF 'laws.FnExactSuccessorsOf'. -/
def fnExactSuccessorsOfUptoCard : Claim7 := { stood := { row := fnExactSuccessorsOfUptoRow, standIns := [], harness := (true, "0e9ae378fa6b064961462ba4f6d6a8d332ca129273d2bc1d21d0bee007fc2e35"), looks := true }, kinds := [], alts := [], laidByText := true, laidKinds := [.data, .data, .data, .data, .sentinel, .sentinel, .pinned], laidTests := true, laidLooks := .later }
def FnExactSuccessorsOfUptoCardSaid : Prop := Claim7.holds Tryz.pinned (.plain (OpenSpec.upto fnExactSuccessorsOfSpec)) fnExactSuccessorsOfUptoCard

/-- THE SECOND FORM's CARD OF 'laws.FnExactIsDeterministicLts'. -/
def fnExactIsDeterministicLtsUptoCard : Claim7 := { stood := { row := fnExactIsDeterministicLtsUptoRow, standIns := [], harness := (true, "0e9ae378fa6b064961462ba4f6d6a8d332ca129273d2bc1d21d0bee007fc2e35"), looks := true }, kinds := [], alts := [], laidByText := true, laidKinds := [.data, .data, .data, .data, .sentinel, .sentinel, .pinned], laidTests := true, laidLooks := .later }
def FnExactIsDeterministicLtsUptoCardSaid : Prop := Claim7.holds Tryz.pinned (.plain (OpenSpec.upto fnExactIsDeterministicLtsSpec)) fnExactIsDeterministicLtsUptoCard

/-- THE SECOND FORM's CARD OF 'laws.FnExactReachableStates'. -/
def fnExactReachableStatesUptoCard : Claim7 := { stood := { row := fnExactReachableStatesUptoRow, standIns := [], harness := (true, "0e9ae378fa6b064961462ba4f6d6a8d332ca129273d2bc1d21d0bee007fc2e35"), looks := true }, kinds := [], alts := [], laidByText := true, laidKinds := [.data, .data, .data, .data, .sentinel, .sentinel, .pinned], laidTests := true, laidLooks := .later }
def FnExactReachableStatesUptoCardSaid : Prop := Claim7.holds Tryz.pinned (.plain (OpenSpec.upto fnExactReachableStatesSpec)) fnExactReachableStatesUptoCard

/-- THE SECOND FORM's CARD OF 'laws.FnExactDeadlocksOf'. -/
def fnExactDeadlocksOfUptoCard : Claim7 := { stood := { row := fnExactDeadlocksOfUptoRow, standIns := [], harness := (true, "0e9ae378fa6b064961462ba4f6d6a8d332ca129273d2bc1d21d0bee007fc2e35"), looks := true }, kinds := [], alts := [], laidByText := true, laidKinds := [.data, .data, .data, .data, .sentinel, .sentinel, .pinned], laidTests := true, laidLooks := .later }
def FnExactDeadlocksOfUptoCardSaid : Prop := Claim7.holds Tryz.pinned (.plain (OpenSpec.upto fnExactDeadlocksOfSpec)) fnExactDeadlocksOfUptoCard
end Rows
end Go.Proofs.YthbnfjedjijacaaGreatDoor
