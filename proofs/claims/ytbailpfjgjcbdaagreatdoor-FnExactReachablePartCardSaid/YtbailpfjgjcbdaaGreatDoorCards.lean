/-
  DERIVED. GIVEN WITH THE SEED: THE CARDS: each row of YtbailpfjgjcbdaaGreatDoorRows.lean that lists a variable, with what it lists TIED to the program's text (the seventh form; the later family's looks); each row that meets fmt, with fmt's text TOLD by the authors' own Lean function (tested against real Go, not proved from fmt's source: count such statements apart). THE CARD IS WHAT COUNTS. Prove the row's statement (the work); the ties are given (YtbailpfjgjcbdaaGreatDoorTie.lean); close each card by the builder's one call (the guide's Derived/Test/ToyasCard.lean, 'card_holds'). Laid BY PROGRAM, IN A SANDBOX (cutbox-door.mjs). By AI agents, Wed Nov 11 2026. No macro, syntax, notation, axiom, sorry.
-/
import Derived.Test.YtbailpfjgjcbdaaGreatDoorRows
import GoSem.ClaimSeven
namespace Go.Proofs.YtbailpfjgjcbdaaGreatDoor
namespace Rows

/-- THE TIED CARD OF 'laws.FnExactInternalClosure'. -/
def fnExactInternalClosureCard : Claim7 := { stood := { row := fnExactInternalClosureRow, standIns := [], harness := (true, "7703909e8e127b7b4ef511952278804e11085d2e1421d8d1b3981f55135c4340"), looks := true }, kinds := [], alts := [], laidByText := true, laidKinds := [.data, .data, .data, .data, .sentinel, .sentinel, .pinned], laidTests := true, laidLooks := .later }
def FnExactInternalClosureCardSaid : Prop := Claim7.holds Tryz.pinned (.plain (OpenSpec.ofChange fnExactInternalClosureSpec)) fnExactInternalClosureCard

/-- THE TIED CARD OF 'laws.FnExactAfterTrace'. -/
def fnExactAfterTraceCard : Claim7 := { stood := { row := fnExactAfterTraceRow, standIns := [], harness := (true, "7703909e8e127b7b4ef511952278804e11085d2e1421d8d1b3981f55135c4340"), looks := true }, kinds := [], alts := [], laidByText := true, laidKinds := [.data, .data, .data, .data, .sentinel, .sentinel, .pinned], laidTests := true, laidLooks := .later }
def FnExactAfterTraceCardSaid : Prop := Claim7.holds Tryz.pinned (.plain (OpenSpec.ofChange fnExactAfterTraceSpec)) fnExactAfterTraceCard

/-- THE TIED CARD OF 'laws.FnExactIsCompletedTrace'. -/
def fnExactIsCompletedTraceCard : Claim7 := { stood := { row := fnExactIsCompletedTraceRow, standIns := [], harness := (true, "7703909e8e127b7b4ef511952278804e11085d2e1421d8d1b3981f55135c4340"), looks := true }, kinds := [], alts := [], laidByText := true, laidKinds := [.data, .data, .data, .data, .sentinel, .sentinel, .pinned], laidTests := true, laidLooks := .later }
def FnExactIsCompletedTraceCardSaid : Prop := Claim7.holds Tryz.pinned (.plain (OpenSpec.ofChange fnExactIsCompletedTraceSpec)) fnExactIsCompletedTraceCard

/-- THE TIED CARD OF 'laws.FnExactReachablePart'. -/
def fnExactReachablePartCard : Claim7 := { stood := { row := fnExactReachablePartRow, standIns := [], harness := (true, "7703909e8e127b7b4ef511952278804e11085d2e1421d8d1b3981f55135c4340"), looks := true }, kinds := [], alts := [], laidByText := true, laidKinds := [.data, .data, .data, .data, .sentinel, .sentinel, .pinned], laidTests := true, laidLooks := .later }
def FnExactReachablePartCardSaid : Prop := Claim7.holds Tryz.pinned (.plain (OpenSpec.ofChange fnExactReachablePartSpec)) fnExactReachablePartCard

/-- THE SECOND FORM's CARD OF 'laws.FnExactInternalClosure'. -/
def fnExactInternalClosureUptoCard : Claim7 := { stood := { row := fnExactInternalClosureUptoRow, standIns := [], harness := (true, "7703909e8e127b7b4ef511952278804e11085d2e1421d8d1b3981f55135c4340"), looks := true }, kinds := [], alts := [], laidByText := true, laidKinds := [.data, .data, .data, .data, .sentinel, .sentinel, .pinned], laidTests := true, laidLooks := .later }
def FnExactInternalClosureUptoCardSaid : Prop := Claim7.holds Tryz.pinned (.plain (OpenSpec.upto fnExactInternalClosureSpec)) fnExactInternalClosureUptoCard

/-- THE SECOND FORM's CARD OF 'laws.FnExactAfterTrace'. -/
def fnExactAfterTraceUptoCard : Claim7 := { stood := { row := fnExactAfterTraceUptoRow, standIns := [], harness := (true, "7703909e8e127b7b4ef511952278804e11085d2e1421d8d1b3981f55135c4340"), looks := true }, kinds := [], alts := [], laidByText := true, laidKinds := [.data, .data, .data, .data, .sentinel, .sentinel, .pinned], laidTests := true, laidLooks := .later }
def FnExactAfterTraceUptoCardSaid : Prop := Claim7.holds Tryz.pinned (.plain (OpenSpec.upto fnExactAfterTraceSpec)) fnExactAfterTraceUptoCard

/-- THE SECOND FORM's CARD OF 'laws.FnExactIsCompletedTrace'. -/
def fnExactIsCompletedTraceUptoCard : Claim7 := { stood := { row := fnExactIsCompletedTraceUptoRow, standIns := [], harness := (true, "7703909e8e127b7b4ef511952278804e11085d2e1421d8d1b3981f55135c4340"), looks := true }, kinds := [], alts := [], laidByText := true, laidKinds := [.data, .data, .data, .data, .sentinel, .sentinel, .pinned], laidTests := true, laidLooks := .later }
def FnExactIsCompletedTraceUptoCardSaid : Prop := Claim7.holds Tryz.pinned (.plain (OpenSpec.upto fnExactIsCompletedTraceSpec)) fnExactIsCompletedTraceUptoCard

/-- THE SECOND FORM's CARD OF 'laws.FnExactReachablePart'. -/
def fnExactReachablePartUptoCard : Claim7 := { stood := { row := fnExactReachablePartUptoRow, standIns := [], harness := (true, "7703909e8e127b7b4ef511952278804e11085d2e1421d8d1b3981f55135c4340"), looks := true }, kinds := [], alts := [], laidByText := true, laidKinds := [.data, .data, .data, .data, .sentinel, .sentinel, .pinned], laidTests := true, laidLooks := .later }
def FnExactReachablePartUptoCardSaid : Prop := Claim7.holds Tryz.pinned (.plain (OpenSpec.upto fnExactReachablePartSpec)) fnExactReachablePartUptoCard
end Rows
end Go.Proofs.YtbailpfjgjcbdaaGreatDoor
