/-
  DERIVED. GIVEN WITH THE SEED: THE CARDS: each row of YthefcnpfefhngaaDoorRows.lean that lists a variable, with what it lists TIED to the program's text (the seventh form; the later family's looks); each row that meets fmt, with fmt's text TOLD by the authors' own Lean function (tested against real Go, not proved from fmt's source: count such statements apart). THE CARD IS WHAT COUNTS. Prove the row's statement (the work); the ties are given (YthefcnpfefhngaaDoorTie.lean); close each card by the builder's one call (the guide's Derived/Test/ToyasCard.lean, 'card_holds'). Laid BY PROGRAM, IN A SANDBOX (cutbox-door.mjs). By AI agents, Wed Nov 11 2026. No macro, syntax, notation, axiom, sorry.
-/
import Derived.Test.YthefcnpfefhngaaDoorRows
import GoSem.ClaimSeven
namespace Go.Proofs.YthefcnpfefhngaaDoor
namespace Rows

/-- THE TIED CARD OF 'laws.FnExactLevelOf'. -/
def fnExactLevelOfCard : Claim7 := { stood := { row := fnExactLevelOfRow, standIns := [], harness := (true, "3c8e8baa736ea3152e5fe931607c82cf393a2a5f432ce13c3bc17e6eb514393e"), looks := false }, kinds := [], alts := [], laidByText := true, laidKinds := [.data], laidTests := true, laidLooks := .later }
def FnExactLevelOfCardSaid : Prop := Claim7.holds Tryd.pinned (.plain (OpenSpec.ofChange fnExactLevelOfSpec)) fnExactLevelOfCard

/-- THE TIED CARD OF 'laws.FnExactOperatorText'. -/
def fnExactOperatorTextCard : Claim7 := { stood := { row := fnExactOperatorTextRow, standIns := [], harness := (true, "3c8e8baa736ea3152e5fe931607c82cf393a2a5f432ce13c3bc17e6eb514393e"), looks := false }, kinds := [], alts := [], laidByText := true, laidKinds := [.data], laidTests := true, laidLooks := .later }
def FnExactOperatorTextCardSaid : Prop := Claim7.holds Tryd.pinned (.plain (OpenSpec.ofChange fnExactOperatorTextSpec)) fnExactOperatorTextCard

/-- THE TIED CARD OF 'laws.FnExactReadOperator'. -/
def fnExactReadOperatorCard : Claim7 := { stood := { row := fnExactReadOperatorRow, standIns := [], harness := (true, "3c8e8baa736ea3152e5fe931607c82cf393a2a5f432ce13c3bc17e6eb514393e"), looks := false }, kinds := [], alts := [], laidByText := true, laidKinds := [.data], laidTests := true, laidLooks := .later }
def FnExactReadOperatorCardSaid : Prop := Claim7.holds Tryd.pinned (.plain (OpenSpec.ofChange fnExactReadOperatorSpec)) fnExactReadOperatorCard

/-- THE TIED CARD OF 'laws.FnExactCanonicalTerms'. -/
def fnExactCanonicalTermsCard : Claim7 := { stood := { row := fnExactCanonicalTermsRow, standIns := [], harness := (true, "3c8e8baa736ea3152e5fe931607c82cf393a2a5f432ce13c3bc17e6eb514393e"), looks := false }, kinds := [], alts := [], laidByText := true, laidKinds := [.data], laidTests := true, laidLooks := .later }
def FnExactCanonicalTermsCardSaid : Prop := Claim7.holds Tryd.pinned (.plain (OpenSpec.ofChange fnExactCanonicalTermsSpec)) fnExactCanonicalTermsCard

/-- THE SECOND FORM's CARD OF 'laws.FnExactLevelOf'. -/
def fnExactLevelOfUptoCard : Claim7 := { stood := { row := fnExactLevelOfUptoRow, standIns := [], harness := (true, "3c8e8baa736ea3152e5fe931607c82cf393a2a5f432ce13c3bc17e6eb514393e"), looks := false }, kinds := [], alts := [], laidByText := true, laidKinds := [.data], laidTests := true, laidLooks := .later }
def FnExactLevelOfUptoCardSaid : Prop := Claim7.holds Tryd.pinned (.plain (OpenSpec.upto fnExactLevelOfSpec)) fnExactLevelOfUptoCard

/-- THE SECOND FORM's CARD OF 'laws.FnExactOperatorText'. -/
def fnExactOperatorTextUptoCard : Claim7 := { stood := { row := fnExactOperatorTextUptoRow, standIns := [], harness := (true, "3c8e8baa736ea3152e5fe931607c82cf393a2a5f432ce13c3bc17e6eb514393e"), looks := false }, kinds := [], alts := [], laidByText := true, laidKinds := [.data], laidTests := true, laidLooks := .later }
def FnExactOperatorTextUptoCardSaid : Prop := Claim7.holds Tryd.pinned (.plain (OpenSpec.upto fnExactOperatorTextSpec)) fnExactOperatorTextUptoCard

/-- THE SECOND FORM's CARD OF 'laws.FnExactReadOperator'. -/
def fnExactReadOperatorUptoCard : Claim7 := { stood := { row := fnExactReadOperatorUptoRow, standIns := [], harness := (true, "3c8e8baa736ea3152e5fe931607c82cf393a2a5f432ce13c3bc17e6eb514393e"), looks := false }, kinds := [], alts := [], laidByText := true, laidKinds := [.data], laidTests := true, laidLooks := .later }
def FnExactReadOperatorUptoCardSaid : Prop := Claim7.holds Tryd.pinned (.plain (OpenSpec.upto fnExactReadOperatorSpec)) fnExactReadOperatorUptoCard

/-- THE SECOND FORM's CARD OF 'laws.FnExactCanonicalTerms'. -/
def fnExactCanonicalTermsUptoCard : Claim7 := { stood := { row := fnExactCanonicalTermsUptoRow, standIns := [], harness := (true, "3c8e8baa736ea3152e5fe931607c82cf393a2a5f432ce13c3bc17e6eb514393e"), looks := false }, kinds := [], alts := [], laidByText := true, laidKinds := [.data], laidTests := true, laidLooks := .later }
def FnExactCanonicalTermsUptoCardSaid : Prop := Claim7.holds Tryd.pinned (.plain (OpenSpec.upto fnExactCanonicalTermsSpec)) fnExactCanonicalTermsUptoCard
end Rows
end Go.Proofs.YthefcnpfefhngaaDoor
