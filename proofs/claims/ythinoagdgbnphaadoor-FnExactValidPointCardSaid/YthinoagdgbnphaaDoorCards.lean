/-
  DERIVED. GIVEN WITH THE SEED: THE CARDS: each row of YthinoagdgbnphaaDoorRows.lean that lists a variable, with what it lists TIED to the program's text (the seventh form; the later family's looks); each row that meets fmt, with fmt's text TOLD by the authors' own Lean function (tested against real Go, not proved from fmt's source: count such statements apart). THE CARD IS WHAT COUNTS. Prove the row's statement (the work); the ties are given (YthinoagdgbnphaaDoorTie.lean); close each card by the builder's one call (the guide's Derived/Test/ToyasCard.lean, 'card_holds'). Laid BY PROGRAM, IN A SANDBOX (cutbox-door.mjs). By AI agents, Wed Nov 11 2026. No macro, syntax, notation, axiom, sorry.
-/
import Derived.Test.YthinoagdgbnphaaDoorRows
import GoSem.ClaimSeven
namespace Go.Proofs.YthinoagdgbnphaaDoor
namespace Rows

/-- THE TIED CARD OF 'laws.FnExactValidPoint'. -/
def fnExactValidPointCard : Claim7 := { stood := { row := fnExactValidPointRow, standIns := [], harness := (true, "2d07cb5c3ea541e30edff4e662097642280d8014a995fce4ddf40b0251b0f9cf"), looks := false }, kinds := [], alts := [], laidByText := true, laidKinds := [.data], laidTests := true, laidLooks := .later }
def FnExactValidPointCardSaid : Prop := Claim7.holds Tryd.pinned (.plain (OpenSpec.ofChange fnExactValidPointSpec)) fnExactValidPointCard

/-- THE SECOND FORM's CARD OF 'laws.FnExactValidPoint'. -/
def fnExactValidPointUptoCard : Claim7 := { stood := { row := fnExactValidPointUptoRow, standIns := [], harness := (true, "2d07cb5c3ea541e30edff4e662097642280d8014a995fce4ddf40b0251b0f9cf"), looks := false }, kinds := [], alts := [], laidByText := true, laidKinds := [.data], laidTests := true, laidLooks := .later }
def FnExactValidPointUptoCardSaid : Prop := Claim7.holds Tryd.pinned (.plain (OpenSpec.upto fnExactValidPointSpec)) fnExactValidPointUptoCard
end Rows
end Go.Proofs.YthinoagdgbnphaaDoor
