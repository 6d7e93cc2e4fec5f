/-
  DERIVED. GIVEN WITH THE SEED: THE CARDS: each row of YtpkcpjimioldlaaDoorRows.lean that lists a variable, with what it lists TIED to the program's text (the seventh form; the later family's looks); each row that meets fmt, with fmt's text TOLD by the authors' own Lean function (tested against real Go, not proved from fmt's source: count such statements apart). THE CARD IS WHAT COUNTS. Prove the row's statement (the work); the ties are given (YtpkcpjimioldlaaDoorTie.lean); close each card by the builder's one call (the guide's Derived/Test/ToyasCard.lean, 'card_holds'). Laid BY PROGRAM, IN A SANDBOX (cutbox-door.mjs). By AI agents, Wed Nov 11 2026. No macro, syntax, notation, axiom, sorry.
-/
import Derived.Test.YtpkcpjimioldlaaDoorRows
import GoSem.ClaimSeven
namespace Go.Proofs.YtpkcpjimioldlaaDoor
namespace Rows

/-- THE TIED CARD OF 'laws.FnExactValidDefinitions'. -/
def fnExactValidDefinitionsCard : Claim7 := { stood := { row := fnExactValidDefinitionsRow, standIns := [], harness := (true, "06b3b5167fcc622c4188134ebf9484ec2adf229b6554557639a551f870153d2b"), looks := false }, kinds := [], alts := [], laidByText := true, laidKinds := [.data], laidTests := true, laidLooks := .later }
def FnExactValidDefinitionsCardSaid : Prop := Claim7.holds Tryd.pinned (.plain (OpenSpec.ofChange fnExactValidDefinitionsSpec)) fnExactValidDefinitionsCard

/-- THE TIED CARD OF 'laws.FnExactPartEnd'. -/
def fnExactPartEndCard : Claim7 := { stood := { row := fnExactPartEndRow, standIns := [], harness := (true, "06b3b5167fcc622c4188134ebf9484ec2adf229b6554557639a551f870153d2b"), looks := false }, kinds := [], alts := [], laidByText := true, laidKinds := [.data], laidTests := true, laidLooks := .later }
def FnExactPartEndCardSaid : Prop := Claim7.holds Tryd.pinned (.plain (OpenSpec.ofChange fnExactPartEndSpec)) fnExactPartEndCard

/-- THE TIED CARD OF 'laws.FnExactScopeAt'. -/
def fnExactScopeAtCard : Claim7 := { stood := { row := fnExactScopeAtRow, standIns := [], harness := (true, "06b3b5167fcc622c4188134ebf9484ec2adf229b6554557639a551f870153d2b"), looks := false }, kinds := [], alts := [], laidByText := true, laidKinds := [.data], laidTests := true, laidLooks := .later }
def FnExactScopeAtCardSaid : Prop := Claim7.holds Tryd.pinned (.plain (OpenSpec.ofChange fnExactScopeAtSpec)) fnExactScopeAtCard

/-- THE SECOND FORM's CARD OF 'laws.FnExactValidDefinitions'. -/
def fnExactValidDefinitionsUptoCard : Claim7 := { stood := { row := fnExactValidDefinitionsUptoRow, standIns := [], harness := (true, "06b3b5167fcc622c4188134ebf9484ec2adf229b6554557639a551f870153d2b"), looks := false }, kinds := [], alts := [], laidByText := true, laidKinds := [.data], laidTests := true, laidLooks := .later }
def FnExactValidDefinitionsUptoCardSaid : Prop := Claim7.holds Tryd.pinned (.plain (OpenSpec.upto fnExactValidDefinitionsSpec)) fnExactValidDefinitionsUptoCard

/-- THE SECOND FORM's CARD OF 'laws.FnExactPartEnd'. -/
def fnExactPartEndUptoCard : Claim7 := { stood := { row := fnExactPartEndUptoRow, standIns := [], harness := (true, "06b3b5167fcc622c4188134ebf9484ec2adf229b6554557639a551f870153d2b"), looks := false }, kinds := [], alts := [], laidByText := true, laidKinds := [.data], laidTests := true, laidLooks := .later }
def FnExactPartEndUptoCardSaid : Prop := Claim7.holds Tryd.pinned (.plain (OpenSpec.upto fnExactPartEndSpec)) fnExactPartEndUptoCard

/-- THE SECOND FORM's CARD OF 'laws.FnExactScopeAt'. -/
def fnExactScopeAtUptoCard : Claim7 := { stood := { row := fnExactScopeAtUptoRow, standIns := [], harness := (true, "06b3b5167fcc622c4188134ebf9484ec2adf229b6554557639a551f870153d2b"), looks := false }, kinds := [], alts := [], laidByText := true, laidKinds := [.data], laidTests := true, laidLooks := .later }
def FnExactScopeAtUptoCardSaid : Prop := Claim7.holds Tryd.pinned (.plain (OpenSpec.upto fnExactScopeAtSpec)) fnExactScopeAtUptoCard
end Rows
end Go.Proofs.YtpkcpjimioldlaaDoor
