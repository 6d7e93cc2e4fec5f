/-
  NARROWER THAN 'FOR EVERY INPUT', by the rows' own cells (each row's printed sentence says how): FnExactLevelOf: laid · FnExactOperatorText: laid · FnExactReadOperator: laid · FnExactCanonicalTerms: laid.
  DERIVED. THE GIVEN ROWS OF THIS SEAT. 4 by the template 'for every input the law returns true; each argument reads behind the call as it read before'; 0 by the template 'total and deterministic' (their statements: YthefcnpfefhngaaDoorTotals.lean).
  GIVEN WITH THE SEED: the statements are not yours to turn. If you find one false, say at which input.
  Laid BY PROGRAM, IN A SANDBOX (cutbox-rows.mjs): the forced cells as the released guide's own fill.sh prints them over the translation 0cf1a7a6dce2d9f0… (all of the seat's roots in one cut). By AI agents, Wed Nov 11 2026. No macro, syntax, notation, axiom, sorry.
-/
import Derived.Test.YthefcnpfefhngaaDoorChecked
import GoSem.Claim
import GoSem.ClaimJoined
import GoSem.ClaimMapViews
import Derived.JoinedTies
import Derived.KernelRfl
namespace Go.Proofs.YthefcnpfefhngaaDoor
/- THE CELL 'sum', in the pinned program and in every row, IS THE sha256 OF THE DUMP (.gsa) THAT YthefcnpfefhngaaDoorProg.lean LOADS. Nothing in Lean hashes anything: it is a label: what it is worth is what the hold of that sum in a sandbox is worth. -/
noncomputable def Tryd.pinned : Pinned := { name := "ythefcnpfefhngaadoor", sum := "0cf1a7a6dce2d9f0b495a8424250e54e87446345fe860ab78f3bb62c1f4572da", checked := Tryd.checked }
namespace Rows
def none {H : Type} : Left H := { results := [], args := [] }

/- WHAT THE LISTED PACKAGE-LEVEL VARIABLES READ AS WHEN THE CALL BEGINS. Each datum BY PROGRAM (the guide's laid-datum.mjs) off the statement by which the dump's own 'gosem.cut.vars' lays the variable. In a bare row this is a premise. The card (YthefcnpfefhngaaDoorCards.lean) ties it to the program's text. -/
def laid_loop_example_g01075_impl_operatorForms {H : Type} : DataW H := .agg [.agg [.lit (.string [43]), .lit (.int .i64 4), .lit (.bool true)], .agg [.lit (.string [45]), .lit (.int .i64 4), .lit (.bool false)], .agg [.lit (.string [42]), .lit (.int .i64 5), .lit (.bool true)], .agg [.lit (.string [61]), .lit (.int .i64 3), .lit (.bool true)], .agg [.lit (.string [35]), .lit (.int .i64 3), .lit (.bool true)], .agg [.lit (.string [60]), .lit (.int .i64 3), .lit (.bool false)], .agg [.lit (.string [60, 61]), .lit (.int .i64 3), .lit (.bool false)], .agg [.lit (.string [38]), .lit (.int .i64 2), .lit (.bool true)], .agg [.lit (.string [124]), .lit (.int .i64 1), .lit (.bool true)]]

/-- 'laws.FnExactLevelOf': WHATEVER THE INPUT: true; the input reads as it did. -/
def fnExactLevelOfSpec : ChangeSpec := { name := "fnExactLevelOf", vars := ["loop.example/g01075/impl.operatorForms"], fn := fun _ => fun
  | [d, g1] => { results := [.lit (.bool true)], args := [d], vars := [g1] }
  | _ => none }
def fnExactLevelOfRow : OpenClaim := { program := "ythefcnpfefhngaadoor", sum := "0cf1a7a6dce2d9f0b495a8424250e54e87446345fe860ab78f3bb62c1f4572da", func := "loop.example/g01075/laws.FnExactLevelOf", spec := "fnExactLevelOf", named := ["loop.example/g01075/impl.operatorForms"], apart := false, laid := [("loop.example/g01075/impl.operatorForms", laid_loop_example_g01075_impl_operatorForms)] }
def FnExactLevelOfSaid : Prop := fnExactLevelOfRow.holds Tryd.pinned (OpenSpec.ofChange fnExactLevelOfSpec)

/-- ITS FALSE NEIGHBOUR: 'it returns false'. Refute it at one input. -/
def fnExactLevelOfWrong : ChangeSpec := { name := "fnExactLevelOf", vars := ["loop.example/g01075/impl.operatorForms"], fn := fun _ => fun
  | [d, g1] => { results := [.lit (.bool false)], args := [d], vars := [g1] }
  | _ => none }
def FnExactLevelOfWrongFalsely : Prop := fnExactLevelOfRow.holds Tryd.pinned (OpenSpec.ofChange fnExactLevelOfWrong)

/-- 'laws.FnExactOperatorText': WHATEVER THE INPUT: true; the input reads as it did. -/
def fnExactOperatorTextSpec : ChangeSpec := { name := "fnExactOperatorText", vars := ["loop.example/g01075/impl.operatorForms"], fn := fun _ => fun
  | [d, g1] => { results := [.lit (.bool true)], args := [d], vars := [g1] }
  | _ => none }
def fnExactOperatorTextRow : OpenClaim := { program := "ythefcnpfefhngaadoor", sum := "0cf1a7a6dce2d9f0b495a8424250e54e87446345fe860ab78f3bb62c1f4572da", func := "loop.example/g01075/laws.FnExactOperatorText", spec := "fnExactOperatorText", named := ["loop.example/g01075/impl.operatorForms"], apart := false, laid := [("loop.example/g01075/impl.operatorForms", laid_loop_example_g01075_impl_operatorForms)] }
def FnExactOperatorTextSaid : Prop := fnExactOperatorTextRow.holds Tryd.pinned (OpenSpec.ofChange fnExactOperatorTextSpec)

/-- ITS FALSE NEIGHBOUR: 'it returns false'. Refute it at one input. -/
def fnExactOperatorTextWrong : ChangeSpec := { name := "fnExactOperatorText", vars := ["loop.example/g01075/impl.operatorForms"], fn := fun _ => fun
  | [d, g1] => { results := [.lit (.bool false)], args := [d], vars := [g1] }
  | _ => none }
def FnExactOperatorTextWrongFalsely : Prop := fnExactOperatorTextRow.holds Tryd.pinned (OpenSpec.ofChange fnExactOperatorTextWrong)

/-- 'laws.FnExactReadOperator': WHATEVER THE INPUT: true; the input reads as it did. -/
def fnExactReadOperatorSpec : ChangeSpec := { name := "fnExactReadOperator", vars := ["loop.example/g01075/impl.operatorForms"], fn := fun _ => fun
  | [d, g1] => { results := [.lit (.bool true)], args := [d], vars := [g1] }
  | _ => none }
def fnExactReadOperatorRow : OpenClaim := { program := "ythefcnpfefhngaadoor", sum := "0cf1a7a6dce2d9f0b495a8424250e54e87446345fe860ab78f3bb62c1f4572da", func := "loop.example/g01075/laws.FnExactReadOperator", spec := "fnExactReadOperator", named := ["loop.example/g01075/impl.operatorForms"], apart := false, laid := [("loop.example/g01075/impl.operatorForms", laid_loop_example_g01075_impl_operatorForms)] }
def FnExactReadOperatorSaid : Prop := fnExactReadOperatorRow.holds Tryd.pinned (OpenSpec.ofChange fnExactReadOperatorSpec)

/-- ITS FALSE NEIGHBOUR: 'it returns false'. Refute it at one input. -/
def fnExactReadOperatorWrong : ChangeSpec := { name := "fnExactReadOperator", vars := ["loop.example/g01075/impl.operatorForms"], fn := fun _ => fun
  | [d, g1] => { results := [.lit (.bool false)], args := [d], vars := [g1] }
  | _ => none }
def FnExactReadOperatorWrongFalsely : Prop := fnExactReadOperatorRow.holds Tryd.pinned (OpenSpec.ofChange fnExactReadOperatorWrong)

/-- 'laws.FnExactCanonicalTerms': WHATEVER THE INPUT: true; the input reads as it did. -/
def fnExactCanonicalTermsSpec : ChangeSpec := { name := "fnExactCanonicalTerms", vars := ["loop.example/g01075/impl.operatorForms"], fn := fun _ => fun
  | [d, g1] => { results := [.lit (.bool true)], args := [d], vars := [g1] }
  | _ => none }
def fnExactCanonicalTermsRow : OpenClaim := { program := "ythefcnpfefhngaadoor", sum := "0cf1a7a6dce2d9f0b495a8424250e54e87446345fe860ab78f3bb62c1f4572da", func := "loop.example/g01075/laws.FnExactCanonicalTerms", spec := "fnExactCanonicalTerms", unfollowed := true, recurses := true, named := ["loop.example/g01075/impl.operatorForms"], apart := false, laid := [("loop.example/g01075/impl.operatorForms", laid_loop_example_g01075_impl_operatorForms)] }
def FnExactCanonicalTermsSaid : Prop := fnExactCanonicalTermsRow.holds Tryd.pinned (OpenSpec.ofChange fnExactCanonicalTermsSpec)

/-- ITS FALSE NEIGHBOUR: 'it returns false'. Refute it at one input. -/
def fnExactCanonicalTermsWrong : ChangeSpec := { name := "fnExactCanonicalTerms", vars := ["loop.example/g01075/impl.operatorForms"], fn := fun _ => fun
  | [d, g1] => { results := [.lit (.bool false)], args := [d], vars := [g1] }
  | _ => none }
def FnExactCanonicalTermsWrongFalsely : Prop := fnExactCanonicalTermsRow.holds Tryd.pinned (OpenSpec.ofChange fnExactCanonicalTermsWrong)

/- THE SECOND FORM. 'bulk': how many values and letters a reading holds, each counted each time it is reached (what is shared counts as often as it is met; a slice's spare places count too). A statement '..UptoSaid' is the law's where the arguments, and the package variables that the reading takes, are together of bulk at most 1048576: NARROWER than '..Said'. Prove '..Said' where nothing that the law and all that it calls make is longer than what came in: it says more and counts as full. Else prove '..UptoSaid'. A law counts once. -/
mutual
def uptoBulk {H : Type} : DataW H → Nat
  | .lit (.string bytes) => bytes.length + 1
  | .lit _ => 1
  | .nil => 1
  | .ptr d => uptoBulk d + 1
  | .slice elems spare => uptoBulkAll elems + uptoBulkAll spare + 1
  | .agg parts => uptoBulkAll parts + 1
  | .iface _ d => uptoBulk d + 1
  | .map entries => uptoBulkEntries entries + 1
  | .held _ => 1
def uptoBulkAll {H : Type} : List (DataW H) → Nat
  | [] => 0
  | d :: r => uptoBulk d + uptoBulkAll r
def uptoBulkEntries {H : Type} : List (Lit × DataW H) → Nat
  | [] => 0
  | x :: r => uptoBulkEntry x + uptoBulkEntries r
def uptoBulkEntry {H : Type} : Lit × DataW H → Nat
  | (.string bytes, d) => bytes.length + uptoBulk d + 1
  | (_, d) => uptoBulk d + 1
 end
def uptoSmall : (H : Type) → List (DataW H) → Bool := fun _ ds => decide (uptoBulkAll ds ≤ 1048576)
def OpenSpec.upto (s : _root_.Go.ChangeSpec) : _root_.Go.OpenSpec := { _root_.Go.OpenSpec.ofChange s with cond := some uptoSmall }

/-- 'laws.FnExactLevelOf', WHERE WHAT IT READS IS OF BULK AT MOST 1048576: true; the input reads as it did. -/
def fnExactLevelOfUptoRow : OpenClaim := { program := "ythefcnpfefhngaadoor", sum := "0cf1a7a6dce2d9f0b495a8424250e54e87446345fe860ab78f3bb62c1f4572da", func := "loop.example/g01075/laws.FnExactLevelOf", spec := "fnExactLevelOf", named := ["loop.example/g01075/impl.operatorForms"], apart := false, laid := [("loop.example/g01075/impl.operatorForms", laid_loop_example_g01075_impl_operatorForms)], narrowed := true }
def FnExactLevelOfUptoSaid : Prop := fnExactLevelOfUptoRow.holds Tryd.pinned (OpenSpec.upto fnExactLevelOfSpec)

/-- 'laws.FnExactOperatorText', WHERE WHAT IT READS IS OF BULK AT MOST 1048576: true; the input reads as it did. -/
def fnExactOperatorTextUptoRow : OpenClaim := { program := "ythefcnpfefhngaadoor", sum := "0cf1a7a6dce2d9f0b495a8424250e54e87446345fe860ab78f3bb62c1f4572da", func := "loop.example/g01075/laws.FnExactOperatorText", spec := "fnExactOperatorText", named := ["loop.example/g01075/impl.operatorForms"], apart := false, laid := [("loop.example/g01075/impl.operatorForms", laid_loop_example_g01075_impl_operatorForms)], narrowed := true }
def FnExactOperatorTextUptoSaid : Prop := fnExactOperatorTextUptoRow.holds Tryd.pinned (OpenSpec.upto fnExactOperatorTextSpec)

/-- 'laws.FnExactReadOperator', WHERE WHAT IT READS IS OF BULK AT MOST 1048576: true; the input reads as it did. -/
def fnExactReadOperatorUptoRow : OpenClaim := { program := "ythefcnpfefhngaadoor", sum := "0cf1a7a6dce2d9f0b495a8424250e54e87446345fe860ab78f3bb62c1f4572da", func := "loop.example/g01075/laws.FnExactReadOperator", spec := "fnExactReadOperator", named := ["loop.example/g01075/impl.operatorForms"], apart := false, laid := [("loop.example/g01075/impl.operatorForms", laid_loop_example_g01075_impl_operatorForms)], narrowed := true }
def FnExactReadOperatorUptoSaid : Prop := fnExactReadOperatorUptoRow.holds Tryd.pinned (OpenSpec.upto fnExactReadOperatorSpec)

/-- 'laws.FnExactCanonicalTerms', WHERE WHAT IT READS IS OF BULK AT MOST 1048576: true; the input reads as it did. -/
def fnExactCanonicalTermsUptoRow : OpenClaim := { program := "ythefcnpfefhngaadoor", sum := "0cf1a7a6dce2d9f0b495a8424250e54e87446345fe860ab78f3bb62c1f4572da", func := "loop.example/g01075/laws.FnExactCanonicalTerms", spec := "fnExactCanonicalTerms", unfollowed := true, recurses := true, named := ["loop.example/g01075/impl.operatorForms"], apart := false, laid := [("loop.example/g01075/impl.operatorForms", laid_loop_example_g01075_impl_operatorForms)], narrowed := true }
def FnExactCanonicalTermsUptoSaid : Prop := fnExactCanonicalTermsUptoRow.holds Tryd.pinned (OpenSpec.upto fnExactCanonicalTermsSpec)

end Rows
end Go.Proofs.YthefcnpfefhngaaDoor
