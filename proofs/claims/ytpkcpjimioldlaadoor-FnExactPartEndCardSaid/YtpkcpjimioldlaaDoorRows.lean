/-
  NARROWER THAN 'FOR EVERY INPUT', by the rows' own cells (each row's printed sentence says how): FnExactValidDefinitions: laid · FnExactPartEnd: laid · FnExactScopeAt: laid.
  DERIVED. THE GIVEN ROWS OF THIS SEAT. 3 by the template 'for every input the law returns true; each argument reads behind the call as it read before'; 0 by the template 'total and deterministic' (their statements: YtpkcpjimioldlaaDoorTotals.lean).
  GIVEN WITH THE SEED: the statements are not yours to turn. If you find one false, say at which input.
  Laid BY PROGRAM, IN A SANDBOX (cutbox-rows.mjs): the forced cells as the released guide's own fill.sh prints them over the translation 7ecbbfd4909ae7c2… (all of the seat's roots in one cut). By AI agents, Wed Nov 11 2026. No macro, syntax, notation, axiom, sorry.
-/
import Derived.Test.YtpkcpjimioldlaaDoorChecked
import GoSem.Claim
import GoSem.ClaimJoined
import GoSem.ClaimMapViews
import Derived.JoinedTies
import Derived.KernelRfl
namespace Go.Proofs.YtpkcpjimioldlaaDoor
/- THE CELL 'sum', in the pinned program and in every row, IS THE sha256 OF THE DUMP (.gsa) THAT YtpkcpjimioldlaaDoorProg.lean LOADS. Nothing in Lean hashes anything: it is a label: what it is worth is what the hold of that sum in a sandbox is worth. -/
noncomputable def Tryd.pinned : Pinned := { name := "ytpkcpjimioldlaadoor", sum := "7ecbbfd4909ae7c23ffc2901c86bff99fdce9145d94eb7a05a222cea83db9ac8", checked := Tryd.checked }
namespace Rows
def none {H : Type} : Left H := { results := [], args := [] }

/- WHAT THE LISTED PACKAGE-LEVEL VARIABLES READ AS WHEN THE CALL BEGINS. Each datum BY PROGRAM (the guide's laid-datum.mjs) off the statement by which the dump's own 'gosem.cut.vars' lays the variable. In a bare row this is a premise. The card (YtpkcpjimioldlaaDoorCards.lean) ties it to the program's text. -/
def laid_loop_example_g01075_impl_partForms {H : Type} : DataW H := .agg [.agg [.lit (.bool false), .lit (.bool false), .lit (.bool false), .lit (.int .i64 0)], .agg [.lit (.bool false), .lit (.bool true), .lit (.bool true), .lit (.int .i64 1)], .agg [.lit (.bool false), .lit (.bool false), .lit (.bool false), .lit (.int .i64 2)], .agg [.lit (.bool false), .lit (.bool false), .lit (.bool true), .lit (.int .i64 1)], .agg [.lit (.bool true), .lit (.bool false), .lit (.bool false), .lit (.int .i64 1)], .agg [.lit (.bool true), .lit (.bool false), .lit (.bool true), .lit (.int .i64 0)]]

/-- 'laws.FnExactValidDefinitions': WHATEVER THE INPUT: true; the input reads as it did. -/
def fnExactValidDefinitionsSpec : ChangeSpec := { name := "fnExactValidDefinitions", vars := ["loop.example/g01075/impl.partForms"], fn := fun _ => fun
  | [d, g1] => { results := [.lit (.bool true)], args := [d], vars := [g1] }
  | _ => none }
def fnExactValidDefinitionsRow : OpenClaim := { program := "ytpkcpjimioldlaadoor", sum := "7ecbbfd4909ae7c23ffc2901c86bff99fdce9145d94eb7a05a222cea83db9ac8", func := "loop.example/g01075/laws.FnExactValidDefinitions", spec := "fnExactValidDefinitions", unfollowed := true, recurses := true, named := ["loop.example/g01075/impl.partForms"], apart := false, laid := [("loop.example/g01075/impl.partForms", laid_loop_example_g01075_impl_partForms)] }
def FnExactValidDefinitionsSaid : Prop := fnExactValidDefinitionsRow.holds Tryd.pinned (OpenSpec.ofChange fnExactValidDefinitionsSpec)

/-- ITS FALSE NEIGHBOUR: 'it returns false'. Refute it at one input. -/
def fnExactValidDefinitionsWrong : ChangeSpec := { name := "fnExactValidDefinitions", vars := ["loop.example/g01075/impl.partForms"], fn := fun _ => fun
  | [d, g1] => { results := [.lit (.bool false)], args := [d], vars := [g1] }
  | _ => none }
def FnExactValidDefinitionsWrongFalsely : Prop := fnExactValidDefinitionsRow.holds Tryd.pinned (OpenSpec.ofChange fnExactValidDefinitionsWrong)

/-- 'laws.FnExactPartEnd': WHATEVER THE INPUT: true; the input reads as it did. -/
def fnExactPartEndSpec : ChangeSpec := { name := "fnExactPartEnd", vars := ["loop.example/g01075/impl.partForms"], fn := fun _ => fun
  | [d1, d2, d3, g1] => { results := [.lit (.bool true)], args := [d1, d2, d3], vars := [g1] }
  | _ => none }
def fnExactPartEndRow : OpenClaim := { program := "ytpkcpjimioldlaadoor", sum := "7ecbbfd4909ae7c23ffc2901c86bff99fdce9145d94eb7a05a222cea83db9ac8", func := "loop.example/g01075/laws.FnExactPartEnd", spec := "fnExactPartEnd", unfollowed := true, recurses := true, named := ["loop.example/g01075/impl.partForms"], apart := false, laid := [("loop.example/g01075/impl.partForms", laid_loop_example_g01075_impl_partForms)] }
def FnExactPartEndSaid : Prop := fnExactPartEndRow.holds Tryd.pinned (OpenSpec.ofChange fnExactPartEndSpec)

/-- ITS FALSE NEIGHBOUR: 'it returns false'. Refute it at one input. -/
def fnExactPartEndWrong : ChangeSpec := { name := "fnExactPartEnd", vars := ["loop.example/g01075/impl.partForms"], fn := fun _ => fun
  | [d1, d2, d3, g1] => { results := [.lit (.bool false)], args := [d1, d2, d3], vars := [g1] }
  | _ => none }
def FnExactPartEndWrongFalsely : Prop := fnExactPartEndRow.holds Tryd.pinned (OpenSpec.ofChange fnExactPartEndWrong)

/-- 'laws.FnExactScopeAt': WHATEVER THE INPUT: true; the input reads as it did. -/
def fnExactScopeAtSpec : ChangeSpec := { name := "fnExactScopeAt", vars := ["loop.example/g01075/impl.partForms"], fn := fun _ => fun
  | [d1, d2, d3, g1] => { results := [.lit (.bool true)], args := [d1, d2, d3], vars := [g1] }
  | _ => none }
def fnExactScopeAtRow : OpenClaim := { program := "ytpkcpjimioldlaadoor", sum := "7ecbbfd4909ae7c23ffc2901c86bff99fdce9145d94eb7a05a222cea83db9ac8", func := "loop.example/g01075/laws.FnExactScopeAt", spec := "fnExactScopeAt", unfollowed := true, recurses := true, named := ["loop.example/g01075/impl.partForms"], apart := false, laid := [("loop.example/g01075/impl.partForms", laid_loop_example_g01075_impl_partForms)] }
def FnExactScopeAtSaid : Prop := fnExactScopeAtRow.holds Tryd.pinned (OpenSpec.ofChange fnExactScopeAtSpec)

/-- ITS FALSE NEIGHBOUR: 'it returns false'. Refute it at one input. -/
def fnExactScopeAtWrong : ChangeSpec := { name := "fnExactScopeAt", vars := ["loop.example/g01075/impl.partForms"], fn := fun _ => fun
  | [d1, d2, d3, g1] => { results := [.lit (.bool false)], args := [d1, d2, d3], vars := [g1] }
  | _ => none }
def FnExactScopeAtWrongFalsely : Prop := fnExactScopeAtRow.holds Tryd.pinned (OpenSpec.ofChange fnExactScopeAtWrong)

/- THE SECOND FORM. 'bulk': how many values and letters a reading holds, each counted each time it is reached (what is shared counts as often as it is met; a slice's spare places count too). A statement '..UptoSaid' is the law's where the arguments, and the package variables that the reading takes, are together of bulk at most 1048576: NARROWER than '..Said'. Prove '..Said' where nothing that the law and all that it calls make is longer than what came in: it says more and counts as full. Else prove '..UptoSaid'. A law counts once. -/
mutual
def uptoBulk {H : Type} : DataW H → Nat
  | .lit (.string bytes) => bytes.length + 1
  | .lit _ => 1
  | .nil => 1
  | .ptr d => uptoBulk d + 1
  | .slice elems spare => uptoBulkAll elems + uptoBulkAll spare + 1
  | .agg parts => uptoBulkAll parts + 1
  | .iface _ d => uptoBulk d + 1
  | .map entries => uptoBulkEntries entries + 1
  | .held _ => 1
def uptoBulkAll {H : Type} : List (DataW H) → Nat
  | [] => 0
  | d :: r => uptoBulk d + uptoBulkAll r
def uptoBulkEntries {H : Type} : List (Lit × DataW H) → Nat
  | [] => 0
  | x :: r => uptoBulkEntry x + uptoBulkEntries r
def uptoBulkEntry {H : Type} : Lit × DataW H → Nat
  | (.string bytes, d) => bytes.length + uptoBulk d + 1
  | (_, d) => uptoBulk d + 1
 end
def uptoSmall : (H : Type) → List (DataW H) → Bool := fun _ ds => decide (uptoBulkAll ds ≤ 1048576)
def OpenSpec.upto (s : _root_.Go.ChangeSpec) : _root_.Go.OpenSpec := { _root_.Go.OpenSpec.ofChange s with cond := some uptoSmall }

/-- 'laws.FnExactValidDefinitions', WHERE WHAT IT READS IS OF BULK AT MOST 1048576: true; the input reads as it did. -/
def fnExactValidDefinitionsUptoRow : OpenClaim := { program := "ytpkcpjimioldlaadoor", sum := "7ecbbfd4909ae7c23ffc2901c86bff99fdce9145d94eb7a05a222cea83db9ac8", func := "loop.example/g01075/laws.FnExactValidDefinitions", spec := "fnExactValidDefinitions", unfollowed := true, recurses := true, named := ["loop.example/g01075/impl.partForms"], apart := false, laid := [("loop.example/g01075/impl.partForms", laid_loop_example_g01075_impl_partForms)], narrowed := true }
def FnExactValidDefinitionsUptoSaid : Prop := fnExactValidDefinitionsUptoRow.holds Tryd.pinned (OpenSpec.upto fnExactValidDefinitionsSpec)

/-- 'laws.FnExactPartEnd', WHERE WHAT IT READS IS OF BULK AT MOST 1048576: true; the input reads as it did. -/
def fnExactPartEndUptoRow : OpenClaim := { program := "ytpkcpjimioldlaadoor", sum := "7ecbbfd4909ae7c23ffc2901c86bff99fdce9145d94eb7a05a222cea83db9ac8", func := "loop.example/g01075/laws.FnExactPartEnd", spec := "fnExactPartEnd", unfollowed := true, recurses := true, named := ["loop.example/g01075/impl.partForms"], apart := false, laid := [("loop.example/g01075/impl.partForms", laid_loop_example_g01075_impl_partForms)], narrowed := true }
def FnExactPartEndUptoSaid : Prop := fnExactPartEndUptoRow.holds Tryd.pinned (OpenSpec.upto fnExactPartEndSpec)

/-- 'laws.FnExactScopeAt', WHERE WHAT IT READS IS OF BULK AT MOST 1048576: true; the input reads as it did. -/
def fnExactScopeAtUptoRow : OpenClaim := { program := "ytpkcpjimioldlaadoor", sum := "7ecbbfd4909ae7c23ffc2901c86bff99fdce9145d94eb7a05a222cea83db9ac8", func := "loop.example/g01075/laws.FnExactScopeAt", spec := "fnExactScopeAt", unfollowed := true, recurses := true, named := ["loop.example/g01075/impl.partForms"], apart := false, laid := [("loop.example/g01075/impl.partForms", laid_loop_example_g01075_impl_partForms)], narrowed := true }
def FnExactScopeAtUptoSaid : Prop := fnExactScopeAtUptoRow.holds Tryd.pinned (OpenSpec.upto fnExactScopeAtSpec)

end Rows
end Go.Proofs.YtpkcpjimioldlaaDoor
