/-
  NARROWER THAN 'FOR EVERY INPUT', by the rows' own cells (each row's printed sentence says how): FnExactMeetingOf: laid · FnExactAddComponent: laid · FnExactRemoveComponent: laid · FnExactRenameDefinition: laid · FnExactValidState: laid · FnExactStartState: laid.
  DERIVED. THE GIVEN ROWS OF THIS SEAT. 6 by the template 'for every input the law returns true; each argument reads behind the call as it read before'; 0 by the template 'total and deterministic' (their statements: YtdgcpaeneafejaaGreatDoorTotals.lean).
  GIVEN WITH THE SEED: the statements are not yours to turn. If you find one false, say at which input.
  Laid BY PROGRAM, IN A SANDBOX (cutbox-rows.mjs): the forced cells as the released guide's own fill.sh prints them over the translation cd14fe411b094854… (all of the seat's roots in one cut). By AI agents, Wed Nov 11 2026. No macro, syntax, notation, axiom, sorry.
-/
import Derived.Test.YtdgcpaeneafejaaGreatDoorChecked
import GoSem.Claim
import GoSem.ClaimJoined
import GoSem.ClaimMapViews
import Derived.JoinedTies
import Derived.KernelRfl
namespace Go.Proofs.YtdgcpaeneafejaaGreatDoor
/- THE CELL 'sum', in the pinned program and in every row, IS THE sha256 OF THE DUMP (.gsa) THAT YtdgcpaeneafejaaGreatDoorProg.lean LOADS. Nothing in Lean hashes anything: it is a label: what it is worth is what the hold of that sum in a sandbox is worth. -/
noncomputable def Tryz.pinned : Pinned := { name := "ytdgcpaeneafejaagreatdoor", sum := "cd14fe411b0948546198b57f8b777fcc3bad5ed44326fcce814d23b9edcc9a71", checked := Tryz.checked }
namespace Rows
def none {H : Type} : Left H := { results := [], args := [] }

/- WHAT THE LISTED PACKAGE-LEVEL VARIABLES READ AS WHEN THE CALL BEGINS. Each datum BY PROGRAM (the guide's laid-datum.mjs) off the statement by which the dump's own 'gosem.cut.vars' lays the variable. In a bare row this is a premise. The card (YtdgcpaeneafejaaGreatDoorCards.lean) ties it to the program's text. -/
def laid_loop_example_g01075_impl_partForms {H : Type} : DataW H := .agg [.agg [.lit (.bool false), .lit (.bool false), .lit (.bool false), .lit (.int .i64 0)], .agg [.lit (.bool false), .lit (.bool true), .lit (.bool true), .lit (.int .i64 1)], .agg [.lit (.bool false), .lit (.bool false), .lit (.bool false), .lit (.int .i64 2)], .agg [.lit (.bool false), .lit (.bool false), .lit (.bool true), .lit (.int .i64 1)], .agg [.lit (.bool true), .lit (.bool false), .lit (.bool false), .lit (.int .i64 1)], .agg [.lit (.bool true), .lit (.bool false), .lit (.bool true), .lit (.int .i64 0)]]

/-- 'laws.FnExactMeetingOf': WHATEVER THE INPUT: true; the input reads as it did. -/
def fnExactMeetingOfSpec : ChangeSpec := { name := "fnExactMeetingOf", vars := ["loop.example/g01075/impl.partForms"], fn := fun _ => fun
  | [d1, d2, d3, g1] => { results := [.lit (.bool true)], args := [d1, d2, d3], vars := [g1] }
  | _ => none }
def fnExactMeetingOfRow : OpenClaim := { program := "ytdgcpaeneafejaagreatdoor", sum := "cd14fe411b0948546198b57f8b777fcc3bad5ed44326fcce814d23b9edcc9a71", func := "loop.example/g01075/laws.FnExactMeetingOf", spec := "fnExactMeetingOf", unfollowed := true, recurses := true, named := ["loop.example/g01075/impl.partForms"], apart := false, laid := [("loop.example/g01075/impl.partForms", laid_loop_example_g01075_impl_partForms)] }
def FnExactMeetingOfSaid : Prop := fnExactMeetingOfRow.holds Tryz.pinned (OpenSpec.ofChange fnExactMeetingOfSpec)

/-- ITS FALSE NEIGHBOUR: 'it returns false'. Refute it at one input. -/
def fnExactMeetingOfWrong : ChangeSpec := { name := "fnExactMeetingOf", vars := ["loop.example/g01075/impl.partForms"], fn := fun _ => fun
  | [d1, d2, d3, g1] => { results := [.lit (.bool false)], args := [d1, d2, d3], vars := [g1] }
  | _ => none }
def FnExactMeetingOfWrongFalsely : Prop := fnExactMeetingOfRow.holds Tryz.pinned (OpenSpec.ofChange fnExactMeetingOfWrong)

/-- 'laws.FnExactAddComponent': WHATEVER THE INPUT: true; the input reads as it did. -/
def fnExactAddComponentSpec : ChangeSpec := { name := "fnExactAddComponent", vars := ["loop.example/g01075/impl.partForms"], fn := fun _ => fun
  | [d1, d2, g1] => { results := [.lit (.bool true)], args := [d1, d2], vars := [g1] }
  | _ => none }
def fnExactAddComponentRow : OpenClaim := { program := "ytdgcpaeneafejaagreatdoor", sum := "cd14fe411b0948546198b57f8b777fcc3bad5ed44326fcce814d23b9edcc9a71", func := "loop.example/g01075/laws.FnExactAddComponent", spec := "fnExactAddComponent", unfollowed := true, recurses := true, named := ["loop.example/g01075/impl.partForms"], apart := false, laid := [("loop.example/g01075/impl.partForms", laid_loop_example_g01075_impl_partForms)] }
def FnExactAddComponentSaid : Prop := fnExactAddComponentRow.holds Tryz.pinned (OpenSpec.ofChange fnExactAddComponentSpec)

/-- ITS FALSE NEIGHBOUR: 'it returns false'. Refute it at one input. -/
def fnExactAddComponentWrong : ChangeSpec := { name := "fnExactAddComponent", vars := ["loop.example/g01075/impl.partForms"], fn := fun _ => fun
  | [d1, d2, g1] => { results := [.lit (.bool false)], args := [d1, d2], vars := [g1] }
  | _ => none }
def FnExactAddComponentWrongFalsely : Prop := fnExactAddComponentRow.holds Tryz.pinned (OpenSpec.ofChange fnExactAddComponentWrong)

/-- 'laws.FnExactRemoveComponent': WHATEVER THE INPUT: true; the input reads as it did. -/
def fnExactRemoveComponentSpec : ChangeSpec := { name := "fnExactRemoveComponent", vars := ["loop.example/g01075/impl.partForms"], fn := fun _ => fun
  | [d1, d2, g1] => { results := [.lit (.bool true)], args := [d1, d2], vars := [g1] }
  | _ => none }
def fnExactRemoveComponentRow : OpenClaim := { program := "ytdgcpaeneafejaagreatdoor", sum := "cd14fe411b0948546198b57f8b777fcc3bad5ed44326fcce814d23b9edcc9a71", func := "loop.example/g01075/laws.FnExactRemoveComponent", spec := "fnExactRemoveComponent", unfollowed := true, recurses := true, named := ["loop.example/g01075/impl.partForms"], apart := false, laid := [("loop.example/g01075/impl.partForms", laid_loop_example_g01075_impl_partForms)] }
def FnExactRemoveComponentSaid : Prop := fnExactRemoveComponentRow.holds Tryz.pinned (OpenSpec.ofChange fnExactRemoveComponentSpec)

/-- ITS FALSE NEIGHBOUR: 'it returns false'. Refute it at one input. -/
def fnExactRemoveComponentWrong : ChangeSpec := { name := "fnExactRemoveComponent", vars := ["loop.example/g01075/impl.partForms"], fn := fun _ => fun
  | [d1, d2, g1] => { results := [.lit (.bool false)], args := [d1, d2], vars := [g1] }
  | _ => none }
def FnExactRemoveComponentWrongFalsely : Prop := fnExactRemoveComponentRow.holds Tryz.pinned (OpenSpec.ofChange fnExactRemoveComponentWrong)

/-- 'laws.FnExactRenameDefinition': WHATEVER THE INPUT: true; the input reads as it did. -/
def fnExactRenameDefinitionSpec : ChangeSpec := { name := "fnExactRenameDefinition", vars := ["loop.example/g01075/impl.partForms"], fn := fun _ => fun
  | [d1, d2, d3, g1] => { results := [.lit (.bool true)], args := [d1, d2, d3], vars := [g1] }
  | _ => none }
def fnExactRenameDefinitionRow : OpenClaim := { program := "ytdgcpaeneafejaagreatdoor", sum := "cd14fe411b0948546198b57f8b777fcc3bad5ed44326fcce814d23b9edcc9a71", func := "loop.example/g01075/laws.FnExactRenameDefinition", spec := "fnExactRenameDefinition", unfollowed := true, recurses := true, named := ["loop.example/g01075/impl.partForms"], apart := false, laid := [("loop.example/g01075/impl.partForms", laid_loop_example_g01075_impl_partForms)] }
def FnExactRenameDefinitionSaid : Prop := fnExactRenameDefinitionRow.holds Tryz.pinned (OpenSpec.ofChange fnExactRenameDefinitionSpec)

/-- ITS FALSE NEIGHBOUR: 'it returns false'. Refute it at one input. -/
def fnExactRenameDefinitionWrong : ChangeSpec := { name := "fnExactRenameDefinition", vars := ["loop.example/g01075/impl.partForms"], fn := fun _ => fun
  | [d1, d2, d3, g1] => { results := [.lit (.bool false)], args := [d1, d2, d3], vars := [g1] }
  | _ => none }
def FnExactRenameDefinitionWrongFalsely : Prop := fnExactRenameDefinitionRow.holds Tryz.pinned (OpenSpec.ofChange fnExactRenameDefinitionWrong)

/-- 'laws.FnExactValidState': WHATEVER THE INPUT: true; the input reads as it did. -/
def fnExactValidStateSpec : ChangeSpec := { name := "fnExactValidState", vars := ["loop.example/g01075/impl.partForms"], fn := fun _ => fun
  | [d1, d2, g1] => { results := [.lit (.bool true)], args := [d1, d2], vars := [g1] }
  | _ => none }
def fnExactValidStateRow : OpenClaim := { program := "ytdgcpaeneafejaagreatdoor", sum := "cd14fe411b0948546198b57f8b777fcc3bad5ed44326fcce814d23b9edcc9a71", func := "loop.example/g01075/laws.FnExactValidState", spec := "fnExactValidState", unfollowed := true, recurses := true, named := ["loop.example/g01075/impl.partForms"], apart := false, laid := [("loop.example/g01075/impl.partForms", laid_loop_example_g01075_impl_partForms)] }
def FnExactValidStateSaid : Prop := fnExactValidStateRow.holds Tryz.pinned (OpenSpec.ofChange fnExactValidStateSpec)

/-- ITS FALSE NEIGHBOUR: 'it returns false'. Refute it at one input. -/
def fnExactValidStateWrong : ChangeSpec := { name := "fnExactValidState", vars := ["loop.example/g01075/impl.partForms"], fn := fun _ => fun
  | [d1, d2, g1] => { results := [.lit (.bool false)], args := [d1, d2], vars := [g1] }
  | _ => none }
def FnExactValidStateWrongFalsely : Prop := fnExactValidStateRow.holds Tryz.pinned (OpenSpec.ofChange fnExactValidStateWrong)

/-- 'laws.FnExactStartState': WHATEVER THE INPUT: true; the input reads as it did. -/
def fnExactStartStateSpec : ChangeSpec := { name := "fnExactStartState", vars := ["loop.example/g01075/impl.partForms"], fn := fun _ => fun
  | [d, g1] => { results := [.lit (.bool true)], args := [d], vars := [g1] }
  | _ => none }
def fnExactStartStateRow : OpenClaim := { program := "ytdgcpaeneafejaagreatdoor", sum := "cd14fe411b0948546198b57f8b777fcc3bad5ed44326fcce814d23b9edcc9a71", func := "loop.example/g01075/laws.FnExactStartState", spec := "fnExactStartState", unfollowed := true, recurses := true, named := ["loop.example/g01075/impl.partForms"], apart := false, laid := [("loop.example/g01075/impl.partForms", laid_loop_example_g01075_impl_partForms)] }
def FnExactStartStateSaid : Prop := fnExactStartStateRow.holds Tryz.pinned (OpenSpec.ofChange fnExactStartStateSpec)

/-- ITS FALSE NEIGHBOUR: 'it returns false'. Refute it at one input. -/
def fnExactStartStateWrong : ChangeSpec := { name := "fnExactStartState", vars := ["loop.example/g01075/impl.partForms"], fn := fun _ => fun
  | [d, g1] => { results := [.lit (.bool false)], args := [d], vars := [g1] }
  | _ => none }
def FnExactStartStateWrongFalsely : Prop := fnExactStartStateRow.holds Tryz.pinned (OpenSpec.ofChange fnExactStartStateWrong)

/- THE SECOND FORM. 'bulk': how many values and letters a reading holds, each counted each time it is reached (what is shared counts as often as it is met; a slice's spare places count too). A statement '..UptoSaid' is the law's where the arguments, and the package variables that the reading takes, are together of bulk at most 1048576: NARROWER than '..Said'. Prove '..Said' where nothing that the law and all that it calls make is longer than what came in: it says more and counts as full. Else prove '..UptoSaid'. A law counts once. -/
mutual
def uptoBulk {H : Type} : DataW H → Nat
  | .lit (.string bytes) => bytes.length + 1
  | .lit _ => 1
  | .nil => 1
  | .ptr d => uptoBulk d + 1
  | .slice elems spare => uptoBulkAll elems + uptoBulkAll spare + 1
  | .agg parts => uptoBulkAll parts + 1
  | .iface _ d => uptoBulk d + 1
  | .map entries => uptoBulkEntries entries + 1
  | .held _ => 1
def uptoBulkAll {H : Type} : List (DataW H) → Nat
  | [] => 0
  | d :: r => uptoBulk d + uptoBulkAll r
def uptoBulkEntries {H : Type} : List (Lit × DataW H) → Nat
  | [] => 0
  | x :: r => uptoBulkEntry x + uptoBulkEntries r
def uptoBulkEntry {H : Type} : Lit × DataW H → Nat
  | (.string bytes, d) => bytes.length + uptoBulk d + 1
  | (_, d) => uptoBulk d + 1
 end
def uptoSmall : (H : Type) → List (DataW H) → Bool := fun _ ds => decide (uptoBulkAll ds ≤ 1048576)
def OpenSpec.upto (s : _root_.Go.ChangeSpec) : _root_.Go.OpenSpec := { _root_.Go.OpenSpec.ofChange s with cond := some uptoSmall }

/-- 'laws.FnExactMeetingOf', WHERE WHAT IT READS IS OF BULK AT MOST 1048576: true; the input reads as it did. -/
def fnExactMeetingOfUptoRow : OpenClaim := { program := "ytdgcpaeneafejaagreatdoor", sum := "cd14fe411b0948546198b57f8b777fcc3bad5ed44326fcce814d23b9edcc9a71", func := "loop.example/g01075/laws.FnExactMeetingOf", spec := "fnExactMeetingOf", unfollowed := true, recurses := true, named := ["loop.example/g01075/impl.partForms"], apart := false, laid := [("loop.example/g01075/impl.partForms", laid_loop_example_g01075_impl_partForms)], narrowed := true }
def FnExactMeetingOfUptoSaid : Prop := fnExactMeetingOfUptoRow.holds Tryz.pinned (OpenSpec.upto fnExactMeetingOfSpec)

/-- 'laws.FnExactAddComponent', WHERE WHAT IT READS IS OF BULK AT MOST 1048576: true; the input reads as it did. -/
def fnExactAddComponentUptoRow : OpenClaim := { program := "ytdgcpaeneafejaagreatdoor", sum := "cd14fe411b0948546198b57f8b777fcc3bad5ed44326fcce814d23b9edcc9a71", func := "loop.example/g01075/laws.FnExactAddComponent", spec := "fnExactAddComponent", unfollowed := true, recurses := true, named := ["loop.example/g01075/impl.partForms"], apart := false, laid := [("loop.example/g01075/impl.partForms", laid_loop_example_g01075_impl_partForms)], narrowed := true }
def FnExactAddComponentUptoSaid : Prop := fnExactAddComponentUptoRow.holds Tryz.pinned (OpenSpec.upto fnExactAddComponentSpec)

/-- 'laws.FnExactRemoveComponent', WHERE WHAT IT READS IS OF BULK AT MOST 1048576: true; the input reads as it did. -/
def fnExactRemoveComponentUptoRow : OpenClaim := { program := "ytdgcpaeneafejaagreatdoor", sum := "cd14fe411b0948546198b57f8b777fcc3bad5ed44326fcce814d23b9edcc9a71", func := "loop.example/g01075/laws.FnExactRemoveComponent", spec := "fnExactRemoveComponent", unfollowed := true, recurses := true, named := ["loop.example/g01075/impl.partForms"], apart := false, laid := [("loop.example/g01075/impl.partForms", laid_loop_example_g01075_impl_partForms)], narrowed := true }
def FnExactRemoveComponentUptoSaid : Prop := fnExactRemoveComponentUptoRow.holds Tryz.pinned (OpenSpec.upto fnExactRemoveComponentSpec)

/-- 'laws.FnExactRenameDefinition', WHERE WHAT IT READS IS OF BULK AT MOST 1048576: true; the input reads as it did. -/
def fnExactRenameDefinitionUptoRow : OpenClaim := { program := "ytdgcpaeneafejaagreatdoor", sum := "cd14fe411b0948546198b57f8b777fcc3bad5ed44326fcce814d23b9edcc9a71", func := "loop.example/g01075/laws.FnExactRenameDefinition", spec := "fnExactRenameDefinition", unfollowed := true, recurses := true, named := ["loop.example/g01075/impl.partForms"], apart := false, laid := [("loop.example/g01075/impl.partForms", laid_loop_example_g01075_impl_partForms)], narrowed := true }
def FnExactRenameDefinitionUptoSaid : Prop := fnExactRenameDefinitionUptoRow.holds Tryz.pinned (OpenSpec.upto fnExactRenameDefinitionSpec)

/-- 'laws.FnExactValidState', WHERE WHAT IT READS IS OF BULK AT MOST 1048576: true; the input reads as it did. -/
def fnExactValidStateUptoRow : OpenClaim := { program := "ytdgcpaeneafejaagreatdoor", sum := "cd14fe411b0948546198b57f8b777fcc3bad5ed44326fcce814d23b9edcc9a71", func := "loop.example/g01075/laws.FnExactValidState", spec := "fnExactValidState", unfollowed := true, recurses := true, named := ["loop.example/g01075/impl.partForms"], apart := false, laid := [("loop.example/g01075/impl.partForms", laid_loop_example_g01075_impl_partForms)], narrowed := true }
def FnExactValidStateUptoSaid : Prop := fnExactValidStateUptoRow.holds Tryz.pinned (OpenSpec.upto fnExactValidStateSpec)

/-- 'laws.FnExactStartState', WHERE WHAT IT READS IS OF BULK AT MOST 1048576: true; the input reads as it did. -/
def fnExactStartStateUptoRow : OpenClaim := { program := "ytdgcpaeneafejaagreatdoor", sum := "cd14fe411b0948546198b57f8b777fcc3bad5ed44326fcce814d23b9edcc9a71", func := "loop.example/g01075/laws.FnExactStartState", spec := "fnExactStartState", unfollowed := true, recurses := true, named := ["loop.example/g01075/impl.partForms"], apart := false, laid := [("loop.example/g01075/impl.partForms", laid_loop_example_g01075_impl_partForms)], narrowed := true }
def FnExactStartStateUptoSaid : Prop := fnExactStartStateUptoRow.holds Tryz.pinned (OpenSpec.upto fnExactStartStateSpec)

end Rows
end Go.Proofs.YtdgcpaeneafejaaGreatDoor
