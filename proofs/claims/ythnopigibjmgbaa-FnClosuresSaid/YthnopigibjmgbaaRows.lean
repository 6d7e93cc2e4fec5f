/-
  No cell of these rows narrows 'for every input' (looked for: loops, veiled, ifaces, maps, wideKeys, modest, calm, conditions, laid).
  DERIVED. THE GIVEN ROWS OF THIS SEAT. 14 by the template 'for every input the law returns true; each argument reads behind the call as it read before'; 0 by the template 'total and deterministic' (their statements: YthnopigibjmgbaaTotals.lean).
  GIVEN WITH THE SEED: the statements are not yours to turn. If you find one false, say at which input.
  Laid BY PROGRAM, IN A SANDBOX (cutbox-rows.mjs): the forced cells as the released guide's own fill.sh prints them over the translation f397dfb115c5d9c5… (all of the seat's roots in one cut). By AI agents, Wed Nov 11 2026. No macro, syntax, notation, axiom, sorry.
-/
import Derived.Test.YthnopigibjmgbaaChecked
import GoSem.Claim
import GoSem.ClaimJoined
import GoSem.ClaimMapViews
import Derived.JoinedTies
import Derived.KernelRfl
namespace Go.Proofs.Ythnopigibjmgbaa
/- THE CELL 'sum', in the pinned program and in every row, IS THE sha256 OF THE DUMP (.gsa) THAT YthnopigibjmgbaaProg.lean LOADS. Nothing in Lean hashes anything: it is a label: what it is worth is what the hold of that sum in a sandbox is worth. -/
noncomputable def Try.pinned : Pinned := { name := "ythnopigibjmgbaa", sum := "f397dfb115c5d9c53dd430c4df4dd8d2dc76adc51e0fe747f2ddb6921223df97", checked := Try.checked }
namespace Rows
def none {H : Type} : Left H := { results := [], args := [] }

/-- 'laws.FnClosures': WHATEVER THE INPUT: true; the input reads as it did. -/
def fnClosuresSpec : ChangeSpec := { name := "fnClosures", fn := fun _ => fun
  | [d] => { results := [.lit (.bool true)], args := [d] }
  | _ => none }
def fnClosuresRow : OpenClaim := { program := "ythnopigibjmgbaa", sum := "f397dfb115c5d9c53dd430c4df4dd8d2dc76adc51e0fe747f2ddb6921223df97", func := "loop.example/g01075/laws.FnClosures", spec := "fnClosures", plainKeys := false, apart := false }
def FnClosuresSaid : Prop := fnClosuresRow.holds Try.pinned (OpenSpec.ofChange fnClosuresSpec)

/-- ITS FALSE NEIGHBOUR: 'it returns false'. Refute it at one input. -/
def fnClosuresWrong : ChangeSpec := { name := "fnClosures", fn := fun _ => fun
  | [d] => { results := [.lit (.bool false)], args := [d] }
  | _ => none }
def FnClosuresWrongFalsely : Prop := fnClosuresRow.holds Try.pinned (OpenSpec.ofChange fnClosuresWrong)

/-- 'laws.FnExactIsPartition': WHATEVER THE INPUT: true; the input reads as it did. -/
def fnExactIsPartitionSpec : ChangeSpec := { name := "fnExactIsPartition", fn := fun _ => fun
  | [d] => { results := [.lit (.bool true)], args := [d] }
  | _ => none }
def fnExactIsPartitionRow : OpenClaim := { program := "ythnopigibjmgbaa", sum := "f397dfb115c5d9c53dd430c4df4dd8d2dc76adc51e0fe747f2ddb6921223df97", func := "loop.example/g01075/laws.FnExactIsPartition", spec := "fnExactIsPartition", plainKeys := false, apart := false }
def FnExactIsPartitionSaid : Prop := fnExactIsPartitionRow.holds Try.pinned (OpenSpec.ofChange fnExactIsPartitionSpec)

/-- ITS FALSE NEIGHBOUR: 'it returns false'. Refute it at one input. -/
def fnExactIsPartitionWrong : ChangeSpec := { name := "fnExactIsPartition", fn := fun _ => fun
  | [d] => { results := [.lit (.bool false)], args := [d] }
  | _ => none }
def FnExactIsPartitionWrongFalsely : Prop := fnExactIsPartitionRow.holds Try.pinned (OpenSpec.ofChange fnExactIsPartitionWrong)

/-- 'laws.FnExactNormalPartition': WHATEVER THE INPUT: true; the input reads as it did. -/
def fnExactNormalPartitionSpec : ChangeSpec := { name := "fnExactNormalPartition", fn := fun _ => fun
  | [d] => { results := [.lit (.bool true)], args := [d] }
  | _ => none }
def fnExactNormalPartitionRow : OpenClaim := { program := "ythnopigibjmgbaa", sum := "f397dfb115c5d9c53dd430c4df4dd8d2dc76adc51e0fe747f2ddb6921223df97", func := "loop.example/g01075/laws.FnExactNormalPartition", spec := "fnExactNormalPartition", plainKeys := false, apart := false }
def FnExactNormalPartitionSaid : Prop := fnExactNormalPartitionRow.holds Try.pinned (OpenSpec.ofChange fnExactNormalPartitionSpec)

/-- ITS FALSE NEIGHBOUR: 'it returns false'. Refute it at one input. -/
def fnExactNormalPartitionWrong : ChangeSpec := { name := "fnExactNormalPartition", fn := fun _ => fun
  | [d] => { results := [.lit (.bool false)], args := [d] }
  | _ => none }
def FnExactNormalPartitionWrongFalsely : Prop := fnExactNormalPartitionRow.holds Try.pinned (OpenSpec.ofChange fnExactNormalPartitionWrong)

/-- 'laws.FnExactBlocksOf': WHATEVER THE INPUT: true; the input reads as it did. -/
def fnExactBlocksOfSpec : ChangeSpec := { name := "fnExactBlocksOf", fn := fun _ => fun
  | [d] => { results := [.lit (.bool true)], args := [d] }
  | _ => none }
def fnExactBlocksOfRow : OpenClaim := { program := "ythnopigibjmgbaa", sum := "f397dfb115c5d9c53dd430c4df4dd8d2dc76adc51e0fe747f2ddb6921223df97", func := "loop.example/g01075/laws.FnExactBlocksOf", spec := "fnExactBlocksOf", inPlace := ["internal/reflectlite.ValueOf", "internal/reflectlite.Swapper", "(internal/reflectlite.Value).Len"], unfollowed := true, recurses := true, plainKeys := false, apart := false }
def FnExactBlocksOfSaid : Prop := fnExactBlocksOfRow.holds Try.pinned (OpenSpec.ofChange fnExactBlocksOfSpec)

/-- ITS FALSE NEIGHBOUR: 'it returns false'. Refute it at one input. -/
def fnExactBlocksOfWrong : ChangeSpec := { name := "fnExactBlocksOf", fn := fun _ => fun
  | [d] => { results := [.lit (.bool false)], args := [d] }
  | _ => none }
def FnExactBlocksOfWrongFalsely : Prop := fnExactBlocksOfRow.holds Try.pinned (OpenSpec.ofChange fnExactBlocksOfWrong)

/-- 'laws.FnExactFromBlocks': WHATEVER THE INPUT: true; the input reads as it did. -/
def fnExactFromBlocksSpec : ChangeSpec := { name := "fnExactFromBlocks", fn := fun _ => fun
  | [d1, d2] => { results := [.lit (.bool true)], args := [d1, d2] }
  | _ => none }
def fnExactFromBlocksRow : OpenClaim := { program := "ythnopigibjmgbaa", sum := "f397dfb115c5d9c53dd430c4df4dd8d2dc76adc51e0fe747f2ddb6921223df97", func := "loop.example/g01075/laws.FnExactFromBlocks", spec := "fnExactFromBlocks", plainKeys := false, apart := false }
def FnExactFromBlocksSaid : Prop := fnExactFromBlocksRow.holds Try.pinned (OpenSpec.ofChange fnExactFromBlocksSpec)

/-- ITS FALSE NEIGHBOUR: 'it returns false'. Refute it at one input. -/
def fnExactFromBlocksWrong : ChangeSpec := { name := "fnExactFromBlocks", fn := fun _ => fun
  | [d1, d2] => { results := [.lit (.bool false)], args := [d1, d2] }
  | _ => none }
def FnExactFromBlocksWrongFalsely : Prop := fnExactFromBlocksRow.holds Try.pinned (OpenSpec.ofChange fnExactFromBlocksWrong)

/-- 'laws.FnExactRefinesPartition': WHATEVER THE INPUT: true; the input reads as it did. -/
def fnExactRefinesPartitionSpec : ChangeSpec := { name := "fnExactRefinesPartition", fn := fun _ => fun
  | [d1, d2] => { results := [.lit (.bool true)], args := [d1, d2] }
  | _ => none }
def fnExactRefinesPartitionRow : OpenClaim := { program := "ythnopigibjmgbaa", sum := "f397dfb115c5d9c53dd430c4df4dd8d2dc76adc51e0fe747f2ddb6921223df97", func := "loop.example/g01075/laws.FnExactRefinesPartition", spec := "fnExactRefinesPartition", plainKeys := false, apart := false }
def FnExactRefinesPartitionSaid : Prop := fnExactRefinesPartitionRow.holds Try.pinned (OpenSpec.ofChange fnExactRefinesPartitionSpec)

/-- ITS FALSE NEIGHBOUR: 'it returns false'. Refute it at one input. -/
def fnExactRefinesPartitionWrong : ChangeSpec := { name := "fnExactRefinesPartition", fn := fun _ => fun
  | [d1, d2] => { results := [.lit (.bool false)], args := [d1, d2] }
  | _ => none }
def FnExactRefinesPartitionWrongFalsely : Prop := fnExactRefinesPartitionRow.holds Try.pinned (OpenSpec.ofChange fnExactRefinesPartitionWrong)

/-- 'laws.FnExactMeetPartitions': WHATEVER THE INPUT: true; the input reads as it did. -/
def fnExactMeetPartitionsSpec : ChangeSpec := { name := "fnExactMeetPartitions", fn := fun _ => fun
  | [d1, d2] => { results := [.lit (.bool true)], args := [d1, d2] }
  | _ => none }
def fnExactMeetPartitionsRow : OpenClaim := { program := "ythnopigibjmgbaa", sum := "f397dfb115c5d9c53dd430c4df4dd8d2dc76adc51e0fe747f2ddb6921223df97", func := "loop.example/g01075/laws.FnExactMeetPartitions", spec := "fnExactMeetPartitions", plainKeys := false, apart := false }
def FnExactMeetPartitionsSaid : Prop := fnExactMeetPartitionsRow.holds Try.pinned (OpenSpec.ofChange fnExactMeetPartitionsSpec)

/-- ITS FALSE NEIGHBOUR: 'it returns false'. Refute it at one input. -/
def fnExactMeetPartitionsWrong : ChangeSpec := { name := "fnExactMeetPartitions", fn := fun _ => fun
  | [d1, d2] => { results := [.lit (.bool false)], args := [d1, d2] }
  | _ => none }
def FnExactMeetPartitionsWrongFalsely : Prop := fnExactMeetPartitionsRow.holds Try.pinned (OpenSpec.ofChange fnExactMeetPartitionsWrong)

/-- 'laws.FnExactJoinPartitions': WHATEVER THE INPUT: true; the input reads as it did. -/
def fnExactJoinPartitionsSpec : ChangeSpec := { name := "fnExactJoinPartitions", fn := fun _ => fun
  | [d1, d2] => { results := [.lit (.bool true)], args := [d1, d2] }
  | _ => none }
def fnExactJoinPartitionsRow : OpenClaim := { program := "ythnopigibjmgbaa", sum := "f397dfb115c5d9c53dd430c4df4dd8d2dc76adc51e0fe747f2ddb6921223df97", func := "loop.example/g01075/laws.FnExactJoinPartitions", spec := "fnExactJoinPartitions", plainKeys := false, apart := false }
def FnExactJoinPartitionsSaid : Prop := fnExactJoinPartitionsRow.holds Try.pinned (OpenSpec.ofChange fnExactJoinPartitionsSpec)

/-- ITS FALSE NEIGHBOUR: 'it returns false'. Refute it at one input. -/
def fnExactJoinPartitionsWrong : ChangeSpec := { name := "fnExactJoinPartitions", fn := fun _ => fun
  | [d1, d2] => { results := [.lit (.bool false)], args := [d1, d2] }
  | _ => none }
def FnExactJoinPartitionsWrongFalsely : Prop := fnExactJoinPartitionsRow.holds Try.pinned (OpenSpec.ofChange fnExactJoinPartitionsWrong)

/-- 'laws.FnExactPairsOf': WHATEVER THE INPUT: true; the input reads as it did. -/
def fnExactPairsOfSpec : ChangeSpec := { name := "fnExactPairsOf", fn := fun _ => fun
  | [d] => { results := [.lit (.bool true)], args := [d] }
  | _ => none }
def fnExactPairsOfRow : OpenClaim := { program := "ythnopigibjmgbaa", sum := "f397dfb115c5d9c53dd430c4df4dd8d2dc76adc51e0fe747f2ddb6921223df97", func := "loop.example/g01075/laws.FnExactPairsOf", spec := "fnExactPairsOf", plainKeys := false, apart := false }
def FnExactPairsOfSaid : Prop := fnExactPairsOfRow.holds Try.pinned (OpenSpec.ofChange fnExactPairsOfSpec)

/-- ITS FALSE NEIGHBOUR: 'it returns false'. Refute it at one input. -/
def fnExactPairsOfWrong : ChangeSpec := { name := "fnExactPairsOf", fn := fun _ => fun
  | [d] => { results := [.lit (.bool false)], args := [d] }
  | _ => none }
def FnExactPairsOfWrongFalsely : Prop := fnExactPairsOfRow.holds Try.pinned (OpenSpec.ofChange fnExactPairsOfWrong)

/-- 'laws.FnExactIsRelation': WHATEVER THE INPUT: true; the input reads as it did. -/
def fnExactIsRelationSpec : ChangeSpec := { name := "fnExactIsRelation", fn := fun _ => fun
  | [d1, d2] => { results := [.lit (.bool true)], args := [d1, d2] }
  | _ => none }
def fnExactIsRelationRow : OpenClaim := { program := "ythnopigibjmgbaa", sum := "f397dfb115c5d9c53dd430c4df4dd8d2dc76adc51e0fe747f2ddb6921223df97", func := "loop.example/g01075/laws.FnExactIsRelation", spec := "fnExactIsRelation", plainKeys := false, apart := false }
def FnExactIsRelationSaid : Prop := fnExactIsRelationRow.holds Try.pinned (OpenSpec.ofChange fnExactIsRelationSpec)

/-- ITS FALSE NEIGHBOUR: 'it returns false'. Refute it at one input. -/
def fnExactIsRelationWrong : ChangeSpec := { name := "fnExactIsRelation", fn := fun _ => fun
  | [d1, d2] => { results := [.lit (.bool false)], args := [d1, d2] }
  | _ => none }
def FnExactIsRelationWrongFalsely : Prop := fnExactIsRelationRow.holds Try.pinned (OpenSpec.ofChange fnExactIsRelationWrong)

/-- 'laws.FnExactComposeRelations': WHATEVER THE INPUT: true; the input reads as it did. -/
def fnExactComposeRelationsSpec : ChangeSpec := { name := "fnExactComposeRelations", fn := fun _ => fun
  | [d1, d2, d3] => { results := [.lit (.bool true)], args := [d1, d2, d3] }
  | _ => none }
def fnExactComposeRelationsRow : OpenClaim := { program := "ythnopigibjmgbaa", sum := "f397dfb115c5d9c53dd430c4df4dd8d2dc76adc51e0fe747f2ddb6921223df97", func := "loop.example/g01075/laws.FnExactComposeRelations", spec := "fnExactComposeRelations", plainKeys := false, apart := false }
def FnExactComposeRelationsSaid : Prop := fnExactComposeRelationsRow.holds Try.pinned (OpenSpec.ofChange fnExactComposeRelationsSpec)

/-- ITS FALSE NEIGHBOUR: 'it returns false'. Refute it at one input. -/
def fnExactComposeRelationsWrong : ChangeSpec := { name := "fnExactComposeRelations", fn := fun _ => fun
  | [d1, d2, d3] => { results := [.lit (.bool false)], args := [d1, d2, d3] }
  | _ => none }
def FnExactComposeRelationsWrongFalsely : Prop := fnExactComposeRelationsRow.holds Try.pinned (OpenSpec.ofChange fnExactComposeRelationsWrong)

/-- 'laws.FnExactInverseRelation': WHATEVER THE INPUT: true; the input reads as it did. -/
def fnExactInverseRelationSpec : ChangeSpec := { name := "fnExactInverseRelation", fn := fun _ => fun
  | [d1, d2] => { results := [.lit (.bool true)], args := [d1, d2] }
  | _ => none }
def fnExactInverseRelationRow : OpenClaim := { program := "ythnopigibjmgbaa", sum := "f397dfb115c5d9c53dd430c4df4dd8d2dc76adc51e0fe747f2ddb6921223df97", func := "loop.example/g01075/laws.FnExactInverseRelation", spec := "fnExactInverseRelation", plainKeys := false, apart := false }
def FnExactInverseRelationSaid : Prop := fnExactInverseRelationRow.holds Try.pinned (OpenSpec.ofChange fnExactInverseRelationSpec)

/-- ITS FALSE NEIGHBOUR: 'it returns false'. Refute it at one input. -/
def fnExactInverseRelationWrong : ChangeSpec := { name := "fnExactInverseRelation", fn := fun _ => fun
  | [d1, d2] => { results := [.lit (.bool false)], args := [d1, d2] }
  | _ => none }
def FnExactInverseRelationWrongFalsely : Prop := fnExactInverseRelationRow.holds Try.pinned (OpenSpec.ofChange fnExactInverseRelationWrong)

/-- 'laws.FnExactClosureOf': WHATEVER THE INPUT: true; the input reads as it did. -/
def fnExactClosureOfSpec : ChangeSpec := { name := "fnExactClosureOf", fn := fun _ => fun
  | [d1, d2] => { results := [.lit (.bool true)], args := [d1, d2] }
  | _ => none }
def fnExactClosureOfRow : OpenClaim := { program := "ythnopigibjmgbaa", sum := "f397dfb115c5d9c53dd430c4df4dd8d2dc76adc51e0fe747f2ddb6921223df97", func := "loop.example/g01075/laws.FnExactClosureOf", spec := "fnExactClosureOf", plainKeys := false, apart := false }
def FnExactClosureOfSaid : Prop := fnExactClosureOfRow.holds Try.pinned (OpenSpec.ofChange fnExactClosureOfSpec)

/-- ITS FALSE NEIGHBOUR: 'it returns false'. Refute it at one input. -/
def fnExactClosureOfWrong : ChangeSpec := { name := "fnExactClosureOf", fn := fun _ => fun
  | [d1, d2] => { results := [.lit (.bool false)], args := [d1, d2] }
  | _ => none }
def FnExactClosureOfWrongFalsely : Prop := fnExactClosureOfRow.holds Try.pinned (OpenSpec.ofChange fnExactClosureOfWrong)

/-- 'laws.FnExactSpanOf': WHATEVER THE INPUT: true; the input reads as it did. -/
def fnExactSpanOfSpec : ChangeSpec := { name := "fnExactSpanOf", fn := fun _ => fun
  | [d1, d2] => { results := [.lit (.bool true)], args := [d1, d2] }
  | _ => none }
def fnExactSpanOfRow : OpenClaim := { program := "ythnopigibjmgbaa", sum := "f397dfb115c5d9c53dd430c4df4dd8d2dc76adc51e0fe747f2ddb6921223df97", func := "loop.example/g01075/laws.FnExactSpanOf", spec := "fnExactSpanOf", plainKeys := false, apart := false }
def FnExactSpanOfSaid : Prop := fnExactSpanOfRow.holds Try.pinned (OpenSpec.ofChange fnExactSpanOfSpec)

/-- ITS FALSE NEIGHBOUR: 'it returns false'. Refute it at one input. -/
def fnExactSpanOfWrong : ChangeSpec := { name := "fnExactSpanOf", fn := fun _ => fun
  | [d1, d2] => { results := [.lit (.bool false)], args := [d1, d2] }
  | _ => none }
def FnExactSpanOfWrongFalsely : Prop := fnExactSpanOfRow.holds Try.pinned (OpenSpec.ofChange fnExactSpanOfWrong)

/- THE SECOND FORM. 'bulk': how many values and letters a reading holds, each counted each time it is reached (what is shared counts as often as it is met; a slice's spare places count too). A statement '..UptoSaid' is the law's where the arguments, and the package variables that the reading takes, are together of bulk at most 1048576: NARROWER than '..Said'. Prove '..Said' where nothing that the law and all that it calls make is longer than what came in: it says more and counts as full. Else prove '..UptoSaid'. A law counts once. -/
mutual
def uptoBulk {H : Type} : DataW H → Nat
  | .lit (.string bytes) => bytes.length + 1
  | .lit _ => 1
  | .nil => 1
  | .ptr d => uptoBulk d + 1
  | .slice elems spare => uptoBulkAll elems + uptoBulkAll spare + 1
  | .agg parts => uptoBulkAll parts + 1
  | .iface _ d => uptoBulk d + 1
  | .map entries => uptoBulkEntries entries + 1
  | .held _ => 1
def uptoBulkAll {H : Type} : List (DataW H) → Nat
  | [] => 0
  | d :: r => uptoBulk d + uptoBulkAll r
def uptoBulkEntries {H : Type} : List (Lit × DataW H) → Nat
  | [] => 0
  | x :: r => uptoBulkEntry x + uptoBulkEntries r
def uptoBulkEntry {H : Type} : Lit × DataW H → Nat
  | (.string bytes, d) => bytes.length + uptoBulk d + 1
  | (_, d) => uptoBulk d + 1
 end
def uptoSmall : (H : Type) → List (DataW H) → Bool := fun _ ds => decide (uptoBulkAll ds ≤ 1048576)
def OpenSpec.upto (s : _root_.Go.ChangeSpec) : _root_.Go.OpenSpec := { _root_.Go.OpenSpec.ofChange s with cond := some uptoSmall }

/-- 'laws.FnClosures', WHERE WHAT IT READS IS OF BULK AT MOST 1048576: true; the input reads as it did. -/
def fnClosuresUptoRow : OpenClaim := { program := "ythnopigibjmgbaa", sum := "f397dfb115c5d9c53dd430c4df4dd8d2dc76adc51e0fe747f2ddb6921223df97", func := "loop.example/g01075/laws.FnClosures", spec := "fnClosures", plainKeys := false, apart := false, narrowed := true }
def FnClosuresUptoSaid : Prop := fnClosuresUptoRow.holds Try.pinned (OpenSpec.upto fnClosuresSpec)

/-- 'laws.FnExactIsPartition', WHERE WHAT IT READS IS OF BULK AT MOST 1048576: true; the input reads as it did. -/
def fnExactIsPartitionUptoRow : OpenClaim := { program := "ythnopigibjmgbaa", sum := "f397dfb115c5d9c53dd430c4df4dd8d2dc76adc51e0fe747f2ddb6921223df97", func := "loop.example/g01075/laws.FnExactIsPartition", spec := "fnExactIsPartition", plainKeys := false, apart := false, narrowed := true }
def FnExactIsPartitionUptoSaid : Prop := fnExactIsPartitionUptoRow.holds Try.pinned (OpenSpec.upto fnExactIsPartitionSpec)

/-- 'laws.FnExactNormalPartition', WHERE WHAT IT READS IS OF BULK AT MOST 1048576: true; the input reads as it did. -/
def fnExactNormalPartitionUptoRow : OpenClaim := { program := "ythnopigibjmgbaa", sum := "f397dfb115c5d9c53dd430c4df4dd8d2dc76adc51e0fe747f2ddb6921223df97", func := "loop.example/g01075/laws.FnExactNormalPartition", spec := "fnExactNormalPartition", plainKeys := false, apart := false, narrowed := true }
def FnExactNormalPartitionUptoSaid : Prop := fnExactNormalPartitionUptoRow.holds Try.pinned (OpenSpec.upto fnExactNormalPartitionSpec)

/-- 'laws.FnExactBlocksOf', WHERE WHAT IT READS IS OF BULK AT MOST 1048576: true; the input reads as it did. -/
def fnExactBlocksOfUptoRow : OpenClaim := { program := "ythnopigibjmgbaa", sum := "f397dfb115c5d9c53dd430c4df4dd8d2dc76adc51e0fe747f2ddb6921223df97", func := "loop.example/g01075/laws.FnExactBlocksOf", spec := "fnExactBlocksOf", inPlace := ["internal/reflectlite.ValueOf", "internal/reflectlite.Swapper", "(internal/reflectlite.Value).Len"], unfollowed := true, recurses := true, plainKeys := false, apart := false, narrowed := true }
def FnExactBlocksOfUptoSaid : Prop := fnExactBlocksOfUptoRow.holds Try.pinned (OpenSpec.upto fnExactBlocksOfSpec)

/-- 'laws.FnExactFromBlocks', WHERE WHAT IT READS IS OF BULK AT MOST 1048576: true; the input reads as it did. -/
def fnExactFromBlocksUptoRow : OpenClaim := { program := "ythnopigibjmgbaa", sum := "f397dfb115c5d9c53dd430c4df4dd8d2dc76adc51e0fe747f2ddb6921223df97", func := "loop.example/g01075/laws.FnExactFromBlocks", spec := "fnExactFromBlocks", plainKeys := false, apart := false, narrowed := true }
def FnExactFromBlocksUptoSaid : Prop := fnExactFromBlocksUptoRow.holds Try.pinned (OpenSpec.upto fnExactFromBlocksSpec)

/-- 'laws.FnExactRefinesPartition', WHERE WHAT IT READS IS OF BULK AT MOST 1048576: true; the input reads as it did. -/
def fnExactRefinesPartitionUptoRow : OpenClaim := { program := "ythnopigibjmgbaa", sum := "f397dfb115c5d9c53dd430c4df4dd8d2dc76adc51e0fe747f2ddb6921223df97", func := "loop.example/g01075/laws.FnExactRefinesPartition", spec := "fnExactRefinesPartition", plainKeys := false, apart := false, narrowed := true }
def FnExactRefinesPartitionUptoSaid : Prop := fnExactRefinesPartitionUptoRow.holds Try.pinned (OpenSpec.upto fnExactRefinesPartitionSpec)

/-- 'laws.FnExactMeetPartitions', WHERE WHAT IT READS IS OF BULK AT MOST 1048576: true; the input reads as it did. -/
def fnExactMeetPartitionsUptoRow : OpenClaim := { program := "ythnopigibjmgbaa", sum := "f397dfb115c5d9c53dd430c4df4dd8d2dc76adc51e0fe747f2ddb6921223df97", func := "loop.example/g01075/laws.FnExactMeetPartitions", spec := "fnExactMeetPartitions", plainKeys := false, apart := false, narrowed := true }
def FnExactMeetPartitionsUptoSaid : Prop := fnExactMeetPartitionsUptoRow.holds Try.pinned (OpenSpec.upto fnExactMeetPartitionsSpec)

/-- 'laws.FnExactJoinPartitions', WHERE WHAT IT READS IS OF BULK AT MOST 1048576: true; the input reads as it did. -/
def fnExactJoinPartitionsUptoRow : OpenClaim := { program := "ythnopigibjmgbaa", sum := "f397dfb115c5d9c53dd430c4df4dd8d2dc76adc51e0fe747f2ddb6921223df97", func := "loop.example/g01075/laws.FnExactJoinPartitions", spec := "fnExactJoinPartitions", plainKeys := false, apart := false, narrowed := true }
def FnExactJoinPartitionsUptoSaid : Prop := fnExactJoinPartitionsUptoRow.holds Try.pinned (OpenSpec.upto fnExactJoinPartitionsSpec)

/-- 'laws.FnExactPairsOf', WHERE WHAT IT READS IS OF BULK AT MOST 1048576: true; the input reads as it did. -/
def fnExactPairsOfUptoRow : OpenClaim := { program := "ythnopigibjmgbaa", sum := "f397dfb115c5d9c53dd430c4df4dd8d2dc76adc51e0fe747f2ddb6921223df97", func := "loop.example/g01075/laws.FnExactPairsOf", spec := "fnExactPairsOf", plainKeys := false, apart := false, narrowed := true }
def FnExactPairsOfUptoSaid : Prop := fnExactPairsOfUptoRow.holds Try.pinned (OpenSpec.upto fnExactPairsOfSpec)

/-- 'laws.FnExactIsRelation', WHERE WHAT IT READS IS OF BULK AT MOST 1048576: true; the input reads as it did. -/
def fnExactIsRelationUptoRow : OpenClaim := { program := "ythnopigibjmgbaa", sum := "f397dfb115c5d9c53dd430c4df4dd8d2dc76adc51e0fe747f2ddb6921223df97", func := "loop.example/g01075/laws.FnExactIsRelation", spec := "fnExactIsRelation", plainKeys := false, apart := false, narrowed := true }
def FnExactIsRelationUptoSaid : Prop := fnExactIsRelationUptoRow.holds Try.pinned (OpenSpec.upto fnExactIsRelationSpec)

/-- 'laws.FnExactComposeRelations', WHERE WHAT IT READS IS OF BULK AT MOST 1048576: true; the input reads as it did. -/
def fnExactComposeRelationsUptoRow : OpenClaim := { program := "ythnopigibjmgbaa", sum := "f397dfb115c5d9c53dd430c4df4dd8d2dc76adc51e0fe747f2ddb6921223df97", func := "loop.example/g01075/laws.FnExactComposeRelations", spec := "fnExactComposeRelations", plainKeys := false, apart := false, narrowed := true }
def FnExactComposeRelationsUptoSaid : Prop := fnExactComposeRelationsUptoRow.holds Try.pinned (OpenSpec.upto fnExactComposeRelationsSpec)

/-- 'laws.FnExactInverseRelation', WHERE WHAT IT READS IS OF BULK AT MOST 1048576: true; the input reads as it did. -/
def fnExactInverseRelationUptoRow : OpenClaim := { program := "ythnopigibjmgbaa", sum := "f397dfb115c5d9c53dd430c4df4dd8d2dc76adc51e0fe747f2ddb6921223df97", func := "loop.example/g01075/laws.FnExactInverseRelation", spec := "fnExactInverseRelation", plainKeys := false, apart := false, narrowed := true }
def FnExactInverseRelationUptoSaid : Prop := fnExactInverseRelationUptoRow.holds Try.pinned (OpenSpec.upto fnExactInverseRelationSpec)

/-- 'laws.FnExactClosureOf', WHERE WHAT IT READS IS OF BULK AT MOST 1048576: true; the input reads as it did. -/
def fnExactClosureOfUptoRow : OpenClaim := { program := "ythnopigibjmgbaa", sum := "f397dfb115c5d9c53dd430c4df4dd8d2dc76adc51e0fe747f2ddb6921223df97", func := "loop.example/g01075/laws.FnExactClosureOf", spec := "fnExactClosureOf", plainKeys := false, apart := false, narrowed := true }
def FnExactClosureOfUptoSaid : Prop := fnExactClosureOfUptoRow.holds Try.pinned (OpenSpec.upto fnExactClosureOfSpec)

/-- 'laws.FnExactSpanOf', WHERE WHAT IT READS IS OF BULK AT MOST 1048576: true; the input reads as it did. -/
def fnExactSpanOfUptoRow : OpenClaim := { program := "ythnopigibjmgbaa", sum := "f397dfb115c5d9c53dd430c4df4dd8d2dc76adc51e0fe747f2ddb6921223df97", func := "loop.example/g01075/laws.FnExactSpanOf", spec := "fnExactSpanOf", plainKeys := false, apart := false, narrowed := true }
def FnExactSpanOfUptoSaid : Prop := fnExactSpanOfUptoRow.holds Try.pinned (OpenSpec.upto fnExactSpanOfSpec)

end Rows
end Go.Proofs.Ythnopigibjmgbaa
