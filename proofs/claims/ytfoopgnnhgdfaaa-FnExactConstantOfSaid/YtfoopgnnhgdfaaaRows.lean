/-
  No cell of these rows narrows 'for every input' (looked for: loops, veiled, ifaces, maps, wideKeys, modest, calm, conditions, laid).
  DERIVED. THE GIVEN ROWS OF THIS SEAT. 12 by the template 'for every input the law returns true; each argument reads behind the call as it read before'; 0 by the template 'total and deterministic' (their statements: YtfoopgnnhgdfaaaTotals.lean).
  GIVEN WITH THE SEED: the statements are not yours to turn. If you find one false, say at which input.
  Laid BY PROGRAM, IN A SANDBOX (cutbox-rows.mjs): the forced cells as the released guide's own fill.sh prints them over the translation 96563e67d56534c8… (all of the seat's roots in one cut). By AI agents, Wed Nov 11 2026. No macro, syntax, notation, axiom, sorry.
-/
import Derived.Test.YtfoopgnnhgdfaaaChecked
import GoSem.Claim
import GoSem.ClaimJoined
import GoSem.ClaimMapViews
import Derived.JoinedTies
import Derived.KernelRfl
namespace Go.Proofs.Ytfoopgnnhgdfaaa
/- THE CELL 'sum', in the pinned program and in every row, IS THE sha256 OF THE DUMP (.gsa) THAT YtfoopgnnhgdfaaaProg.lean LOADS. Nothing in Lean hashes anything: it is a label: what it is worth is what the hold of that sum in a sandbox is worth. -/
noncomputable def Try.pinned : Pinned := { name := "ytfoopgnnhgdfaaa", sum := "96563e67d56534c8da9ab1a3037038cbc492066499738412fed16e7aa2092e79", checked := Try.checked }
namespace Rows
def none {H : Type} : Left H := { results := [], args := [] }

/-- 'laws.FnTerms': WHATEVER THE INPUT: true; the input reads as it did. -/
def fnTermsSpec : ChangeSpec := { name := "fnTerms", fn := fun _ => fun
  | [d1, d2] => { results := [.lit (.bool true)], args := [d1, d2] }
  | _ => none }
def fnTermsRow : OpenClaim := { program := "ytfoopgnnhgdfaaa", sum := "96563e67d56534c8da9ab1a3037038cbc492066499738412fed16e7aa2092e79", func := "loop.example/g01075/laws.FnTerms", spec := "fnTerms", unfollowed := true, recurses := true, apart := false }
def FnTermsSaid : Prop := fnTermsRow.holds Try.pinned (OpenSpec.ofChange fnTermsSpec)

/-- ITS FALSE NEIGHBOUR: 'it returns false'. Refute it at one input. -/
def fnTermsWrong : ChangeSpec := { name := "fnTerms", fn := fun _ => fun
  | [d1, d2] => { results := [.lit (.bool false)], args := [d1, d2] }
  | _ => none }
def FnTermsWrongFalsely : Prop := fnTermsRow.holds Try.pinned (OpenSpec.ofChange fnTermsWrong)

/-- 'laws.FnExactValidTerms': WHATEVER THE INPUT: true; the input reads as it did. -/
def fnExactValidTermsSpec : ChangeSpec := { name := "fnExactValidTerms", fn := fun _ => fun
  | [d1, d2, d3] => { results := [.lit (.bool true)], args := [d1, d2, d3] }
  | _ => none }
def fnExactValidTermsRow : OpenClaim := { program := "ytfoopgnnhgdfaaa", sum := "96563e67d56534c8da9ab1a3037038cbc492066499738412fed16e7aa2092e79", func := "loop.example/g01075/laws.FnExactValidTerms", spec := "fnExactValidTerms", unfollowed := true, recurses := true, apart := false }
def FnExactValidTermsSaid : Prop := fnExactValidTermsRow.holds Try.pinned (OpenSpec.ofChange fnExactValidTermsSpec)

/-- ITS FALSE NEIGHBOUR: 'it returns false'. Refute it at one input. -/
def fnExactValidTermsWrong : ChangeSpec := { name := "fnExactValidTerms", fn := fun _ => fun
  | [d1, d2, d3] => { results := [.lit (.bool false)], args := [d1, d2, d3] }
  | _ => none }
def FnExactValidTermsWrongFalsely : Prop := fnExactValidTermsRow.holds Try.pinned (OpenSpec.ofChange fnExactValidTermsWrong)

/-- 'laws.FnExactEvaluate': WHATEVER THE INPUT: true; the input reads as it did. -/
def fnExactEvaluateSpec : ChangeSpec := { name := "fnExactEvaluate", fn := fun _ => fun
  | [d1, d2] => { results := [.lit (.bool true)], args := [d1, d2] }
  | _ => none }
def fnExactEvaluateRow : OpenClaim := { program := "ytfoopgnnhgdfaaa", sum := "96563e67d56534c8da9ab1a3037038cbc492066499738412fed16e7aa2092e79", func := "loop.example/g01075/laws.FnExactEvaluate", spec := "fnExactEvaluate", unfollowed := true, recurses := true, apart := false }
def FnExactEvaluateSaid : Prop := fnExactEvaluateRow.holds Try.pinned (OpenSpec.ofChange fnExactEvaluateSpec)

/-- ITS FALSE NEIGHBOUR: 'it returns false'. Refute it at one input. -/
def fnExactEvaluateWrong : ChangeSpec := { name := "fnExactEvaluate", fn := fun _ => fun
  | [d1, d2] => { results := [.lit (.bool false)], args := [d1, d2] }
  | _ => none }
def FnExactEvaluateWrongFalsely : Prop := fnExactEvaluateRow.holds Try.pinned (OpenSpec.ofChange fnExactEvaluateWrong)

/-- 'laws.FnExactVariablesOf': WHATEVER THE INPUT: true; the input reads as it did. -/
def fnExactVariablesOfSpec : ChangeSpec := { name := "fnExactVariablesOf", fn := fun _ => fun
  | [d] => { results := [.lit (.bool true)], args := [d] }
  | _ => none }
def fnExactVariablesOfRow : OpenClaim := { program := "ytfoopgnnhgdfaaa", sum := "96563e67d56534c8da9ab1a3037038cbc492066499738412fed16e7aa2092e79", func := "loop.example/g01075/laws.FnExactVariablesOf", spec := "fnExactVariablesOf", unfollowed := true, recurses := true, apart := false }
def FnExactVariablesOfSaid : Prop := fnExactVariablesOfRow.holds Try.pinned (OpenSpec.ofChange fnExactVariablesOfSpec)

/-- ITS FALSE NEIGHBOUR: 'it returns false'. Refute it at one input. -/
def fnExactVariablesOfWrong : ChangeSpec := { name := "fnExactVariablesOf", fn := fun _ => fun
  | [d] => { results := [.lit (.bool false)], args := [d] }
  | _ => none }
def FnExactVariablesOfWrongFalsely : Prop := fnExactVariablesOfRow.holds Try.pinned (OpenSpec.ofChange fnExactVariablesOfWrong)

/-- 'laws.FnExactOperandsOf': WHATEVER THE INPUT: true; the input reads as it did. -/
def fnExactOperandsOfSpec : ChangeSpec := { name := "fnExactOperandsOf", fn := fun _ => fun
  | [d] => { results := [.lit (.bool true)], args := [d] }
  | _ => none }
def fnExactOperandsOfRow : OpenClaim := { program := "ytfoopgnnhgdfaaa", sum := "96563e67d56534c8da9ab1a3037038cbc492066499738412fed16e7aa2092e79", func := "loop.example/g01075/laws.FnExactOperandsOf", spec := "fnExactOperandsOf", unfollowed := true, recurses := true, apart := false }
def FnExactOperandsOfSaid : Prop := fnExactOperandsOfRow.holds Try.pinned (OpenSpec.ofChange fnExactOperandsOfSpec)

/-- ITS FALSE NEIGHBOUR: 'it returns false'. Refute it at one input. -/
def fnExactOperandsOfWrong : ChangeSpec := { name := "fnExactOperandsOf", fn := fun _ => fun
  | [d] => { results := [.lit (.bool false)], args := [d] }
  | _ => none }
def FnExactOperandsOfWrongFalsely : Prop := fnExactOperandsOfRow.holds Try.pinned (OpenSpec.ofChange fnExactOperandsOfWrong)

/-- 'laws.FnExactSubstitute': WHATEVER THE INPUT: true; the input reads as it did. -/
def fnExactSubstituteSpec : ChangeSpec := { name := "fnExactSubstitute", fn := fun _ => fun
  | [d1, d2, d3] => { results := [.lit (.bool true)], args := [d1, d2, d3] }
  | _ => none }
def fnExactSubstituteRow : OpenClaim := { program := "ytfoopgnnhgdfaaa", sum := "96563e67d56534c8da9ab1a3037038cbc492066499738412fed16e7aa2092e79", func := "loop.example/g01075/laws.FnExactSubstitute", spec := "fnExactSubstitute", unfollowed := true, recurses := true, apart := false }
def FnExactSubstituteSaid : Prop := fnExactSubstituteRow.holds Try.pinned (OpenSpec.ofChange fnExactSubstituteSpec)

/-- ITS FALSE NEIGHBOUR: 'it returns false'. Refute it at one input. -/
def fnExactSubstituteWrong : ChangeSpec := { name := "fnExactSubstitute", fn := fun _ => fun
  | [d1, d2, d3] => { results := [.lit (.bool false)], args := [d1, d2, d3] }
  | _ => none }
def FnExactSubstituteWrongFalsely : Prop := fnExactSubstituteRow.holds Try.pinned (OpenSpec.ofChange fnExactSubstituteWrong)

/-- 'laws.FnExactShiftVariables': WHATEVER THE INPUT: true; the input reads as it did. -/
def fnExactShiftVariablesSpec : ChangeSpec := { name := "fnExactShiftVariables", fn := fun _ => fun
  | [d1, d2, d3] => { results := [.lit (.bool true)], args := [d1, d2, d3] }
  | _ => none }
def fnExactShiftVariablesRow : OpenClaim := { program := "ytfoopgnnhgdfaaa", sum := "96563e67d56534c8da9ab1a3037038cbc492066499738412fed16e7aa2092e79", func := "loop.example/g01075/laws.FnExactShiftVariables", spec := "fnExactShiftVariables", unfollowed := true, recurses := true, apart := false }
def FnExactShiftVariablesSaid : Prop := fnExactShiftVariablesRow.holds Try.pinned (OpenSpec.ofChange fnExactShiftVariablesSpec)

/-- ITS FALSE NEIGHBOUR: 'it returns false'. Refute it at one input. -/
def fnExactShiftVariablesWrong : ChangeSpec := { name := "fnExactShiftVariables", fn := fun _ => fun
  | [d1, d2, d3] => { results := [.lit (.bool false)], args := [d1, d2, d3] }
  | _ => none }
def FnExactShiftVariablesWrongFalsely : Prop := fnExactShiftVariablesRow.holds Try.pinned (OpenSpec.ofChange fnExactShiftVariablesWrong)

/-- 'laws.FnExactFoldTerms': WHATEVER THE INPUT: true; the input reads as it did. -/
def fnExactFoldTermsSpec : ChangeSpec := { name := "fnExactFoldTerms", fn := fun _ => fun
  | [d] => { results := [.lit (.bool true)], args := [d] }
  | _ => none }
def fnExactFoldTermsRow : OpenClaim := { program := "ytfoopgnnhgdfaaa", sum := "96563e67d56534c8da9ab1a3037038cbc492066499738412fed16e7aa2092e79", func := "loop.example/g01075/laws.FnExactFoldTerms", spec := "fnExactFoldTerms", unfollowed := true, recurses := true, apart := false }
def FnExactFoldTermsSaid : Prop := fnExactFoldTermsRow.holds Try.pinned (OpenSpec.ofChange fnExactFoldTermsSpec)

/-- ITS FALSE NEIGHBOUR: 'it returns false'. Refute it at one input. -/
def fnExactFoldTermsWrong : ChangeSpec := { name := "fnExactFoldTerms", fn := fun _ => fun
  | [d] => { results := [.lit (.bool false)], args := [d] }
  | _ => none }
def FnExactFoldTermsWrongFalsely : Prop := fnExactFoldTermsRow.holds Try.pinned (OpenSpec.ofChange fnExactFoldTermsWrong)

/-- 'laws.FnExactConstantOf': WHATEVER THE INPUT: true; the input reads as it did. -/
def fnExactConstantOfSpec : ChangeSpec := { name := "fnExactConstantOf", fn := fun _ => fun
  | [d] => { results := [.lit (.bool true)], args := [d] }
  | _ => none }
def fnExactConstantOfRow : OpenClaim := { program := "ytfoopgnnhgdfaaa", sum := "96563e67d56534c8da9ab1a3037038cbc492066499738412fed16e7aa2092e79", func := "loop.example/g01075/laws.FnExactConstantOf", spec := "fnExactConstantOf", unfollowed := true, recurses := true, apart := false }
def FnExactConstantOfSaid : Prop := fnExactConstantOfRow.holds Try.pinned (OpenSpec.ofChange fnExactConstantOfSpec)

/-- ITS FALSE NEIGHBOUR: 'it returns false'. Refute it at one input. -/
def fnExactConstantOfWrong : ChangeSpec := { name := "fnExactConstantOf", fn := fun _ => fun
  | [d] => { results := [.lit (.bool false)], args := [d] }
  | _ => none }
def FnExactConstantOfWrongFalsely : Prop := fnExactConstantOfRow.holds Try.pinned (OpenSpec.ofChange fnExactConstantOfWrong)

/-- 'laws.FnExactConjunction': WHATEVER THE INPUT: true; the input reads as it did. -/
def fnExactConjunctionSpec : ChangeSpec := { name := "fnExactConjunction", fn := fun _ => fun
  | [d] => { results := [.lit (.bool true)], args := [d] }
  | _ => none }
def fnExactConjunctionRow : OpenClaim := { program := "ytfoopgnnhgdfaaa", sum := "96563e67d56534c8da9ab1a3037038cbc492066499738412fed16e7aa2092e79", func := "loop.example/g01075/laws.FnExactConjunction", spec := "fnExactConjunction", unfollowed := true, recurses := true, apart := false }
def FnExactConjunctionSaid : Prop := fnExactConjunctionRow.holds Try.pinned (OpenSpec.ofChange fnExactConjunctionSpec)

/-- ITS FALSE NEIGHBOUR: 'it returns false'. Refute it at one input. -/
def fnExactConjunctionWrong : ChangeSpec := { name := "fnExactConjunction", fn := fun _ => fun
  | [d] => { results := [.lit (.bool false)], args := [d] }
  | _ => none }
def FnExactConjunctionWrongFalsely : Prop := fnExactConjunctionRow.holds Try.pinned (OpenSpec.ofChange fnExactConjunctionWrong)

/-- 'laws.FnExactPostfixOf': WHATEVER THE INPUT: true; the input reads as it did. -/
def fnExactPostfixOfSpec : ChangeSpec := { name := "fnExactPostfixOf", fn := fun _ => fun
  | [d] => { results := [.lit (.bool true)], args := [d] }
  | _ => none }
def fnExactPostfixOfRow : OpenClaim := { program := "ytfoopgnnhgdfaaa", sum := "96563e67d56534c8da9ab1a3037038cbc492066499738412fed16e7aa2092e79", func := "loop.example/g01075/laws.FnExactPostfixOf", spec := "fnExactPostfixOf", unfollowed := true, recurses := true, apart := false }
def FnExactPostfixOfSaid : Prop := fnExactPostfixOfRow.holds Try.pinned (OpenSpec.ofChange fnExactPostfixOfSpec)

/-- ITS FALSE NEIGHBOUR: 'it returns false'. Refute it at one input. -/
def fnExactPostfixOfWrong : ChangeSpec := { name := "fnExactPostfixOf", fn := fun _ => fun
  | [d] => { results := [.lit (.bool false)], args := [d] }
  | _ => none }
def FnExactPostfixOfWrongFalsely : Prop := fnExactPostfixOfRow.holds Try.pinned (OpenSpec.ofChange fnExactPostfixOfWrong)

/-- 'laws.FnExactFromPostfix': WHATEVER THE INPUT: true; the input reads as it did. -/
def fnExactFromPostfixSpec : ChangeSpec := { name := "fnExactFromPostfix", fn := fun _ => fun
  | [d] => { results := [.lit (.bool true)], args := [d] }
  | _ => none }
def fnExactFromPostfixRow : OpenClaim := { program := "ytfoopgnnhgdfaaa", sum := "96563e67d56534c8da9ab1a3037038cbc492066499738412fed16e7aa2092e79", func := "loop.example/g01075/laws.FnExactFromPostfix", spec := "fnExactFromPostfix", unfollowed := true, recurses := true, apart := false }
def FnExactFromPostfixSaid : Prop := fnExactFromPostfixRow.holds Try.pinned (OpenSpec.ofChange fnExactFromPostfixSpec)

/-- ITS FALSE NEIGHBOUR: 'it returns false'. Refute it at one input. -/
def fnExactFromPostfixWrong : ChangeSpec := { name := "fnExactFromPostfix", fn := fun _ => fun
  | [d] => { results := [.lit (.bool false)], args := [d] }
  | _ => none }
def FnExactFromPostfixWrongFalsely : Prop := fnExactFromPostfixRow.holds Try.pinned (OpenSpec.ofChange fnExactFromPostfixWrong)

/- THE SECOND FORM. 'bulk': how many values and letters a reading holds, each counted each time it is reached (what is shared counts as often as it is met; a slice's spare places count too). A statement '..UptoSaid' is the law's where the arguments, and the package variables that the reading takes, are together of bulk at most 1048576: NARROWER than '..Said'. Prove '..Said' where nothing that the law and all that it calls make is longer than what came in: it says more and counts as full. Else prove '..UptoSaid'. A law counts once. -/
mutual
def uptoBulk {H : Type} : DataW H → Nat
  | .lit (.string bytes) => bytes.length + 1
  | .lit _ => 1
  | .nil => 1
  | .ptr d => uptoBulk d + 1
  | .slice elems spare => uptoBulkAll elems + uptoBulkAll spare + 1
  | .agg parts => uptoBulkAll parts + 1
  | .iface _ d => uptoBulk d + 1
  | .map entries => uptoBulkEntries entries + 1
  | .held _ => 1
def uptoBulkAll {H : Type} : List (DataW H) → Nat
  | [] => 0
  | d :: r => uptoBulk d + uptoBulkAll r
def uptoBulkEntries {H : Type} : List (Lit × DataW H) → Nat
  | [] => 0
  | x :: r => uptoBulkEntry x + uptoBulkEntries r
def uptoBulkEntry {H : Type} : Lit × DataW H → Nat
  | (.string bytes, d) => bytes.length + uptoBulk d + 1
  | (_, d) => uptoBulk d + 1
 end
def uptoSmall : (H : Type) → List (DataW H) → Bool := fun _ ds => decide (uptoBulkAll ds ≤ 1048576)
def OpenSpec.upto (s : _root_.Go.ChangeSpec) : _root_.Go.OpenSpec := { _root_.Go.OpenSpec.ofChange s with cond := some uptoSmall }

/-- 'laws.FnTerms', WHERE WHAT IT READS IS OF BULK AT MOST 1048576: true; the input reads as it did. -/
def fnTermsUptoRow : OpenClaim := { program := "ytfoopgnnhgdfaaa", sum := "96563e67d56534c8da9ab1a3037038cbc492066499738412fed16e7aa2092e79", func := "loop.example/g01075/laws.FnTerms", spec := "fnTerms", unfollowed := true, recurses := true, apart := false, narrowed := true }
def FnTermsUptoSaid : Prop := fnTermsUptoRow.holds Try.pinned (OpenSpec.upto fnTermsSpec)

/-- 'laws.FnExactValidTerms', WHERE WHAT IT READS IS OF BULK AT MOST 1048576: true; the input reads as it did. -/
def fnExactValidTermsUptoRow : OpenClaim := { program := "ytfoopgnnhgdfaaa", sum := "96563e67d56534c8da9ab1a3037038cbc492066499738412fed16e7aa2092e79", func := "loop.example/g01075/laws.FnExactValidTerms", spec := "fnExactValidTerms", unfollowed := true, recurses := true, apart := false, narrowed := true }
def FnExactValidTermsUptoSaid : Prop := fnExactValidTermsUptoRow.holds Try.pinned (OpenSpec.upto fnExactValidTermsSpec)

/-- 'laws.FnExactEvaluate', WHERE WHAT IT READS IS OF BULK AT MOST 1048576: true; the input reads as it did. -/
def fnExactEvaluateUptoRow : OpenClaim := { program := "ytfoopgnnhgdfaaa", sum := "96563e67d56534c8da9ab1a3037038cbc492066499738412fed16e7aa2092e79", func := "loop.example/g01075/laws.FnExactEvaluate", spec := "fnExactEvaluate", unfollowed := true, recurses := true, apart := false, narrowed := true }
def FnExactEvaluateUptoSaid : Prop := fnExactEvaluateUptoRow.holds Try.pinned (OpenSpec.upto fnExactEvaluateSpec)

/-- 'laws.FnExactVariablesOf', WHERE WHAT IT READS IS OF BULK AT MOST 1048576: true; the input reads as it did. -/
def fnExactVariablesOfUptoRow : OpenClaim := { program := "ytfoopgnnhgdfaaa", sum := "96563e67d56534c8da9ab1a3037038cbc492066499738412fed16e7aa2092e79", func := "loop.example/g01075/laws.FnExactVariablesOf", spec := "fnExactVariablesOf", unfollowed := true, recurses := true, apart := false, narrowed := true }
def FnExactVariablesOfUptoSaid : Prop := fnExactVariablesOfUptoRow.holds Try.pinned (OpenSpec.upto fnExactVariablesOfSpec)

/-- 'laws.FnExactOperandsOf', WHERE WHAT IT READS IS OF BULK AT MOST 1048576: true; the input reads as it did. -/
def fnExactOperandsOfUptoRow : OpenClaim := { program := "ytfoopgnnhgdfaaa", sum := "96563e67d56534c8da9ab1a3037038cbc492066499738412fed16e7aa2092e79", func := "loop.example/g01075/laws.FnExactOperandsOf", spec := "fnExactOperandsOf", unfollowed := true, recurses := true, apart := false, narrowed := true }
def FnExactOperandsOfUptoSaid : Prop := fnExactOperandsOfUptoRow.holds Try.pinned (OpenSpec.upto fnExactOperandsOfSpec)

/-- 'laws.FnExactSubstitute', WHERE WHAT IT READS IS OF BULK AT MOST 1048576: true; the input reads as it did. -/
def fnExactSubstituteUptoRow : OpenClaim := { program := "ytfoopgnnhgdfaaa", sum := "96563e67d56534c8da9ab1a3037038cbc492066499738412fed16e7aa2092e79", func := "loop.example/g01075/laws.FnExactSubstitute", spec := "fnExactSubstitute", unfollowed := true, recurses := true, apart := false, narrowed := true }
def FnExactSubstituteUptoSaid : Prop := fnExactSubstituteUptoRow.holds Try.pinned (OpenSpec.upto fnExactSubstituteSpec)

/-- 'laws.FnExactShiftVariables', WHERE WHAT IT READS IS OF BULK AT MOST 1048576: true; the input reads as it did. -/
def fnExactShiftVariablesUptoRow : OpenClaim := { program := "ytfoopgnnhgdfaaa", sum := "96563e67d56534c8da9ab1a3037038cbc492066499738412fed16e7aa2092e79", func := "loop.example/g01075/laws.FnExactShiftVariables", spec := "fnExactShiftVariables", unfollowed := true, recurses := true, apart := false, narrowed := true }
def FnExactShiftVariablesUptoSaid : Prop := fnExactShiftVariablesUptoRow.holds Try.pinned (OpenSpec.upto fnExactShiftVariablesSpec)

/-- 'laws.FnExactFoldTerms', WHERE WHAT IT READS IS OF BULK AT MOST 1048576: true; the input reads as it did. -/
def fnExactFoldTermsUptoRow : OpenClaim := { program := "ytfoopgnnhgdfaaa", sum := "96563e67d56534c8da9ab1a3037038cbc492066499738412fed16e7aa2092e79", func := "loop.example/g01075/laws.FnExactFoldTerms", spec := "fnExactFoldTerms", unfollowed := true, recurses := true, apart := false, narrowed := true }
def FnExactFoldTermsUptoSaid : Prop := fnExactFoldTermsUptoRow.holds Try.pinned (OpenSpec.upto fnExactFoldTermsSpec)

/-- 'laws.FnExactConstantOf', WHERE WHAT IT READS IS OF BULK AT MOST 1048576: true; the input reads as it did. -/
def fnExactConstantOfUptoRow : OpenClaim := { program := "ytfoopgnnhgdfaaa", sum := "96563e67d56534c8da9ab1a3037038cbc492066499738412fed16e7aa2092e79", func := "loop.example/g01075/laws.FnExactConstantOf", spec := "fnExactConstantOf", unfollowed := true, recurses := true, apart := false, narrowed := true }
def FnExactConstantOfUptoSaid : Prop := fnExactConstantOfUptoRow.holds Try.pinned (OpenSpec.upto fnExactConstantOfSpec)

/-- 'laws.FnExactConjunction', WHERE WHAT IT READS IS OF BULK AT MOST 1048576: true; the input reads as it did. -/
def fnExactConjunctionUptoRow : OpenClaim := { program := "ytfoopgnnhgdfaaa", sum := "96563e67d56534c8da9ab1a3037038cbc492066499738412fed16e7aa2092e79", func := "loop.example/g01075/laws.FnExactConjunction", spec := "fnExactConjunction", unfollowed := true, recurses := true, apart := false, narrowed := true }
def FnExactConjunctionUptoSaid : Prop := fnExactConjunctionUptoRow.holds Try.pinned (OpenSpec.upto fnExactConjunctionSpec)

/-- 'laws.FnExactPostfixOf', WHERE WHAT IT READS IS OF BULK AT MOST 1048576: true; the input reads as it did. -/
def fnExactPostfixOfUptoRow : OpenClaim := { program := "ytfoopgnnhgdfaaa", sum := "96563e67d56534c8da9ab1a3037038cbc492066499738412fed16e7aa2092e79", func := "loop.example/g01075/laws.FnExactPostfixOf", spec := "fnExactPostfixOf", unfollowed := true, recurses := true, apart := false, narrowed := true }
def FnExactPostfixOfUptoSaid : Prop := fnExactPostfixOfUptoRow.holds Try.pinned (OpenSpec.upto fnExactPostfixOfSpec)

/-- 'laws.FnExactFromPostfix', WHERE WHAT IT READS IS OF BULK AT MOST 1048576: true; the input reads as it did. -/
def fnExactFromPostfixUptoRow : OpenClaim := { program := "ytfoopgnnhgdfaaa", sum := "96563e67d56534c8da9ab1a3037038cbc492066499738412fed16e7aa2092e79", func := "loop.example/g01075/laws.FnExactFromPostfix", spec := "fnExactFromPostfix", unfollowed := true, recurses := true, apart := false, narrowed := true }
def FnExactFromPostfixUptoSaid : Prop := fnExactFromPostfixUptoRow.holds Try.pinned (OpenSpec.upto fnExactFromPostfixSpec)

end Rows
end Go.Proofs.Ytfoopgnnhgdfaaa
