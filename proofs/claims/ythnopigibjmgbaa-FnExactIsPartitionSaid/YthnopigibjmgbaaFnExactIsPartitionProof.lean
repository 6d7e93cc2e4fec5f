/- For every list of 64-bit integers, the law of IsPartition returns true: the program's answer is the model's, and the argument reads as before. -/
import Derived.Test.YthnopigibjmgbaaRows
import Derived.WalkKit
import Derived.ProofKit
import Derived.OpenShut
import Derived.ShutString
import Derived.ChangeOld
import Derived.Below
import Derived.Test.YthnopigibjmgbaaPart3
import Derived.Test.YthnopigibjmgbaaLawI2
namespace Go.Proofs.Ythnopigibjmgbaa.fnExactIsPartition
open Go.ChangeShapes Go.WideShapes Go.ChangeAt Go.RowKit
open Go.ChangeMaps (open_string shut_string)
set_option linter.unusedVariables false

theorem own : ownKnob Try.prog.godebug = none := by kernel_rfl
theorem laidOut : laidOutB Try.prog = true := by kernel_rfl

/-- WHAT THE WALK IS TOLD OF A SLICE OF INTEGERS THAT CAME IN: it is nil; or it leads to a row of 'cap' cells, the numbers 'zs' (the first 'len' are its elements, the rest its spare room), each fitting its kind. -/
def IsRow (k : IntKind) (w : World) (a : Option Addr) (len cap : Nat) (zs : List Int) : Prop :=
  (a = none ∧ len = 0 ∧ cap = 0 ∧ zs = []) ∨
  ∃ x, a = some x ∧ len ≤ cap ∧ cap ≤ maxLen ∧ zs.length = cap ∧ (∀ i, i < zs.length → w.cell? (x.add i) = some (.int k (zs.getD i 0))) ∧ ∀ n ∈ zs, (Lit.int k n).wf = true

/-! ### STEP 1: THE WALK: the Go text returns true, AND WRITES NOTHING THAT WAS THERE: 'Below w.heap.size w w'' (Derived/Below.lean: '.refl', '.alloc', '.drew', '.setCell' at a new block, '.trans'). Open each 'IsRow' by 'rcases' AHEAD of 'go_enter'; part every test ahead of the walk. -/
theorem walk (a0 : Option Addr) (len0 cap0 : Nat) (z0 : List Int) (w : World) (w0 : IsRow .i64 w a0 len0 cap0 z0) :
    Calls Try.prog 4 #[.slice a0 len0 cap0] w fun e w' => e = .returned (.bool true) ∧ Below w.heap.size w w' := by
  by_cases hl0 : 1048576 < len0
  · have hl0p : (1048576 : Int) < (len0 : Int) := by omega
    go_enter Try.func4, Try.ntmps4
    go_wp2
    go_ret
    exact ⟨rfl, Below.refl _ _⟩
  have hn0 : ¬ (1048576 : Int) < (len0 : Int) := by omega
  have m0 : len0 ≤ 2000000 := by omega
  obtain ⟨r0, l0, f0⟩ := irow_in w0
  generalize z0.take len0 = xs0 at *
  have L0 := Lib.hid l0
  have F0 := Lib.hid f0
  clear l0 f0 w0 hl0
  go_enter Try.func4, Try.ntmps4
  have hne0 : ((partB xs0) != (partB xs0)) = false := by simp
  go_wp2_with fail
  refine (toI_own a0 len0 cap0 xs0 _ w.heap.size r0 (by omega) L0.out m0).mono ?_
  rintro e v1 ⟨rfl, oT0_1, b1⟩
  have s1 : w.heap.size ≤ v1.heap.size := b1.size
  have c1 : Below w.heap.size w v1 := b1
  go_wp2_with fail
  refine (specIsPart_bel _ _ _ xs0 _ _ oT0_1.row (by omega) L0.out m0).mono ?_
  rintro e v2 ⟨rfl, b2⟩
  have s2 : v1.heap.size ≤ v2.heap.size := b2.size
  have oT0_2 := oT0_1.below b2 (by omega)
  clear oT0_1
  have c2 : Below w.heap.size w v2 := c1.trans (b2.mono (by omega))
  clear c1
  clear oT0_2
  go_wp2_with fail
  refine (toI_own a0 len0 cap0 xs0 _ w.heap.size (r0.below c2) (by omega) L0.out m0).mono ?_
  rintro e v3 ⟨rfl, oX0_3, b3⟩
  have s3 : v2.heap.size ≤ v3.heap.size := b3.size
  have c3 : Below w.heap.size w v3 := c2.trans (b3.mono (by omega))
  clear c2
  go_wp2_with fail
  refine (implIsPart_any _ _ _ xs0 _ _ oX0_3.row (by omega) L0.out m0 F0.out).mono ?_
  rintro e v4 ⟨rfl, b4⟩
  have s4 : v3.heap.size ≤ v4.heap.size := b4.size
  have oX0_4 := oX0_3.below b4 (by omega)
  clear oX0_3
  have c4 : Below w.heap.size w v4 := c3.trans (b4.mono (by omega))
  clear c3
  go_wp2_with fail
  refine (toI_own a0 len0 cap0 xs0 _ w.heap.size (r0.below c4) (by omega) L0.out m0).mono ?_
  rintro e v5 ⟨rfl, oY0_5, b5⟩
  have s5 : v4.heap.size ≤ v5.heap.size := b5.size
  have oX0_5 := oX0_4.below b5 (by omega)
  clear oX0_4
  have c5 : Below w.heap.size w v5 := c4.trans (b5.mono (by omega))
  clear c4
  go_wp2_with fail
  refine (eqI_own _ _ _ _ _ _ _ _ _ _ _ _ oX0_5 oY0_5 m0).mono ?_
  rintro e v6 ⟨rfl, d6⟩
  have b6 := d6.below v5.heap.size
  clear d6
  have s6 : v5.heap.size ≤ v6.heap.size := b6.size
  have oX0_6 := oX0_5.below b6 (by omega)
  clear oX0_5
  have oY0_6 := oY0_5.below b6 (by omega)
  clear oY0_5
  have c6 : Below w.heap.size w v6 := c5.trans (b6.mono (by omega))
  clear c5
  clear oY0_6
  go_wp2
  go_ret
  exact ⟨rfl, c6⟩

/-! ### THE ROW's STEP: WRITTEN OUT: LEAVE IT -/
set_option maxRecDepth 100000 in
theorem lifted (os : Os) (started : os.Started) (H : Type) (enc : TypeId × Value → H) :
    ReturnsInHanded {} Try.checked os 4 .any (Rows.fnExactIsPartitionSpec.pre6 enc Try.prog Try.f4 Rows.fnExactIsPartitionRow.domain false) (Rows.fnExactIsPartitionSpec.post enc Try.prog Try.f4 false true false false) := by
  refine returnsInHanded_of_change (C := Try.checked) own started (by kernel_rfl) Try.func4
    (ChangeSpec.witness6 (enc := enc) (C := Try.checked) false ⟨#[], #[.slice none 0 0], []⟩ 8 (by kernel_rfl) (by kernel_rfl) (by kernel_rfl) (by kernel_rfl)) ?_
  intro W base args ds gs before hval0 hW hcnd _
  have hval : ∀ (j : Nat) t v, Try.f4.params[j]? = some t → args[j]? = some v → Value.okWide Try.prog W .any base t v := hval0
  have hW' := hW
  obtain ⟨p, q, hA0, hV, rfl, hfz, hnd⟩ := hW
  have hA : DataW.TrodAll enc Try.prog W 0 (fun _ => true) true Try.f4.params.toList args.toList ds p := hA0
  rw [Try.params4] at hA hval
  obtain ⟨v0, vs0, d0, ds0, p0, q0, hargs, rfl, rfl, h0, r0⟩ := trodAll_cons hA
  obtain ⟨rfl, rfl, rfl⟩ := trodAll_nil r0
  obtain rfl : args = #[v0] := by cases args; simp_all
  obtain ⟨rfl, rfl⟩ := trodVars_none hV
  obtain ⟨a0, len0, cap0, rfl⟩ := okWide_slice Try.underlying30 (hval 0 30 v0 rfl rfl)
  have k0 := h0
  have lt0 : ∀ x ∈ p0, x.block < W.heap.size := by obtain ⟨m, hm⟩ := k0; exact DataW.trod_lt m _ _ _ hm
  obtain ⟨z0, w0⟩ : ∃ zs, IsRow .i64 W a0 len0 cap0 zs := by
    obtain ⟨fuel, hf⟩ := h0
    rcases open_ints Try.underlying30 Try.underlying2 (by kernel_rfl) hf with ⟨hcs, _⟩ | ⟨x, l, c, zs, hcs, _, hl, hm, hz, _, hcell, hwz⟩
    · simp [Value.cells] at hcs
      obtain ⟨rfl, rfl, rfl⟩ := hcs
      exact ⟨[], .inl ⟨rfl, rfl, rfl, rfl⟩⟩
    · simp [Value.cells] at hcs
      obtain ⟨rfl, rfl, rfl⟩ := hcs
      exact ⟨zs, .inr ⟨_, rfl, hl, hm, by simpa using hz, hcell, hwz⟩⟩
  clear hA0 hval0
  refine (walk a0 len0 cap0 z0 W w0).mono fun e W' ⟨he, bel⟩ => ?_
  subst he
  exact ⟨_, rfl, _, _, _, [], _, [], hW', trodAll_mk1 (shut_bool Try.underlying4 _), (trodAll_cons_mk (Below.trod laidOut (by kernel_rfl) (of_decide_eq_true (by kernel_rfl)) k0 bel lt0) trodAll_mk0), rfl, bel.frame _, fun h => by cases h⟩

theorem over : Rows.fnExactIsPartitionRow.holds Try.pinned (OpenSpec.ofChange Rows.fnExactIsPartitionSpec) :=
  OpenClaim.holds_of_wide 4 Try.f4 rfl rfl rfl rfl rfl rfl rfl ⟨rfl, rfl, rfl, rfl, rfl⟩ rfl rfl rfl rfl rfl (by kernel_rfl) Try.func4 (by kernel_rfl)
    (of_decide_eq_true (by kernel_rfl)) (by unfold Func.isWrapper; first | (rw [if_pos (by decide +kernel)]; kernel_rfl) | (rw [if_neg (by decide +kernel)]; exact ⟨rfl, rfl⟩))
    (fun os started H enc _ => lifted os started H enc)

/-- THE STATEMENT -/
theorem proved : Rows.FnExactIsPartitionSaid := over
#print axioms proved
end Go.Proofs.Ythnopigibjmgbaa.fnExactIsPartition
