/- For every list of terms, the law of ConstantOf returns true: the program's answer and its code are the model's, and the argument reads as before. -/
import Derived.Test.YtkcbmblpalmmhaaRows
import Derived.WalkKit
import Derived.ProofKit
import Derived.OpenShut
import Derived.ShutString
import Derived.ChangeOld
import Derived.Below
import Derived.Lib.Hide
import Derived.Test.YtkcbmblpalmmhaaTm
import Derived.Test.YtkcbmblpalmmhaaLawTT
import Derived.Test.YtkcbmblpalmmhaaFoldM
import Derived.Test.YtkcbmblpalmmhaaFoldS
import Derived.Test.YtkcbmblpalmmhaaFoldI
import Derived.Test.YtkcbmblpalmmhaaConsI
import Derived.Test.YtkcbmblpalmmhaaMem
import Derived.Test.YtkcbmblpalmmhaaTmW
namespace Go.Proofs.Ytkcbmblpalmmhaa.fnExactConstantOf
open Go.ChangeShapes Go.WideShapes Go.ChangeAt Go.RowKit
open Go.ChangeMaps (open_string shut_string)
set_option linter.unusedVariables false
theorem own : ownKnob Try.prog.godebug = none := by kernel_rfl
theorem laidOut : laidOutB Try.prog = true := by kernel_rfl
theorem walk (a0 : Option Addr) (len0 cap0 : Nat) (w : World) (w0 : TIn w a0 len0) :
    Calls Try.prog 7 #[.slice a0 len0 cap0] w fun e w' => e = .returned (.bool true) ∧ Below w.heap.size w w' := by
  obtain ⟨xs0, r0, l0, x0, f0⟩ := id w0
  have L0 := Lib.hid l0
  have F0 := Lib.hid f0
  clear l0 f0 w0
  go_enter Try.func7, Try.ntmps7
  have hne0 : ((constR xs0).1 != (constR xs0).1) = false := by simp
  have hne1 : ((constR xs0).2 != (constR xs0).2) = false := by simp
  have hx0 : len0 ≤ 9223372036854775807 := by have := x0; unfold maxLen at this; omega
  by_cases hq0 : 1048576 - (len0 : Int) < 0
  · have HS0 := Lib.hid (show szT len0 (1048576) = -1 from if_pos hq0)
    go_wp2_with fail
    refine (szT_any a0 len0 cap0 (1048576) _ hx0 (by omega) (by omega)).mono ?_
    rw [HS0.out]
    rintro e w' ⟨rfl, rfl⟩
    go_wp2
    go_ret
    exact ⟨rfl, Below.refl _ _⟩
  have HS0 := Lib.hid (show szT len0 (1048576) = 1048576 - (len0 : Int) from if_neg hq0)
  go_wp2_with fail
  refine (szT_any a0 len0 cap0 (1048576) _ hx0 (by omega) (by omega)).mono ?_
  rw [HS0.out]
  rintro e w' ⟨rfl, rfl⟩
  have m0 : len0 ≤ 2000000 := by omega
  go_wp2_with fail
  refine (toTs_own a0 len0 cap0 xs0 _ w.heap.size r0 (by omega) L0.out m0).mono ?_
  rintro e v1 ⟨rfl, oT0_1, b1⟩
  have s1 : w.heap.size ≤ v1.heap.size := b1.size
  have c1 : Below w.heap.size w v1 := b1
  go_wp2_with fail
  refine (specConst_any _ _ _ xs0 _ _ _ _ oT0_1 (by omega) L0.out m0).mono ?_
  rintro e v2 ⟨rfl, b2⟩
  have s2 : v1.heap.size ≤ v2.heap.size := b2.size
  have oT0_2 := oT0_1.below b2 (by omega)
  clear oT0_1
  have c2 : Below w.heap.size w v2 := c1.trans (b2.mono (by omega))
  clear c1
  clear oT0_2
  go_wp2_with fail
  refine (toTs_own a0 len0 cap0 xs0 _ w.heap.size (r0.below c2) (by omega) L0.out m0).mono ?_
  rintro e v3 ⟨rfl, oX0_3, b3⟩
  have s3 : v2.heap.size ≤ v3.heap.size := b3.size
  have c3 : Below w.heap.size w v3 := c2.trans (b3.mono (by omega))
  clear c2
  go_wp2_with fail
  refine (implConst_any _ _ _ xs0 _ _ _ _ oX0_3 (by omega) L0.out m0).mono ?_
  rintro e v4 ⟨rfl, b4⟩
  have s4 : v3.heap.size ≤ v4.heap.size := b4.size
  have oX0_4 := oX0_3.below b4 (by omega)
  clear oX0_3
  have c4 : Below w.heap.size w v4 := c3.trans (b4.mono (by omega))
  clear c3
  go_wp2_with fail
  refine (toTs_own a0 len0 cap0 xs0 _ w.heap.size (r0.below c4) (by omega) L0.out m0).mono ?_
  rintro e v5 ⟨rfl, oY0_5, b5⟩
  have s5 : v4.heap.size ≤ v5.heap.size := b5.size
  have oX0_5 := oX0_4.below b5 (by omega)
  clear oX0_4
  have c5 : Below w.heap.size w v5 := c4.trans (b5.mono (by omega))
  clear c4
  go_wp2_with fail
  refine (eqTs_own _ _ _ _ _ _ _ _ _ _ _ _ oX0_5 oY0_5 m0 (by omega) (by omega)).mono ?_
  rintro e v6 ⟨rfl, b6⟩
  have s6 : v5.heap.size ≤ v6.heap.size := b6.size
  have oX0_6 := oX0_5.below b6 (by omega)
  clear oX0_5
  have oY0_6 := oY0_5.below b6 (by omega)
  clear oY0_5
  have c6 : Below w.heap.size w v6 := c5.trans (b6.mono (by omega))
  clear c5
  clear oY0_6
  go_wp2
  go_ret
  exact ⟨rfl, c6⟩
set_option maxRecDepth 100000 in
theorem lifted (os : Os) (started : os.Started) (H : Type) (enc : TypeId × Value → H) :
    ReturnsInHanded {} Try.checked os 7 .any (Rows.fnExactConstantOfSpec.pre6 enc Try.prog Try.f7 Rows.fnExactConstantOfRow.domain false) (Rows.fnExactConstantOfSpec.post enc Try.prog Try.f7 false true false false) := by
  refine returnsInHanded_of_change (C := Try.checked) own started (by kernel_rfl) Try.func7
    (ChangeSpec.witness6 (enc := enc) (C := Try.checked) false ⟨#[], #[.slice none 0 0], []⟩ 8 (by kernel_rfl) (by kernel_rfl) (by kernel_rfl) (by kernel_rfl)) ?_
  intro W base args ds gs before hval0 hW hcnd _
  have hval : ∀ (j : Nat) t v, Try.f7.params[j]? = some t → args[j]? = some v → Value.okWide Try.prog W .any base t v := hval0
  have hW' := hW
  obtain ⟨p, q, hA0, hV, rfl, hfz, hnd⟩ := hW
  have hA : DataW.TrodAll enc Try.prog W 0 (fun _ => true) true Try.f7.params.toList args.toList ds p := hA0
  rw [Try.params7] at hA hval
  obtain ⟨v0, vs0, d0, ds0, p0, q0, hargs, rfl, rfl, h0, r0⟩ := trodAll_cons hA
  obtain ⟨rfl, rfl, rfl⟩ := trodAll_nil r0
  obtain rfl : args = #[v0] := by cases args; simp_all
  obtain ⟨rfl, rfl⟩ := trodVars_none hV
  obtain ⟨a0, len0, cap0, rfl⟩ := okWide_slice Try.underlying35 (hval 0 35 v0 rfl rfl)
  have k0 := h0
  have lt0 : ∀ x ∈ p0, x.block < W.heap.size := by obtain ⟨m, hm⟩ := k0; exact DataW.trod_lt m _ _ _ hm
  have w0 : TIn W a0 len0 := by
    obtain ⟨fuel, hf⟩ := h0
    exact trow_in Try.underlying35 Try.underlying70 (by kernel_rfl) rfl rfl Try.underlying2 Try.underlying2 (by kernel_rfl) (by kernel_rfl) hf
  clear hA0 hval0
  refine (walk a0 len0 cap0 W w0).mono fun e W' ⟨he, bel⟩ => ?_
  subst he
  exact ⟨_, rfl, _, _, _, [], _, [], hW', (trodAll_cons_mk (shut_bool Try.underlying4 _) trodAll_mk0), (trodAll_cons_mk (Below.trod laidOut (by kernel_rfl) (of_decide_eq_true (by kernel_rfl)) k0 bel lt0) trodAll_mk0), rfl, bel.frame _, fun h => by cases h⟩
theorem over : Rows.fnExactConstantOfRow.holds Try.pinned (OpenSpec.ofChange Rows.fnExactConstantOfSpec) :=
  OpenClaim.holds_of_wide 7 Try.f7 rfl rfl rfl rfl rfl rfl rfl ⟨rfl, rfl, rfl, rfl, rfl⟩ rfl rfl rfl rfl rfl (by kernel_rfl) Try.func7 (by kernel_rfl)
    (of_decide_eq_true (by kernel_rfl)) (by unfold Func.isWrapper; first | (rw [if_pos (by decide +kernel)]; kernel_rfl) | (rw [if_neg (by decide +kernel)]; exact ⟨rfl, rfl⟩))
    (fun os started H enc _ => lifted os started H enc)
theorem proved : Rows.FnExactConstantOfSaid := over
#print axioms proved
end Go.Proofs.Ytkcbmblpalmmhaa.fnExactConstantOf
