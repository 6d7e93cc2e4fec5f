/- For every list of terms, the law of FoldTerms returns true: the program's answer and its code are the model's, the argument reads as before, and no memory is shared. -/
import Derived.Test.YtkcbmblpalmmhaaRows
import Derived.WalkKit
import Derived.ProofKit
import Derived.OpenShut
import Derived.ShutString
import Derived.ChangeOld
import Derived.Below
import Derived.Lib.Hide
import Derived.Test.YtkcbmblpalmmhaaTm
import Derived.Test.YtkcbmblpalmmhaaLawTT
import Derived.Test.YtkcbmblpalmmhaaFoldM
import Derived.Test.YtkcbmblpalmmhaaFoldS
import Derived.Test.YtkcbmblpalmmhaaFoldI
import Derived.Test.YtkcbmblpalmmhaaMem
import Derived.Test.YtkcbmblpalmmhaaTmW
namespace Go.Proofs.Ytkcbmblpalmmhaa.fnExactFoldTerms
open Go.ChangeShapes Go.WideShapes Go.ChangeAt Go.RowKit
open Go.ChangeMaps (open_string shut_string)
set_option linter.unusedVariables false
theorem own : ownKnob Try.prog.godebug = none := by kernel_rfl
theorem laidOut : laidOutB Try.prog = true := by kernel_rfl
theorem walk (a0 : Option Addr) (len0 cap0 : Nat) (w : World) (w0 : TIn w a0 len0) :
    Calls Try.prog 6 #[.slice a0 len0 cap0] w fun e w' => e = .returned (.bool true) ∧ Below w.heap.size w w' := by
  obtain ⟨xs0, r0, l0, x0, f0⟩ := id w0
  have L0 := Lib.hid l0
  have F0 := Lib.hid f0
  clear l0 f0 w0
  go_enter Try.func6, Try.ntmps6
  have hne1 : ((foldR xs0).2 != (foldR xs0).2) = false := by simp
  have hx0 : len0 ≤ 9223372036854775807 := by have := x0; unfold maxLen at this; omega
  by_cases hq0 : 1048576 - (len0 : Int) < 0
  · have HS0 := Lib.hid (show szT len0 (1048576) = -1 from if_pos hq0)
    go_wp2_with fail
    refine (szT_any a0 len0 cap0 (1048576) _ hx0 (by omega) (by omega)).mono ?_
    rw [HS0.out]
    rintro e w' ⟨rfl, rfl⟩
    go_wp2
    go_ret
    exact ⟨rfl, Below.refl _ _⟩
  have HS0 := Lib.hid (show szT len0 (1048576) = 1048576 - (len0 : Int) from if_neg hq0)
  go_wp2_with fail
  refine (szT_any a0 len0 cap0 (1048576) _ hx0 (by omega) (by omega)).mono ?_
  rw [HS0.out]
  rintro e w' ⟨rfl, rfl⟩
  have m0 : len0 ≤ 2000000 := by omega
  go_wp2_with fail
  refine (toTs_own a0 len0 cap0 xs0 _ w.heap.size r0 (by omega) L0.out m0).mono ?_
  rintro e v1 ⟨rfl, oT0_1, b1⟩
  have s1 : w.heap.size ≤ v1.heap.size := b1.size
  have c1 : Below w.heap.size w v1 := b1
  go_wp2_with fail
  refine (specFold_any _ _ _ xs0 _ _ _ _ oT0_1 (by omega) L0.out m0).mono ?_
  rintro e v2 ⟨AW0, nW0, cW0, rfl, oW0_2, b2⟩
  have s2 : v1.heap.size ≤ v2.heap.size := b2.size
  have oT0_2 := oT0_1.below b2 (by omega)
  clear oT0_1
  have kW0 : nW0 ≤ 2000000 := by have h1 := oW0_2.tlen; have h2 := foldR_len xs0; omega
  have c2 : Below w.heap.size w v2 := c1.trans (b2.mono (by omega))
  clear c1
  clear oT0_2
  go_wp2_with fail
  refine (toTs_own a0 len0 cap0 xs0 _ w.heap.size (r0.below c2) (by omega) L0.out m0).mono ?_
  rintro e v3 ⟨rfl, oX0_3, b3⟩
  have s3 : v2.heap.size ≤ v3.heap.size := b3.size
  have oW0_3 := oW0_2.below b3 (by omega)
  clear oW0_2
  have c3 : Below w.heap.size w v3 := c2.trans (b3.mono (by omega))
  clear c2
  go_wp2_with fail
  refine (implFold_any _ _ _ xs0 _ _ _ _ oX0_3 (by omega) L0.out m0).mono ?_
  rintro e v4 ⟨AG0, nG0, cG0, rfl, oG0_4, b4⟩
  have s4 : v3.heap.size ≤ v4.heap.size := b4.size
  have oW0_4 := oW0_3.below b4 (by omega)
  clear oW0_3
  have oX0_4 := oX0_3.below b4 (by omega)
  clear oX0_3
  have kG0 : nG0 ≤ 2000000 := by have h1 := oG0_4.tlen; have h2 := foldR_len xs0; omega
  have c4 : Below w.heap.size w v4 := c3.trans (b4.mono (by omega))
  clear c3
  go_wp2_with fail
  refine (eqTs_own _ _ _ _ _ _ _ _ _ _ _ _ oG0_4 oW0_4 kG0 (by omega) (by omega)).mono ?_
  rintro e v5 ⟨rfl, b5⟩
  have s5 : v4.heap.size ≤ v5.heap.size := b5.size
  have oW0_5 := oW0_4.below b5 (by omega)
  clear oW0_4
  have oX0_5 := oX0_4.below b5 (by omega)
  clear oX0_4
  have oG0_5 := oG0_4.below b5 (by omega)
  clear oG0_4
  have c5 : Below w.heap.size w v5 := c4.trans (b5.mono (by omega))
  clear c4
  go_wp2_with fail
  refine (toTs_own a0 len0 cap0 xs0 _ w.heap.size (r0.below c5) (by omega) L0.out m0).mono ?_
  rintro e v6 ⟨rfl, oY0_6, b6⟩
  have s6 : v5.heap.size ≤ v6.heap.size := b6.size
  have oW0_6 := oW0_5.below b6 (by omega)
  clear oW0_5
  have oX0_6 := oX0_5.below b6 (by omega)
  clear oX0_5
  have oG0_6 := oG0_5.below b6 (by omega)
  clear oG0_5
  have c6 : Below w.heap.size w v6 := c5.trans (b6.mono (by omega))
  clear c5
  go_wp2_with fail
  refine (eqTs_own _ _ _ _ _ _ _ _ _ _ _ _ oX0_6 oY0_6 m0 (by omega) (by omega)).mono ?_
  rintro e v7 ⟨rfl, b7⟩
  have s7 : v6.heap.size ≤ v7.heap.size := b7.size
  have oW0_7 := oW0_6.below b7 (by omega)
  clear oW0_6
  have oX0_7 := oX0_6.below b7 (by omega)
  clear oX0_6
  have oG0_7 := oG0_6.below b7 (by omega)
  clear oG0_6
  have oY0_7 := oY0_6.below b7 (by omega)
  clear oY0_6
  have c7 : Below w.heap.size w v7 := c6.trans (b7.mono (by omega))
  clear c6
  clear oY0_7
  go_wp2_with fail
  refine (markTs_turn _ _ _ _ _ _ _ _ oX0_7 m0 (by omega) (by omega)).mono ?_
  rintro e v8 ⟨rfl, oX0_8, g8⟩
  have s8 : v7.heap.size ≤ v8.heap.size := g8.size
  have oW0_8 := oW0_7.turn g8 (by omega)
  clear oW0_7
  have oG0_8 := oG0_7.turn g8 (by omega)
  clear oG0_7
  have c8 : Below w.heap.size w v8 := c7.trans (g8.below (by omega) (by omega))
  clear c7
  clear oX0_7 g8
  clear oX0_8
  go_wp2_with fail
  refine (eqTs_own _ _ _ _ _ _ _ _ _ _ _ _ oG0_8 oW0_8 kG0 (by omega) (by omega)).mono ?_
  rintro e v9 ⟨rfl, b9⟩
  have s9 : v8.heap.size ≤ v9.heap.size := b9.size
  have oW0_9 := oW0_8.below b9 (by omega)
  clear oW0_8
  have oG0_9 := oG0_8.below b9 (by omega)
  clear oG0_8
  have c9 : Below w.heap.size w v9 := c8.trans (b9.mono (by omega))
  clear c8
  go_wp2_with fail
  refine (markTs_turn _ _ _ _ _ _ _ _ oG0_9 kG0 (by omega) (by omega)).mono ?_
  rintro e v10 ⟨rfl, oG0_10, g10⟩
  have s10 : v9.heap.size ≤ v10.heap.size := g10.size
  have oW0_10 := oW0_9.turn g10 (by omega)
  clear oW0_9
  have c10 : Below w.heap.size w v10 := c9.trans (g10.below (by omega) (by omega))
  clear c9
  clear oG0_9 g10
  go_wp2_with fail
  refine (heldTs_own _ _ _ _ _ _ _ oG0_10 kG0 (by omega) (by omega)).mono ?_
  rintro e v10h ⟨rfl, rfl⟩
  have hnq : ((1 + 2 * (nG0 : Int)) != (1 + 2 * (nG0 : Int))) = false := by simp
  go_wp2_with fail
  refine (toTs_own a0 len0 cap0 xs0 _ w.heap.size (r0.below c10) (by omega) L0.out m0).mono ?_
  rintro e v11 ⟨rfl, oZ0_11, b11⟩
  have s11 : v10.heap.size ≤ v11.heap.size := b11.size
  have oW0_11 := oW0_10.below b11 (by omega)
  clear oW0_10
  have oG0_11 := oG0_10.below b11 (by omega)
  clear oG0_10
  have c11 : Below w.heap.size w v11 := c10.trans (b11.mono (by omega))
  clear c10
  go_wp2_with fail
  refine (implFold_any _ _ _ xs0 _ _ _ _ oZ0_11 (by omega) L0.out m0).mono ?_
  rintro e v12 ⟨AH0, nH0, cH0, rfl, oH0_12, b12⟩
  have s12 : v11.heap.size ≤ v12.heap.size := b12.size
  have oW0_12 := oW0_11.below b12 (by omega)
  clear oW0_11
  have oG0_12 := oG0_11.below b12 (by omega)
  clear oG0_11
  have oZ0_12 := oZ0_11.below b12 (by omega)
  clear oZ0_11
  have kH0 : nH0 ≤ 2000000 := by have h1 := oH0_12.tlen; have h2 := foldR_len xs0; omega
  have c12 : Below w.heap.size w v12 := c11.trans (b12.mono (by omega))
  clear c11
  clear oZ0_12
  go_wp2_with fail
  refine (eqTs_own _ _ _ _ _ _ _ _ _ _ _ _ oH0_12 oW0_12 kH0 (by omega) (by omega)).mono ?_
  rintro e v13 ⟨rfl, b13⟩
  have s13 : v12.heap.size ≤ v13.heap.size := b13.size
  have oW0_13 := oW0_12.below b13 (by omega)
  clear oW0_12
  have oG0_13 := oG0_12.below b13 (by omega)
  clear oG0_12
  have oH0_13 := oH0_12.below b13 (by omega)
  clear oH0_12
  have c13 : Below w.heap.size w v13 := c12.trans (b13.mono (by omega))
  clear c12
  go_wp2_with fail
  refine (heldTs_own _ _ _ _ _ _ _ oG0_13 kG0 (by omega) (by omega)).mono ?_
  rintro e v13h ⟨rfl, rfl⟩
  go_wp2
  go_ret
  exact ⟨rfl, c13⟩
set_option maxRecDepth 100000 in
theorem lifted (os : Os) (started : os.Started) (H : Type) (enc : TypeId × Value → H) :
    ReturnsInHanded {} Try.checked os 6 .any (Rows.fnExactFoldTermsSpec.pre6 enc Try.prog Try.f6 Rows.fnExactFoldTermsRow.domain false) (Rows.fnExactFoldTermsSpec.post enc Try.prog Try.f6 false true false false) := by
  refine returnsInHanded_of_change (C := Try.checked) own started (by kernel_rfl) Try.func6
    (ChangeSpec.witness6 (enc := enc) (C := Try.checked) false ⟨#[], #[.slice none 0 0], []⟩ 8 (by kernel_rfl) (by kernel_rfl) (by kernel_rfl) (by kernel_rfl)) ?_
  intro W base args ds gs before hval0 hW hcnd _
  have hval : ∀ (j : Nat) t v, Try.f6.params[j]? = some t → args[j]? = some v → Value.okWide Try.prog W .any base t v := hval0
  have hW' := hW
  obtain ⟨p, q, hA0, hV, rfl, hfz, hnd⟩ := hW
  have hA : DataW.TrodAll enc Try.prog W 0 (fun _ => true) true Try.f6.params.toList args.toList ds p := hA0
  rw [Try.params6] at hA hval
  obtain ⟨v0, vs0, d0, ds0, p0, q0, hargs, rfl, rfl, h0, r0⟩ := trodAll_cons hA
  obtain ⟨rfl, rfl, rfl⟩ := trodAll_nil r0
  obtain rfl : args = #[v0] := by cases args; simp_all
  obtain ⟨rfl, rfl⟩ := trodVars_none hV
  obtain ⟨a0, len0, cap0, rfl⟩ := okWide_slice Try.underlying35 (hval 0 35 v0 rfl rfl)
  have k0 := h0
  have lt0 : ∀ x ∈ p0, x.block < W.heap.size := by obtain ⟨m, hm⟩ := k0; exact DataW.trod_lt m _ _ _ hm
  have w0 : TIn W a0 len0 := by
    obtain ⟨fuel, hf⟩ := h0
    exact trow_in Try.underlying35 Try.underlying70 (by kernel_rfl) rfl rfl Try.underlying2 Try.underlying2 (by kernel_rfl) (by kernel_rfl) hf
  clear hA0 hval0
  refine (walk a0 len0 cap0 W w0).mono fun e W' ⟨he, bel⟩ => ?_
  subst he
  exact ⟨_, rfl, _, _, _, [], _, [], hW', (trodAll_cons_mk (shut_bool Try.underlying4 _) trodAll_mk0), (trodAll_cons_mk (Below.trod laidOut (by kernel_rfl) (of_decide_eq_true (by kernel_rfl)) k0 bel lt0) trodAll_mk0), rfl, bel.frame _, fun h => by cases h⟩
theorem over : Rows.fnExactFoldTermsRow.holds Try.pinned (OpenSpec.ofChange Rows.fnExactFoldTermsSpec) :=
  OpenClaim.holds_of_wide 6 Try.f6 rfl rfl rfl rfl rfl rfl rfl ⟨rfl, rfl, rfl, rfl, rfl⟩ rfl rfl rfl rfl rfl (by kernel_rfl) Try.func6 (by kernel_rfl)
    (of_decide_eq_true (by kernel_rfl)) (by unfold Func.isWrapper; first | (rw [if_pos (by decide +kernel)]; kernel_rfl) | (rw [if_neg (by decide +kernel)]; exact ⟨rfl, rfl⟩))
    (fun os started H enc _ => lifted os started H enc)
theorem proved : Rows.FnExactFoldTermsSaid := over
#print axioms proved
end Go.Proofs.Ytkcbmblpalmmhaa.fnExactFoldTerms
