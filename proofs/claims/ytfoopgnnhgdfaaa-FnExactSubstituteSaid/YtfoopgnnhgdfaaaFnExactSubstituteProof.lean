/- For every two lists of terms and every 64-bit integer, the law of Substitute returns true: the program's answer and its code are the model's, the arguments read as before, and no memory is shared. -/
import Derived.Test.YtfoopgnnhgdfaaaRows
import Derived.WalkKit
import Derived.ProofKit
import Derived.OpenShut
import Derived.ShutString
import Derived.ChangeOld
import Derived.Below
import Derived.Lib.Hide
import Derived.Test.YtfoopgnnhgdfaaaTm
import Derived.Test.YtfoopgnnhgdfaaaSub
import Derived.Test.YtfoopgnnhgdfaaaMem
import Derived.Test.YtfoopgnnhgdfaaaTmW
namespace Go.Proofs.Ytfoopgnnhgdfaaa.fnExactSubstitute
open Go.ChangeShapes Go.WideShapes Go.ChangeAt Go.RowKit
open Go.ChangeMaps (open_string shut_string)
set_option linter.unusedVariables false
theorem own : ownKnob Try.prog.godebug = none := by kernel_rfl
theorem laidOut : laidOutB Try.prog = true := by kernel_rfl
theorem walk (a0 : Option Addr) (len0 cap0 : Nat) (a1 : Int) (a2 : Option Addr) (len2 cap2 : Nat) (w : World) (w0 : TIn w a0 len0) (w1 : (Lit.int .i64 a1).wf = true) (w2 : TIn w a2 len2) :
    Calls Try.prog 8 #[.slice a0 len0 cap0, .int .i64 a1, .slice a2 len2 cap2] w fun e w' => e = .returned (.bool true) ∧ Below w.heap.size w w' := by
  obtain ⟨xs0, r0, l0, x0, f0⟩ := id w0
  have L0 := Lib.hid l0
  have F0 := Lib.hid f0
  clear l0 f0 w0
  obtain ⟨xs2, r2, l2, x2, f2⟩ := id w2
  have L2 := Lib.hid l2
  have F2 := Lib.hid f2
  clear l2 f2 w2
  go_enter Try.func8, Try.ntmps8
  have hne1 : ((subR xs0 a1 xs2).2 != (subR xs0 a1 xs2).2) = false := by simp
  have hx0 : len0 ≤ 9223372036854775807 := by have := x0; unfold maxLen at this; omega
  by_cases hq0 : 1048576 - (len0 : Int) < 0
  · have HS0 := Lib.hid (show szT len0 (1048576) = -1 from if_pos hq0)
    go_wp2_with fail
    refine (szT_any a0 len0 cap0 (1048576) _ hx0 (by omega) (by omega)).mono ?_
    rw [HS0.out]
    rintro e w' ⟨rfl, rfl⟩
    go_wp2
    go_ret
    exact ⟨rfl, Below.refl _ _⟩
  have HS0 := Lib.hid (show szT len0 (1048576) = 1048576 - (len0 : Int) from if_neg hq0)
  go_wp2_with fail
  refine (szT_any a0 len0 cap0 (1048576) _ hx0 (by omega) (by omega)).mono ?_
  rw [HS0.out]
  rintro e w' ⟨rfl, rfl⟩
  have m0 : len0 ≤ 2000000 := by omega
  have hx2 : len2 ≤ 9223372036854775807 := by have := x2; unfold maxLen at this; omega
  by_cases hq2 : 1048576 - (len0 : Int) - (len2 : Int) < 0
  · have HS2 := Lib.hid (show szT len2 (1048576 - (len0 : Int)) = -1 from if_pos hq2)
    go_wp2_with fail
    refine (szT_any a2 len2 cap2 (1048576 - (len0 : Int)) _ hx2 (by omega) (by omega)).mono ?_
    rw [HS2.out]
    rintro e w' ⟨rfl, rfl⟩
    go_wp2
    go_ret
    exact ⟨rfl, Below.refl _ _⟩
  have HS2 := Lib.hid (show szT len2 (1048576 - (len0 : Int)) = 1048576 - (len0 : Int) - (len2 : Int) from if_neg hq2)
  go_wp2_with fail
  refine (szT_any a2 len2 cap2 (1048576 - (len0 : Int)) _ hx2 (by omega) (by omega)).mono ?_
  rw [HS2.out]
  rintro e w' ⟨rfl, rfl⟩
  have m2 : len2 ≤ 2000000 := by omega
  go_wp2_with fail
  refine (toTs_own a0 len0 cap0 xs0 _ w.heap.size r0 (by omega) L0.out m0).mono ?_
  rintro e v1 ⟨rfl, oT0_1, b1⟩
  have s1 : w.heap.size ≤ v1.heap.size := b1.size
  have c1 : Below w.heap.size w v1 := b1
  go_wp2_with fail
  refine (toTs_own a2 len2 cap2 xs2 _ w.heap.size (r2.below c1) (by omega) L2.out m2).mono ?_
  rintro e v2 ⟨rfl, oT2_2, b2⟩
  have s2 : v1.heap.size ≤ v2.heap.size := b2.size
  have oT0_2 := oT0_1.below b2 (by omega)
  clear oT0_1
  have c2 : Below w.heap.size w v2 := c1.trans (b2.mono (by omega))
  clear c1
  go_wp2_with fail
  refine (specSub_law _ _ _ xs0 a1 _ _ _ xs2 _ _ oT0_2.trow (by omega) L0.out m0 _ oT2_2.trow (by omega) L2.out m2).mono ?_
  rintro e v3 ⟨AW0, nW0, cW0, rfl, oW0_3, b3⟩
  have s3 : v2.heap.size ≤ v3.heap.size := b3.size
  have oT0_3 := oT0_2.below b3 (by omega)
  clear oT0_2
  have oT2_3 := oT2_2.below b3 (by omega)
  clear oT2_2
  have kW0 : nW0 ≤ 2000000 := by have h1 := oW0_3.tlen; have h2 := subR_len xs0 a1 xs2; omega
  have c3 : Below w.heap.size w v3 := c2.trans (b3.mono (by omega))
  clear c2
  clear oT0_3
  clear oT2_3
  go_wp2_with fail
  refine (toTs_own a0 len0 cap0 xs0 _ w.heap.size (r0.below c3) (by omega) L0.out m0).mono ?_
  rintro e v4 ⟨rfl, oX0_4, b4⟩
  have s4 : v3.heap.size ≤ v4.heap.size := b4.size
  have oW0_4 := oW0_3.below b4 (by omega)
  clear oW0_3
  have c4 : Below w.heap.size w v4 := c3.trans (b4.mono (by omega))
  clear c3
  go_wp2_with fail
  refine (toTs_own a2 len2 cap2 xs2 _ w.heap.size (r2.below c4) (by omega) L2.out m2).mono ?_
  rintro e v5 ⟨rfl, oX2_5, b5⟩
  have s5 : v4.heap.size ≤ v5.heap.size := b5.size
  have oW0_5 := oW0_4.below b5 (by omega)
  clear oW0_4
  have oX0_5 := oX0_4.below b5 (by omega)
  clear oX0_4
  have c5 : Below w.heap.size w v5 := c4.trans (b5.mono (by omega))
  clear c4
  go_wp2_with fail
  refine (implSub_law _ _ _ xs0 a1 _ _ _ xs2 _ _ oX0_5.trow (by omega) L0.out m0 _ oX2_5.trow (by omega) L2.out m2).mono ?_
  rintro e v6 ⟨AG0, nG0, cG0, rfl, oG0_6, b6⟩
  have s6 : v5.heap.size ≤ v6.heap.size := b6.size
  have oW0_6 := oW0_5.below b6 (by omega)
  clear oW0_5
  have oX0_6 := oX0_5.below b6 (by omega)
  clear oX0_5
  have oX2_6 := oX2_5.below b6 (by omega)
  clear oX2_5
  have kG0 : nG0 ≤ 2000000 := by have h1 := oG0_6.tlen; have h2 := subR_len xs0 a1 xs2; omega
  have c6 : Below w.heap.size w v6 := c5.trans (b6.mono (by omega))
  clear c5
  go_wp2_with fail
  refine (eqTs_own _ _ _ _ _ _ _ _ _ _ _ _ oG0_6 oW0_6 kG0 (by omega) (by omega)).mono ?_
  rintro e v7 ⟨rfl, b7⟩
  have s7 : v6.heap.size ≤ v7.heap.size := b7.size
  have oW0_7 := oW0_6.below b7 (by omega)
  clear oW0_6
  have oX0_7 := oX0_6.below b7 (by omega)
  clear oX0_6
  have oX2_7 := oX2_6.below b7 (by omega)
  clear oX2_6
  have oG0_7 := oG0_6.below b7 (by omega)
  clear oG0_6
  have c7 : Below w.heap.size w v7 := c6.trans (b7.mono (by omega))
  clear c6
  go_wp2_with fail
  refine (toTs_own a0 len0 cap0 xs0 _ w.heap.size (r0.below c7) (by omega) L0.out m0).mono ?_
  rintro e v8 ⟨rfl, oY0_8, b8⟩
  have s8 : v7.heap.size ≤ v8.heap.size := b8.size
  have oW0_8 := oW0_7.below b8 (by omega)
  clear oW0_7
  have oX0_8 := oX0_7.below b8 (by omega)
  clear oX0_7
  have oX2_8 := oX2_7.below b8 (by omega)
  clear oX2_7
  have oG0_8 := oG0_7.below b8 (by omega)
  clear oG0_7
  have c8 : Below w.heap.size w v8 := c7.trans (b8.mono (by omega))
  clear c7
  go_wp2_with fail
  refine (eqTs_own _ _ _ _ _ _ _ _ _ _ _ _ oX0_8 oY0_8 m0 (by omega) (by omega)).mono ?_
  rintro e v9 ⟨rfl, b9⟩
  have s9 : v8.heap.size ≤ v9.heap.size := b9.size
  have oW0_9 := oW0_8.below b9 (by omega)
  clear oW0_8
  have oX0_9 := oX0_8.below b9 (by omega)
  clear oX0_8
  have oX2_9 := oX2_8.below b9 (by omega)
  clear oX2_8
  have oG0_9 := oG0_8.below b9 (by omega)
  clear oG0_8
  have oY0_9 := oY0_8.below b9 (by omega)
  clear oY0_8
  have c9 : Below w.heap.size w v9 := c8.trans (b9.mono (by omega))
  clear c8
  clear oY0_9
  go_wp2_with fail
  refine (toTs_own a2 len2 cap2 xs2 _ w.heap.size (r2.below c9) (by omega) L2.out m2).mono ?_
  rintro e v10 ⟨rfl, oY2_10, b10⟩
  have s10 : v9.heap.size ≤ v10.heap.size := b10.size
  have oW0_10 := oW0_9.below b10 (by omega)
  clear oW0_9
  have oX0_10 := oX0_9.below b10 (by omega)
  clear oX0_9
  have oX2_10 := oX2_9.below b10 (by omega)
  clear oX2_9
  have oG0_10 := oG0_9.below b10 (by omega)
  clear oG0_9
  have c10 : Below w.heap.size w v10 := c9.trans (b10.mono (by omega))
  clear c9
  go_wp2_with fail
  refine (eqTs_own _ _ _ _ _ _ _ _ _ _ _ _ oX2_10 oY2_10 m2 (by omega) (by omega)).mono ?_
  rintro e v11 ⟨rfl, b11⟩
  have s11 : v10.heap.size ≤ v11.heap.size := b11.size
  have oW0_11 := oW0_10.below b11 (by omega)
  clear oW0_10
  have oX0_11 := oX0_10.below b11 (by omega)
  clear oX0_10
  have oX2_11 := oX2_10.below b11 (by omega)
  clear oX2_10
  have oG0_11 := oG0_10.below b11 (by omega)
  clear oG0_10
  have oY2_11 := oY2_10.below b11 (by omega)
  clear oY2_10
  have c11 : Below w.heap.size w v11 := c10.trans (b11.mono (by omega))
  clear c10
  clear oY2_11
  go_wp2_with fail
  refine (markTs_turn _ _ _ _ _ _ _ _ oX0_11 m0 (by omega) (by omega)).mono ?_
  rintro e v12 ⟨rfl, oX0_12, g12⟩
  have s12 : v11.heap.size ≤ v12.heap.size := g12.size
  have oW0_12 := oW0_11.turn g12 (by omega)
  clear oW0_11
  have oX2_12 := oX2_11.turn g12 (by omega)
  clear oX2_11
  have oG0_12 := oG0_11.turn g12 (by omega)
  clear oG0_11
  have c12 : Below w.heap.size w v12 := c11.trans (g12.below (by omega) (by omega))
  clear c11
  clear oX0_11 g12
  go_wp2_with fail
  refine (markTs_turn _ _ _ _ _ _ _ _ oX2_12 m2 (by omega) (by omega)).mono ?_
  rintro e v13 ⟨rfl, oX2_13, g13⟩
  have s13 : v12.heap.size ≤ v13.heap.size := g13.size
  have oW0_13 := oW0_12.turn g13 (by omega)
  clear oW0_12
  have oX0_13 := oX0_12.turn g13 (by omega)
  clear oX0_12
  have oG0_13 := oG0_12.turn g13 (by omega)
  clear oG0_12
  have c13 : Below w.heap.size w v13 := c12.trans (g13.below (by omega) (by omega))
  clear c12
  clear oX2_12 g13
  clear oX0_13
  clear oX2_13
  go_wp2_with fail
  refine (eqTs_own _ _ _ _ _ _ _ _ _ _ _ _ oG0_13 oW0_13 kG0 (by omega) (by omega)).mono ?_
  rintro e v14 ⟨rfl, b14⟩
  have s14 : v13.heap.size ≤ v14.heap.size := b14.size
  have oW0_14 := oW0_13.below b14 (by omega)
  clear oW0_13
  have oG0_14 := oG0_13.below b14 (by omega)
  clear oG0_13
  have c14 : Below w.heap.size w v14 := c13.trans (b14.mono (by omega))
  clear c13
  go_wp2_with fail
  refine (markTs_turn _ _ _ _ _ _ _ _ oG0_14 kG0 (by omega) (by omega)).mono ?_
  rintro e v15 ⟨rfl, oG0_15, g15⟩
  have s15 : v14.heap.size ≤ v15.heap.size := g15.size
  have oW0_15 := oW0_14.turn g15 (by omega)
  clear oW0_14
  have c15 : Below w.heap.size w v15 := c14.trans (g15.below (by omega) (by omega))
  clear c14
  clear oG0_14 g15
  go_wp2_with fail
  refine (heldTs_own _ _ _ _ _ _ _ oG0_15 kG0 (by omega) (by omega)).mono ?_
  rintro e v15h ⟨rfl, rfl⟩
  have hnq : ((1 + 2 * (nG0 : Int)) != (1 + 2 * (nG0 : Int))) = false := by simp
  go_wp2_with fail
  refine (toTs_own a0 len0 cap0 xs0 _ w.heap.size (r0.below c15) (by omega) L0.out m0).mono ?_
  rintro e v16 ⟨rfl, oZ0_16, b16⟩
  have s16 : v15.heap.size ≤ v16.heap.size := b16.size
  have oW0_16 := oW0_15.below b16 (by omega)
  clear oW0_15
  have oG0_16 := oG0_15.below b16 (by omega)
  clear oG0_15
  have c16 : Below w.heap.size w v16 := c15.trans (b16.mono (by omega))
  clear c15
  go_wp2_with fail
  refine (toTs_own a2 len2 cap2 xs2 _ w.heap.size (r2.below c16) (by omega) L2.out m2).mono ?_
  rintro e v17 ⟨rfl, oZ2_17, b17⟩
  have s17 : v16.heap.size ≤ v17.heap.size := b17.size
  have oW0_17 := oW0_16.below b17 (by omega)
  clear oW0_16
  have oG0_17 := oG0_16.below b17 (by omega)
  clear oG0_16
  have oZ0_17 := oZ0_16.below b17 (by omega)
  clear oZ0_16
  have c17 : Below w.heap.size w v17 := c16.trans (b17.mono (by omega))
  clear c16
  go_wp2_with fail
  refine (implSub_law _ _ _ xs0 a1 _ _ _ xs2 _ _ oZ0_17.trow (by omega) L0.out m0 _ oZ2_17.trow (by omega) L2.out m2).mono ?_
  rintro e v18 ⟨AH0, nH0, cH0, rfl, oH0_18, b18⟩
  have s18 : v17.heap.size ≤ v18.heap.size := b18.size
  have oW0_18 := oW0_17.below b18 (by omega)
  clear oW0_17
  have oG0_18 := oG0_17.below b18 (by omega)
  clear oG0_17
  have oZ0_18 := oZ0_17.below b18 (by omega)
  clear oZ0_17
  have oZ2_18 := oZ2_17.below b18 (by omega)
  clear oZ2_17
  have kH0 : nH0 ≤ 2000000 := by have h1 := oH0_18.tlen; have h2 := subR_len xs0 a1 xs2; omega
  have c18 : Below w.heap.size w v18 := c17.trans (b18.mono (by omega))
  clear c17
  clear oZ0_18
  clear oZ2_18
  go_wp2_with fail
  refine (eqTs_own _ _ _ _ _ _ _ _ _ _ _ _ oH0_18 oW0_18 kH0 (by omega) (by omega)).mono ?_
  rintro e v19 ⟨rfl, b19⟩
  have s19 : v18.heap.size ≤ v19.heap.size := b19.size
  have oW0_19 := oW0_18.below b19 (by omega)
  clear oW0_18
  have oG0_19 := oG0_18.below b19 (by omega)
  clear oG0_18
  have oH0_19 := oH0_18.below b19 (by omega)
  clear oH0_18
  have c19 : Below w.heap.size w v19 := c18.trans (b19.mono (by omega))
  clear c18
  go_wp2_with fail
  refine (heldTs_own _ _ _ _ _ _ _ oG0_19 kG0 (by omega) (by omega)).mono ?_
  rintro e v19h ⟨rfl, rfl⟩
  go_wp2
  go_ret
  exact ⟨rfl, c19⟩
set_option maxRecDepth 100000 in
theorem lifted (os : Os) (started : os.Started) (H : Type) (enc : TypeId × Value → H) :
    ReturnsInHanded {} Try.checked os 8 .any (Rows.fnExactSubstituteSpec.pre6 enc Try.prog Try.f8 Rows.fnExactSubstituteRow.domain false) (Rows.fnExactSubstituteSpec.post enc Try.prog Try.f8 false true false false) := by
  refine returnsInHanded_of_change (C := Try.checked) own started (by kernel_rfl) Try.func8
    (ChangeSpec.witness6 (enc := enc) (C := Try.checked) false ⟨#[], #[.slice none 0 0, .int .i64 0, .slice none 0 0], []⟩ 8 (by kernel_rfl) (by kernel_rfl) (by kernel_rfl) (by kernel_rfl)) ?_
  intro W base args ds gs before hval0 hW hcnd _
  have hval : ∀ (j : Nat) t v, Try.f8.params[j]? = some t → args[j]? = some v → Value.okWide Try.prog W .any base t v := hval0
  have hW' := hW
  obtain ⟨p, q, hA0, hV, rfl, hfz, hnd⟩ := hW
  have hA : DataW.TrodAll enc Try.prog W 0 (fun _ => true) true Try.f8.params.toList args.toList ds p := hA0
  rw [Try.params8] at hA hval
  obtain ⟨v0, vs0, d0, ds0, p0, q0, hargs, rfl, rfl, h0, r0⟩ := trodAll_cons hA
  obtain ⟨v1, vs1, d1, ds1, p1, q1, rfl, rfl, rfl, h1, r1⟩ := trodAll_cons r0
  obtain ⟨v2, vs2, d2, ds2, p2, q2, rfl, rfl, rfl, h2, r2⟩ := trodAll_cons r1
  obtain ⟨rfl, rfl, rfl⟩ := trodAll_nil r2
  obtain rfl : args = #[v0, v1, v2] := by cases args; simp_all
  obtain ⟨rfl, rfl⟩ := trodVars_none hV
  obtain ⟨a0, len0, cap0, rfl⟩ := okWide_slice Try.underlying35 (hval 0 35 v0 rfl rfl)
  have k0 := h0
  have lt0 : ∀ x ∈ p0, x.block < W.heap.size := by obtain ⟨m, hm⟩ := k0; exact DataW.trod_lt m _ _ _ hm
  have w0 : TIn W a0 len0 := by
    obtain ⟨fuel, hf⟩ := h0
    exact trow_in Try.underlying35 Try.underlying80 (by kernel_rfl) rfl rfl Try.underlying2 Try.underlying2 (by kernel_rfl) (by kernel_rfl) hf
  obtain ⟨a1, rfl, rfl, rfl, w1⟩ := open_int Try.underlying2 (hval 1 2 v1 rfl rfl) h1
  obtain ⟨a2, len2, cap2, rfl⟩ := okWide_slice Try.underlying35 (hval 2 35 v2 rfl rfl)
  have k2 := h2
  have lt2 : ∀ x ∈ p2, x.block < W.heap.size := by obtain ⟨m, hm⟩ := k2; exact DataW.trod_lt m _ _ _ hm
  have w2 : TIn W a2 len2 := by
    obtain ⟨fuel, hf⟩ := h2
    exact trow_in Try.underlying35 Try.underlying80 (by kernel_rfl) rfl rfl Try.underlying2 Try.underlying2 (by kernel_rfl) (by kernel_rfl) hf
  clear hA0 hval0
  refine (walk a0 len0 cap0 a1 a2 len2 cap2 W w0 w1 w2).mono fun e W' ⟨he, bel⟩ => ?_
  subst he
  exact ⟨_, rfl, _, _, _, [], _, [], hW', (trodAll_cons_mk (shut_bool Try.underlying4 _) trodAll_mk0), (trodAll_cons_mk (Below.trod laidOut (by kernel_rfl) (of_decide_eq_true (by kernel_rfl)) k0 bel lt0) (trodAll_cons_mk (shut_int Try.underlying2 w1) (trodAll_cons_mk (Below.trod laidOut (by kernel_rfl) (of_decide_eq_true (by kernel_rfl)) k2 bel lt2) trodAll_mk0))), rfl, bel.frame _, fun h => by cases h⟩
theorem over : Rows.fnExactSubstituteRow.holds Try.pinned (OpenSpec.ofChange Rows.fnExactSubstituteSpec) :=
  OpenClaim.holds_of_wide 8 Try.f8 rfl rfl rfl rfl rfl rfl rfl ⟨rfl, rfl, rfl, rfl, rfl⟩ rfl rfl rfl rfl rfl (by kernel_rfl) Try.func8 (by kernel_rfl)
    (of_decide_eq_true (by kernel_rfl)) (by unfold Func.isWrapper; first | (rw [if_pos (by decide +kernel)]; kernel_rfl) | (rw [if_neg (by decide +kernel)]; exact ⟨rfl, rfl⟩))
    (fun os started H enc _ => lifted os started H enc)
theorem proved : Rows.FnExactSubstituteSaid := over
#print axioms proved
end Go.Proofs.Ytfoopgnnhgdfaaa.fnExactSubstitute
