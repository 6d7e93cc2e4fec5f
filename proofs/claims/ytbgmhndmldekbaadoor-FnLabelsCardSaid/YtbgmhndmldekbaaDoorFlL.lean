/- The law of labels, walked. -/
import Derived.Test.YtbgmhndmldekbaaDoorFlW
import Derived.Test.YtbgmhndmldekbaaDoorCmpI
import Derived.Test.YtbgmhndmldekbaaDoorLabJ
namespace Go.Proofs.YtbgmhndmldekbaaDoor
open Go.RowKit Go.Lib
set_option linter.unusedVariables false
set_option linter.unusedSimpArgs false
theorem r8Long_noL (A1 A2 : Option Addr) (n1 c1 n2 c2 : Nat) (w : World) (h1 : n1 ≤ 1048576) (h2 : n2 ≤ 1048576) :
    Calls Tryd.prog 4 #[.slice A1 n1 c1, .slice A2 n2 c2] w fun e w' => e = .returned (.bool false) ∧ w = w' := by
  have e1 : ¬ (1048576 : Int) < (n1 : Int) := by omega
  have e2 : ¬ (1048576 : Int) < (n2 : Int) := by omega
  go_enter Tryd.func4, Tryd.ntmps4
  go_wp2
  go_ret
  exact ⟨rfl, rfl⟩
theorem r8Long_yesL (A1 A2 : Option Addr) (n1 c1 n2 c2 : Nat) (w : World) (h : 1048576 < n1 ∨ 1048576 < n2) :
    Calls Tryd.prog 4 #[.slice A1 n1 c1, .slice A2 n2 c2] w fun e w' => e = .returned (.bool true) ∧ w = w' := by
  by_cases h1 : 1048576 < n1
  · have e1 : (1048576 : Int) < (n1 : Int) := by omega
    go_enter Tryd.func4, Tryd.ntmps4
    go_wp2
    go_ret
    exact ⟨rfl, rfl⟩
  · have e1 : ¬ (1048576 : Int) < (n1 : Int) := by omega
    have e2 : (1048576 : Int) < (n2 : Int) := by omega
    go_enter Tryd.func4, Tryd.ntmps4
    go_wp2
    go_ret
    exact ⟨rfl, rfl⟩
set_option maxRecDepth 100000 in
set_option maxHeartbeats 8000000 in
theorem flLaw_any (A1 : Option Addr) (n1 c1 : Nat) (xs1 : List Int) (A2 : Option Addr) (n2 c2 : Nat) (xs2 : List Int) (w : World) (hx1 : BySrc w w.heap.size A1 xs1) (l1 : xs1.length = n1) (b1 : ∀ u ∈ xs1, 0 ≤ u ∧ u ≤ 255)
    (hx2 : BySrc w w.heap.size A2 xs2) (l2 : xs2.length = n2) (b2 : ∀ u ∈ xs2, 0 ≤ u ∧ u ≤ 255) (ht : TxtTabs w) :
    Calls Tryd.prog 3 #[.slice A1 n1 c1, .slice A2 n2 c2] w fun e w' => e = .returned (.bool true) ∧ Below w.heap.size w w' := by
  by_cases hlong : 1048576 < n1 ∨ 1048576 < n2
  · have C := Lib.hid (r8Long_yesL A1 A2 n1 c1 n2 c2 w hlong)
    clear hx1 l1 b1 hx2 l2 b2 ht hlong
    go_enter Tryd.func3, Tryd.ntmps3
    go_wp2_with (go_at_call 4; refine (C.out).mono ?_; rintro e w' ⟨rfl, rfl⟩)
    go_ret
    exact ⟨rfl, Below.refl _ _⟩
  have C0 := Lib.hid (r8Long_noL A1 A2 n1 c1 n2 c2 w (by omega) (by omega))
  have CL := Lib.hid (r8Label_any A1 n1 c1 xs1 w hx1 l1 (by omega) b1)
  have CB := Lib.hid (fun (W : World) (hW : Below w.heap.size w W) => r8Lists_any A2 n2 c2 xs2 W ((hx2.below hW).more hW.size) l2 (by omega) b2)
  have HT := Lib.hid (fun (W : World) (hW : Below w.heap.size w W) => ht.below hW)
  clear hx1 l1 b1 hx2 l2 b2 ht hlong
  go_enter Tryd.func3, Tryd.ntmps3
  go_wp2_with fail
  refine (C0.out).mono ?_; rintro e w0 ⟨rfl, rfl⟩
  go_wp2_with fail
  refine (CL.out).mono ?_; rintro e w1 ⟨nm, vs, A', n', c', hnm, hn2, hall, hvl, rfl, ho1, hb1⟩
  have OK := Lib.hid (drawn_ok hnm (by rw [hvl]; exact hn2) hall)
  have HB1 := Lib.hid hb1
  have HR1 := Lib.hid (irow_ofL ho1)
  have HVL := Lib.hid hvl
  obtain ⟨s, hs⟩ : ∃ s : ByteArray, s = ⟨(make nm.data.toList vs).toArray⟩ := ⟨_, rfl⟩
  have HSL := Lib.hid (show s.data.toList = make nm.data.toList vs by rw [hs])
  have HSZ := Lib.hid (show s.size ≤ 1048576 by
    have h := make_len OK.out
    rw [hs]
    show (make nm.data.toList vs).toArray.size ≤ _
    rw [List.size_toArray]; omega)
  have C1 := Lib.hid (show Calls Tryd.prog 6 #[.string nm, .slice A' n' c'] w1 (fun e w' => e = .returned (.string s) ∧ Below w1.heap.size w1 w') by
    have h := implLabelText_any nm A' n' c' vs w1 HR1.out HVL.out (by omega)
    rw [labText_yes OK.out, ← hs] at h
    exact h)
  have C2 := Lib.hid (fun (W : World) (hW : Below w.heap.size w W) => (show Calls Tryd.prog 7 #[.string s] W (fun e w' => RetIb W (vs, true) e w') by
    have h := implLabelValues_any s W HSZ.out (HT.out W hW)
    rw [HSL.out, lab_vals OK.out] at h
    exact h))
  have C3 := Lib.hid (fun (W : World) (hW : Below w.heap.size w W) => (show Calls Tryd.prog 8 #[.string s] W (fun e w' => e = .returned (.bool true) ∧ Below W.heap.size W w') by
    have h := implIsLabel_any s W HSZ.out (HT.out W hW)
    rw [HSL.out, lab_vals OK.out] at h
    exact h))
  have C4 := Lib.hid (fun (W : World) (hW : Below w.heap.size w W) => (show Calls Tryd.prog 9 #[.string s] W (fun e w' => e = .returned (.string nm) ∧ Below W.heap.size W w') by
    have h := implLabelName_any s W HSZ.out (HT.out W hW)
    rw [HSL.out, lab_name OK.out] at h
    exact h))
  clear ho1 hb1 hnm hall hvl hs CL
  go_wp2_with fail
  refine (C1.out).mono ?_; rintro e w2 ⟨rfl, hb2⟩
  have HB2 := Lib.hid (HB1.out.trans (hb2.mono HB1.out.size))
  have HR2 := Lib.hid ((HR1.out.below hb2).more hb2.size)
  clear hb2 C1
  go_wp2_with fail
  refine (C2.out w2 HB2.out).mono ?_; rintro e w3 ⟨A3, n3, c3, rfl, ho3, hb3⟩
  have HB3 := Lib.hid (HB2.out.trans (hb3.mono HB2.out.size))
  have HR3 := Lib.hid ((HR2.out.below hb3).more hb3.size)
  have HV3 := Lib.hid (irow_ofL ho3.own)
  have hn3 : n3 = n' := by have h := ho3.len; rw [List.length_map, HVL.out] at h; exact h.symm
  subst hn3
  clear ho3 hb3 C2
  have hq : (nm.toList == nm.toList) = true := by simp
  have C5 := Lib.hid (fun (W : World) (hW : Below w3.heap.size w3 W) => (show Calls Tryd.prog 10 #[.slice A3 n3 c3, .slice A' n3 c'] W (fun e w' => e = .returned (.bool true) ∧ Drawn W w') by
    have h := r8SameL_any A3 A' n3 n3 c3 c' vs vs W w3.heap.size (HV3.out.below hW) (HR3.out.below hW) hW.size HVL.out HVL.out (by omega) (by omega)
    rw [decide_eq_true rfl] at h
    exact h))
  go_wp2_with (first
    | (go_at_call 8; refine (C3.out w3 HB3.out).mono ?_; rintro e w4 ⟨rfl, hb4⟩; have HB4 := Lib.hid (HB3.out.trans (hb4.mono HB3.out.size)); have HL4 := Lib.hid hb4; clear hb4)
    | (go_at_call 9; refine (C4.out w4 HB4.out).mono ?_; rintro e w5 ⟨rfl, hb5⟩; have HB5 := Lib.hid (HB4.out.trans (hb5.mono HB4.out.size)); have HL5 := Lib.hid (HL4.out.trans (hb5.mono HL4.out.size)); clear hb5)
    | (go_at_call 10; refine (C5.out w5 HL5.out).mono ?_; rintro e w6 ⟨rfl, hd6⟩; have HB6 := Lib.hid (HB5.out.trans (hd6.below _)); clear hd6)
    | (go_at_call 11; refine (CB.out w6 HB6.out).mono ?_; rintro e w7 ⟨av, bv, A7, n7, c7, A8, n8, c8, hl7, hl8, hn7, hn8, rfl, hr7, hr8, hb7⟩; have HB7 := Lib.hid (HB6.out.trans (hb7.mono HB6.out.size)); have HR7 := Lib.hid hr7; have HR8 := Lib.hid hr8; have HL7 := Lib.hid hl7; have HL8 := Lib.hid hl8; clear hb7 hr7 hr8 hl7 hl8)
    | fail)
  obtain ⟨q, hq'⟩ : ∃ q, q = cmpL av bv := ⟨_, rfl⟩
  have C8 := Lib.hid (fun (W : World) (hd : Drawn w7 W) => (show Calls Tryd.prog 12 #[.slice A7 n7 c7, .slice A8 n8 c8] W (fun e w' => e = .returned (.int .i64 q) ∧ Drawn W w') by
    have h := implCmp_any A7 A8 n7 n8 c7 c8 av bv W w7.heap.size (HR7.out.drawn hd) (HR8.out.drawn hd) HL7.out HL8.out (by omega) (by omega)
    rw [← hq'] at h
    exact h))
  have C9 := Lib.hid (fun (W : World) (hd : Drawn w7 W) => (show Calls Tryd.prog 12 #[.slice A8 n8 c8, .slice A7 n7 c7] W (fun e w' => e = .returned (.int .i64 (-q)) ∧ Drawn W w') by
    have h := implCmp_any A8 A7 n8 n7 c8 c7 bv av W w7.heap.size (HR8.out.drawn hd) (HR7.out.drawn hd) HL8.out HL7.out (by omega) (by omega)
    rw [cmpL_swap, ← hq'] at h
    exact h))
  have hqe : (q == 0) = decide (av = bv) := by
    rw [hq', Bool.eq_iff_iff, beq_iff_eq, decide_eq_true_iff]
    exact cmpL_zero
  have hq1 : (-1 : Int) ≤ q := by have := cmpL_in av bv; omega
  have hq2 : q ≤ (1 : Int) := by have := cmpL_in av bv; omega
  have hwn : IntKind.i64.wrap (-q) = -q := by rw [IntKind.wrap_i64]; omega
  have C10 := Lib.hid (fun (W : World) (hd : Drawn w7 W) => (show Calls Tryd.prog 10 #[.slice A7 n7 c7, .slice A8 n8 c8] W (fun e w' => e = .returned (.bool (q == 0)) ∧ Drawn W w') by
    have h := r8SameL_any A7 A8 n7 n8 c7 c8 av bv W w7.heap.size (HR7.out.drawn hd) (HR8.out.drawn hd) (hd.below 0).size HL7.out HL8.out (by omega) (by omega)
    rw [← hqe] at h
    exact h))
  obtain ⟨d, hd0⟩ : ∃ d : Bool, d = (q == 0) := ⟨_, rfl⟩
  rw [← hd0] at C10
  have hqd : (q == 0) = d := hd0.symm
  clear hq' hqe hd0
  go_wp2_with fail
  refine (C8.out w7 (Drawn.refl _)).mono ?_; rintro e w8 ⟨rfl, hd8⟩
  have HD8 := Lib.hid hd8
  clear hd8
  go_wp2_with (first
    | (go_at_call 12; refine (C9.out w8 HD8.out).mono ?_; rintro e w9 ⟨rfl, hd9⟩; have HD9 := Lib.hid (HD8.out.trans hd9); clear hd9)
    | (go_at_call 10; refine (C10.out w9 HD9.out).mono ?_; rintro e w10 ⟨rfl, hd10⟩; have HD10 := Lib.hid (HD9.out.trans hd10); clear hd10))
  go_ret
  exact ⟨by simp, HB7.out.trans (HD10.out.below _)⟩
end Go.Proofs.YtbgmhndmldekbaaDoor
