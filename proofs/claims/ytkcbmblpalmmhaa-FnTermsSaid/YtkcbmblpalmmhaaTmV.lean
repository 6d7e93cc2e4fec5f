/- Which lists of terms are expressions: the model's and the program's tests answer one plain question. -/
import Derived.Test.YtkcbmblpalmmhaaProg
import Derived.WalkKit
import Derived.ProofKit
import Derived.Outline
import Derived.Test.YtkcbmblpalmmhaaMem
import Derived.Test.YtkcbmblpalmmhaaL00
import Derived.Test.YtkcbmblpalmmhaaTmM
namespace Go.Proofs.Ytkcbmblpalmmhaa
open Go.RowKit
theorem l03Term_any (b o : Nat) (t : Tm) (vars : Int) (w : World) (c1 : w.cell? ⟨b, o, none⟩ = some (.int .i64 t.k)) (c2 : w.cell? ⟨b, o + 1, none⟩ = some (.int .i64 t.v)) (h0 : 0 ≤ vars) (h1 : vars ≤ 1000) :
    Calls Try.prog 71 #[.pointer (some ⟨b, o, none⟩), .int .i64 vars] w fun e w' => e = .returned (.bool (tmB vars t)) ∧ w = w' := by
  obtain ⟨k, v⟩ := t
  simp only at c1 c2
  by_cases e0 : k = 0
  · subst e0
    by_cases hv : 0 ≤ v ∧ v ≤ 63
    · have H := Lib.hid (show tmB vars ⟨0, v⟩ = true from (tmB_num rfl).trans (decide_eq_true hv))
      go_enter Try.func71, Try.ntmps71
      go_wp2_with (go_at_call 73; refine (l00In_yes _ _ _ hv _).mono ?_; rintro e w' ⟨rfl, rfl⟩)
      go_ret
      exact ⟨ret_bool H.out.symm, rfl⟩
    · have H := Lib.hid (show tmB vars ⟨0, v⟩ = false from (tmB_num rfl).trans (decide_eq_false hv))
      have hv' : v < 0 ∨ 63 < v := by omega
      clear hv
      go_enter Try.func71, Try.ntmps71
      go_wp2_with (go_at_call 73; refine (l00In_no _ _ _ hv' _).mono ?_; rintro e w' ⟨rfl, rfl⟩)
      go_ret
      exact ⟨ret_bool H.out.symm, rfl⟩
  by_cases e1 : k = 1
  · subst e1
    clear e0
    by_cases hv : 0 ≤ v ∧ v < vars
    · have H := Lib.hid (show tmB vars ⟨1, v⟩ = true from (tmB_var rfl).trans (decide_eq_true hv))
      have hv' : 0 ≤ v ∧ v ≤ vars - 1 := by omega
      clear hv
      go_enter Try.func71, Try.ntmps71
      go_wp2_with (go_at_call 73; refine (l00In_yes _ _ _ hv' _).mono ?_; rintro e w' ⟨rfl, rfl⟩)
      go_ret
      exact ⟨ret_bool H.out.symm, rfl⟩
    · have H := Lib.hid (show tmB vars ⟨1, v⟩ = false from (tmB_var rfl).trans (decide_eq_false hv))
      have hv' : v < 0 ∨ vars - 1 < v := by omega
      clear hv
      go_enter Try.func71, Try.ntmps71
      go_wp2_with (go_at_call 73; refine (l00In_no _ _ _ hv' _).mono ?_; rintro e w' ⟨rfl, rfl⟩)
      go_ret
      exact ⟨ret_bool H.out.symm, rfl⟩
  by_cases e2 : k = 2
  · subst e2
    clear e0 e1
    by_cases hv : 0 ≤ v ∧ v ≤ 8
    · have H := Lib.hid (show tmB vars ⟨2, v⟩ = true from (tmB_op rfl).trans (decide_eq_true hv))
      go_enter Try.func71, Try.ntmps71
      go_wp2_with (go_at_call 73; refine (l00In_yes _ _ _ hv _).mono ?_; rintro e w' ⟨rfl, rfl⟩)
      go_ret
      exact ⟨ret_bool H.out.symm, rfl⟩
    · have H := Lib.hid (show tmB vars ⟨2, v⟩ = false from (tmB_op rfl).trans (decide_eq_false hv))
      have hv' : v < 0 ∨ 8 < v := by omega
      clear hv
      go_enter Try.func71, Try.ntmps71
      go_wp2_with (go_at_call 73; refine (l00In_no _ _ _ hv' _).mono ?_; rintro e w' ⟨rfl, rfl⟩)
      go_ret
      exact ⟨ret_bool H.out.symm, rfl⟩
  by_cases e3 : k = 3
  · subst e3
    clear e0 e1 e2
    by_cases hv : v = 0
    · subst hv
      have H := Lib.hid (show tmB vars ⟨3, 0⟩ = true from (tmB_not rfl).trans (decide_eq_true rfl))
      go_enter Try.func71, Try.ntmps71
      go_wp2
      go_ret
      exact ⟨ret_bool H.out.symm, rfl⟩
    · have H := Lib.hid (show tmB vars ⟨3, v⟩ = false from (tmB_not rfl).trans (decide_eq_false hv))
      have hv' : (v == 0) = false := by simpa using hv
      clear hv
      go_enter Try.func71, Try.ntmps71
      go_wp2
      go_ret
      exact ⟨ret_bool H.out.symm, rfl⟩
  · have H := Lib.hid (show tmB vars ⟨k, v⟩ = false from tmB_none e0 e1 e2 e3)
    have d0 : (k == 0) = false := by simpa using e0
    have d1 : (k == 1) = false := by simpa using e1
    have d2 : (k == 2) = false := by simpa using e2
    have d3 : (k == 3) = false := by simpa using e3
    clear e0 e1 e2 e3
    go_enter Try.func71, Try.ntmps71
    go_wp2
    go_ret
    exact ⟨ret_bool H.out.symm, rfl⟩
theorem l03Arity_any (b o : Nat) (t : Tm) (w : World) (c1 : w.cell? ⟨b, o, none⟩ = some (.int .i64 t.k)) :
    Calls Try.prog 72 #[.pointer (some ⟨b, o, none⟩)] w fun e w' => e = .returned (.int .i64 (ar t)) ∧ w = w' := by
  obtain ⟨k, v⟩ := t
  simp only at c1
  by_cases e2 : k = 2
  · subst e2
    go_enter Try.func72, Try.ntmps72
    go_wp2
    go_ret
    exact ⟨rfl, rfl⟩
  by_cases e3 : k = 3
  · subst e3
    clear e2
    go_enter Try.func72, Try.ntmps72
    go_wp2
    go_ret
    exact ⟨rfl, rfl⟩
  · have H := Lib.hid (ar_zero (t := ⟨k, v⟩) e2 e3)
    have d2 : (k == 2) = false := by simpa using e2
    have d3 : (k == 3) = false := by simpa using e3
    clear e2 e3
    go_enter Try.func72, Try.ntmps72
    go_wp2
    go_ret
    exact ⟨ret_int H.out.symm, rfl⟩
theorem scan_step {vars : Int} {es : List Tm} {k : Nat} {t : Tm} {m : Int} (hx : es[k]? = some t) (hm : m ≠ 0) (ht : tmB vars t = true) (h : scan vars es 1 = scan vars (es.drop k) m) : scan vars es 1 = scan vars (es.drop (k + 1)) (m + (ar t - 1)) := by
  have hn : ¬ (m = 0 ∨ tmB vars t = false) := by
    rintro (h0 | h0)
    · exact hm h0
    · rw [ht] at h0; cases h0
  rw [h, drop_one _ _ _ hx]
  conv => lhs; unfold scan
  rw [if_neg hn]
theorem scan_stop {vars : Int} {es : List Tm} {k : Nat} {t : Tm} {m : Int} (hx : es[k]? = some t) (hm : m = 0 ∨ tmB vars t = false) (h : scan vars es 1 = scan vars (es.drop k) m) : scan vars es 1 = false := by
  rw [h, drop_one _ _ _ hx]
  unfold scan
  rw [if_pos hm]
theorem scan_end {vars : Int} {es : List Tm} {k : Nat} {m : Int} (hk : es.length ≤ k) (h : scan vars es 1 = scan vars (es.drop k) m) : scan vars es 1 = decide (m = 0) := by
  rw [h, List.drop_eq_nil_of_le hk]; rfl
set_option maxHeartbeats 1000000 in
theorem l03Is_any (A : Option Addr) (n c : Nat) (es : List Tm) (vars most : Int) (w : World) (B : Nat) (h : TRow w B A es) (l : es.length = n) (m : n ≤ 2000000) (h0 : 0 ≤ vars) (h1 : vars ≤ 1000) :
    Calls Try.prog 46 #[.slice A n c, .int .i64 vars, .int .i64 most] w fun e w' => e = .returned (.bool (exB vars most es)) ∧ w = w' := by
  by_cases hlen : most < (n : Int)
  · have H := Lib.hid (exB_long (vars := vars) (most := most) (es := es) (by omega))
    go_enter Try.func46, Try.ntmps46
    go_wp2
    go_ret
    exact ⟨ret_bool H.out.symm, rfl⟩
  · have HX := Lib.hid (exB_short (vars := vars) (most := most) (es := es) (by omega))
    have L := Lib.hid l
    clear l
    go_enter Try.func46, Try.ntmps46
    go_wp2
    go_loop [7, 8] (fun x i => ∃ (k : Nat) (q : Int), k ≤ n ∧ i = .int .i64 k ∧ x = .int .i64 q ∧ 0 ≤ q ∧ q ≤ 1 + k ∧ Hid (scan vars es 1 = scan vars (es.drop k) q)) (fun _ i => n - (intOf i).toNat)
    case atStart => exact ⟨0, 1, Nat.zero_le _, rfl, rfl, by omega, by omega, by rw [List.drop_zero]; exact Lib.hid rfl⟩
    case round =>
      obtain ⟨k, q, hk, rfl, rfl, hq0, hq1, HS⟩ := hrel
      by_cases hlt : k < n
      · obtain ⟨b, o, t, rfl, hb, hc1, hc2, hx⟩ := h.at_ (k := k) (by rw [L.out]; exact hlt)
        have har := ar_bd t
        by_cases hz : q = 0
        · have H := Lib.hid (HX.out.trans (scan_stop hx.out (.inl hz) HS.out))
          subst hz
          go_wp2
          go_ret
          exact ⟨ret_bool H.out.symm, rfl⟩
        · have hz' : (q == 0) = false := by simpa using hz
          rcases ht : tmB vars t with _ | _
          · have H := Lib.hid (HX.out.trans (scan_stop hx.out (.inr ht) HS.out))
            have HT := Lib.hid ht
            clear ht hz
            go_wp2_with (go_at_call 71; refine (l03Term_any b (o + k * 2) t vars _ hc1 hc2 h0 h1).mono ?_; rw [HT.out]; rintro e w' ⟨rfl, rfl⟩)
            go_ret
            exact ⟨ret_bool H.out.symm, rfl⟩
          · have HN := Lib.hid (scan_step hx.out hz ht HS.out)
            have HT := Lib.hid ht
            clear ht
            have hq2 : 1 ≤ q := by omega
            clear hz
            go_wp2_with (first
              | (go_at_call 71; refine (l03Term_any b (o + k * 2) t vars _ hc1 hc2 h0 h1).mono ?_; rw [HT.out]; rintro e w' ⟨rfl, rfl⟩)
              | (go_at_call 72; refine (l03Arity_any b (o + k * 2) t _ hc1).mono ?_; rintro e w' ⟨rfl, rfl⟩))
            go_round
            case rel => exact ⟨k + 1, q + (ar t - 1), by omega, by go_num, rfl, by omega, by omega, HN⟩
            case measure => simp [intOf]; omega
      · have HE := Lib.hid (HX.out.trans (scan_end (by rw [L.out]; omega) HS.out))
        by_cases hz : q = 0
        · have H := Lib.hid (HE.out.trans (decide_eq_true hz))
          subst hz
          clear HE
          go_wp2
          go_ret
          exact ⟨ret_bool H.out.symm, rfl⟩
        · have H := Lib.hid (HE.out.trans (decide_eq_false hz))
          have hz' : (q == 0) = false := by simpa using hz
          clear HE hz
          go_wp2
          go_ret
          exact ⟨ret_bool H.out.symm, rfl⟩
theorem specAny_any (A : Option Addr) (n c : Nat) (es : List Tm) (w : World) (B : Nat) (h : TRow w B A es) (l : es.length = n) (m : n ≤ 2000000) :
    Calls Try.prog 51 #[.slice A n c] w fun e w' => e = .returned (.bool (exB 29 60 es)) ∧ w = w' := by
  have C := Lib.hid (l03Is_any A n c es 29 60 w B h l m (by omega) (by omega))
  clear l
  go_enter Try.func51, Try.ntmps51
  go_wp2_with (go_at_call 46; refine (C.out).mono ?_; rintro e w' ⟨rfl, rfl⟩)
  go_ret
  exact ⟨rfl, rfl⟩
end Go.Proofs.Ytkcbmblpalmmhaa
