/- Which lists of terms are expressions: the program's test answers the plain question. -/
import Derived.Test.YtkcbmblpalmmhaaProg
import Derived.WalkKit
import Derived.ProofKit
import Derived.Outline
import Derived.Test.YtkcbmblpalmmhaaMem
import Derived.Test.YtkcbmblpalmmhaaTmM
namespace Go.Proofs.Ytkcbmblpalmmhaa
open Go.RowKit
theorem outM_yes (v : Int) (h : v < 0 ∨ 63 < v) (w : World) : Calls Try.prog 41 #[.int .i64 v] w fun e w' => e = .returned (.bool true) ∧ w = w' := by
  by_cases h1 : v < 0
  · clear h
    go_enter Try.func41, Try.ntmps41
    go_wp2
    go_ret
    exact ⟨rfl, rfl⟩
  · have h2 : 64 ≤ v := by omega
    clear h
    go_enter Try.func41, Try.ntmps41
    go_wp2
    go_ret
    exact ⟨rfl, rfl⟩
theorem outM_no (v : Int) (h : 0 ≤ v ∧ v ≤ 63) (w : World) : Calls Try.prog 41 #[.int .i64 v] w fun e w' => e = .returned (.bool false) ∧ w = w' := by
  have h1 : ¬ v < 0 := by omega
  have h3 : ¬ 64 ≤ v := by omega
  clear h
  go_enter Try.func41, Try.ntmps41
  go_wp2
  go_ret
  exact ⟨rfl, rfl⟩
theorem isOp_yes (v : Int) (h : 0 ≤ v ∧ v ≤ 8) (w : World) : Calls Try.prog 85 #[.int .i64 v] w fun e w' => e = .returned (.bool true) ∧ w = w' := by
  obtain ⟨h1, h2⟩ := h
  go_enter Try.func85, Try.ntmps85
  go_wp2
  go_ret
  exact ⟨rfl, rfl⟩
theorem isOp_no (v : Int) (h : v < 0 ∨ 8 < v) (w : World) : Calls Try.prog 85 #[.int .i64 v] w fun e w' => e = .returned (.bool false) ∧ w = w' := by
  by_cases h1 : 0 ≤ v
  · have h2 : ¬ v ≤ 8 := by omega
    clear h
    go_enter Try.func85, Try.ntmps85
    go_wp2
    go_ret
    exact ⟨rfl, rfl⟩
  · clear h
    go_enter Try.func85, Try.ntmps85
    go_wp2
    go_ret
    exact ⟨rfl, rfl⟩
theorem isTm_any (k v vars : Int) (w : World) :
    Calls Try.prog 65 #[.agg #[.int .i64 k, .int .i64 v], .int .i64 vars] w fun e w' => e = .returned (.bool (tmB vars ⟨k, v⟩)) ∧ Below w.heap.size w w' := by
  have HB : ∀ o : Obj, Below w.heap.size w (w.alloc o) := fun o => (Below.refl _ _).alloc (Nat.le_refl _) o
  have HB := Lib.hid HB
  by_cases e0 : k = 0
  · subst e0
    by_cases hv : 0 ≤ v ∧ v ≤ 63
    · have H := Lib.hid (show tmB vars ⟨0, v⟩ = true from (tmB_num rfl).trans (decide_eq_true hv))
      go_enter Try.func65, Try.ntmps65
      go_wp2_with (go_at_call 41; refine (outM_no _ hv _).mono ?_; rintro e w' ⟨rfl, rfl⟩)
      go_ret
      exact ⟨ret_bool H.out.symm, HB.out _⟩
    · have H := Lib.hid (show tmB vars ⟨0, v⟩ = false from (tmB_num rfl).trans (decide_eq_false hv))
      have hv' : v < 0 ∨ 63 < v := by omega
      clear hv
      go_enter Try.func65, Try.ntmps65
      go_wp2_with (go_at_call 41; refine (outM_yes _ hv' _).mono ?_; rintro e w' ⟨rfl, rfl⟩)
      go_ret
      exact ⟨ret_bool H.out.symm, HB.out _⟩
  by_cases e1 : k = 1
  · subst e1
    clear e0
    by_cases h0 : 0 ≤ v
    · by_cases hv : v < vars
      · have H := Lib.hid (show tmB vars ⟨1, v⟩ = true from (tmB_var rfl).trans (decide_eq_true ⟨h0, hv⟩))
        go_enter Try.func65, Try.ntmps65
        go_wp2
        go_ret
        exact ⟨ret_bool H.out.symm, HB.out _⟩
      · have H := Lib.hid (show tmB vars ⟨1, v⟩ = false from (tmB_var rfl).trans (decide_eq_false (fun h : 0 ≤ v ∧ v < vars => hv h.2)))
        go_enter Try.func65, Try.ntmps65
        go_wp2
        go_ret
        exact ⟨ret_bool H.out.symm, HB.out _⟩
    · have H := Lib.hid (show tmB vars ⟨1, v⟩ = false from (tmB_var rfl).trans (decide_eq_false (fun h : 0 ≤ v ∧ v < vars => h0 h.1)))
      go_enter Try.func65, Try.ntmps65
      go_wp2
      go_ret
      exact ⟨ret_bool H.out.symm, HB.out _⟩
  by_cases e2 : k = 2
  · subst e2
    clear e0 e1
    by_cases hv : 0 ≤ v ∧ v ≤ 8
    · have H := Lib.hid (show tmB vars ⟨2, v⟩ = true from (tmB_op rfl).trans (decide_eq_true hv))
      go_enter Try.func65, Try.ntmps65
      go_wp2_with (go_at_call 85; refine (isOp_yes _ hv _).mono ?_; rintro e w' ⟨rfl, rfl⟩)
      go_ret
      exact ⟨ret_bool H.out.symm, HB.out _⟩
    · have H := Lib.hid (show tmB vars ⟨2, v⟩ = false from (tmB_op rfl).trans (decide_eq_false hv))
      have hv' : v < 0 ∨ 8 < v := by omega
      clear hv
      go_enter Try.func65, Try.ntmps65
      go_wp2_with (go_at_call 85; refine (isOp_no _ hv' _).mono ?_; rintro e w' ⟨rfl, rfl⟩)
      go_ret
      exact ⟨ret_bool H.out.symm, HB.out _⟩
  by_cases e3 : k = 3
  · subst e3
    clear e0 e1 e2
    by_cases hv : v = 0
    · subst hv
      have H := Lib.hid (show tmB vars ⟨3, 0⟩ = true from (tmB_not rfl).trans (decide_eq_true rfl))
      go_enter Try.func65, Try.ntmps65
      go_wp2
      go_ret
      exact ⟨ret_bool H.out.symm, HB.out _⟩
    · have H := Lib.hid (show tmB vars ⟨3, v⟩ = false from (tmB_not rfl).trans (decide_eq_false hv))
      have hv' : (v == 0) = false := by simpa using hv
      clear hv
      go_enter Try.func65, Try.ntmps65
      go_wp2
      go_ret
      exact ⟨ret_bool H.out.symm, HB.out _⟩
  · have H := Lib.hid (show tmB vars ⟨k, v⟩ = false from tmB_none e0 e1 e2 e3)
    have d0 : (k == 0) = false := by simpa using e0
    have d1 : (k == 1) = false := by simpa using e1
    have d2 : (k == 2) = false := by simpa using e2
    have d3 : (k == 3) = false := by simpa using e3
    clear e0 e1 e2 e3
    go_enter Try.func65, Try.ntmps65
    go_wp2
    go_ret
    exact ⟨ret_bool H.out.symm, HB.out _⟩
theorem opCount_any (k v : Int) (w : World) :
    Calls Try.prog 67 #[.agg #[.int .i64 k, .int .i64 v]] w fun e w' => e = .returned (.int .i64 (ar ⟨k, v⟩)) ∧ Below w.heap.size w w' := by
  have HB : ∀ o : Obj, Below w.heap.size w (w.alloc o) := fun o => (Below.refl _ _).alloc (Nat.le_refl _) o
  have HB := Lib.hid HB
  by_cases e2 : k = 2
  · subst e2
    go_enter Try.func67, Try.ntmps67
    go_wp2
    go_ret
    exact ⟨rfl, HB.out _⟩
  by_cases e3 : k = 3
  · subst e3
    clear e2
    go_enter Try.func67, Try.ntmps67
    go_wp2
    go_ret
    exact ⟨rfl, HB.out _⟩
  · have H := Lib.hid (ar_zero (t := ⟨k, v⟩) e2 e3)
    have d2 : (k == 2) = false := by simpa using e2
    have d3 : (k == 3) = false := by simpa using e3
    clear e2 e3
    go_enter Try.func67, Try.ntmps67
    go_wp2
    go_ret
    exact ⟨ret_int H.out.symm, HB.out _⟩
theorem opCount_tm (t : Tm) (w : World) :
    Calls Try.prog 67 #[.agg #[.int .i64 t.k, .int .i64 t.v]] w fun e w' => e = .returned (.int .i64 (ar t)) ∧ Below w.heap.size w w' := opCount_any t.k t.v w
theorem isTm_tm (t : Tm) (vars : Int) (w : World) :
    Calls Try.prog 65 #[.agg #[.int .i64 t.k, .int .i64 t.v], .int .i64 vars] w fun e w' => e = .returned (.bool (tmB vars t)) ∧ Below w.heap.size w w' := isTm_any t.k t.v vars w
theorem fe_done {es : List Tm} {k : Nat} {t : Tm} {q : Int} (hx : es[k]? = some t) (hz : q + (ar t - 1) = 0) (h : fe es 1 0 = fe (es.drop k) q k) : fe es 1 0 = k + 1 := by
  rw [h, drop_one _ _ _ hx]; unfold fe; rw [if_pos hz]
theorem fe_next {es : List Tm} {k : Nat} {t : Tm} {q : Int} (hx : es[k]? = some t) (hz : ¬ q + (ar t - 1) = 0) (h : fe es 1 0 = fe (es.drop k) q k) : fe es 1 0 = fe (es.drop (k + 1)) (q + (ar t - 1)) ((k + 1 : Nat) : Int) := by
  rw [h, drop_one _ _ _ hx]
  conv => lhs; unfold fe
  rw [if_neg hz]
  rfl
set_option maxRecDepth 100000 in
set_option maxHeartbeats 1000000 in
theorem firstEnd_any (A : Option Addr) (n c : Nat) (es : List Tm) (w : World) (B : Nat) (h : TRow w B A es) (hB : B ≤ w.heap.size) (l : es.length = n) (m : n ≤ 2000000) :
    Calls Try.prog 66 #[.slice A n c, .func (.func 67) #[] #[]] w fun e w' => e = .returned (.int .i64 (fe es 1 0)) ∧ Below w.heap.size w w' := by
  have L := Lib.hid l
  clear l
  go_enter Try.func66, Try.ntmps66
  go_wp2
  go_loopw [5, 10] (fun x i wr => ∃ (k : Nat) (q : Int), k ≤ n ∧ i = .int .i64 k ∧ x = .int .i64 q ∧ 1 ≤ q ∧ q ≤ 1 + k ∧ Below w.heap.size w wr ∧ Hid (fe es 1 0 = fe (es.drop k) q k)) (fun _ i _ => n - (intOf i).toNat)
  case atStart => exact ⟨0, 1, Nat.zero_le _, rfl, rfl, by omega, by omega, Below.refl _ _, by rw [List.drop_zero]; exact Lib.hid rfl⟩
  case round =>
    obtain ⟨k, q, hk, rfl, rfl, hq0, hq1, hb, HS⟩ := hrel
    by_cases hlt : k < n
    · obtain ⟨b, o, t, rfl, hbB, hc1, hc2, hx⟩ := (h.below (hb.mono hB)).at_ (k := k) (by rw [L.out]; exact hlt)
      have har := ar_bd t
      have hws : w.heap.size ≤ wr.heap.size := hb.size
      have HB := Lib.hid hb
      clear hb
      by_cases hz : q + (ar t - 1) = 0
      · have H := Lib.hid (fe_done hx.out hz HS.out)
        have hz' : (q + (ar t - 1) == 0) = true := by simpa using hz
        clear hz
        go_wp2_with (go_at_call 67; refine (opCount_tm t _).mono ?_; rintro e w2 ⟨rfl, b2⟩; have B2 := Lib.hid b2; clear b2)
        go_ret
        exact ⟨ret_int (by rw [H.out]), HB.out.trans ((((Below.refl _ _).alloc (Nat.le_refl _) _).trans (B2.out.mono (by simp))).mono hws)⟩
      · have HN := Lib.hid (fe_next hx.out hz HS.out)
        have hz' : (q + (ar t - 1) == 0) = false := by simpa using hz
        have hq2 : 1 ≤ q + (ar t - 1) := by omega
        clear hz
        go_wp2_with (go_at_call 67; refine (opCount_tm t _).mono ?_; rintro e w2 ⟨rfl, b2⟩; have B2 := Lib.hid b2; clear b2)
        go_roundw
        case rel => exact ⟨k + 1, q + (ar t - 1), by omega, by go_num, rfl, hq2, by omega, HB.out.trans ((((Below.refl _ _).alloc (Nat.le_refl _) _).trans (B2.out.mono (by simp))).mono hws), HN⟩
        case measure => simp [intOf]; omega
    · have H := Lib.hid (show fe es 1 0 = -1 by rw [HS.out, List.drop_eq_nil_of_le (by rw [L.out]; omega)]; rfl)
      go_wp2
      go_ret
      exact ⟨ret_int (by rw [H.out]), hb⟩
theorem scan_not {vars : Int} {es : List Tm} {k : Nat} {t : Tm} (hx : es[k]? = some t) (ht : tmB vars t = false) : scan vars es 1 = false := by
  rcases e : scan vars es 1 with _ | _
  · rfl
  · have := scan_all e t (List.mem_of_getElem? hx)
    rw [ht] at this; cases this
theorem all_next {vars : Int} {es : List Tm} {k : Nat} {t : Tm} (hx : es[k]? = some t) (ht : tmB vars t = true) (h : ∀ u ∈ es.take k, tmB vars u = true) : ∀ u ∈ es.take (k + 1), tmB vars u = true := by
  rw [take_one _ _ _ hx]
  intro u hu
  rcases List.mem_append.1 hu with hu | hu
  · exact h u hu
  · rw [List.mem_singleton] at hu; subst hu; exact ht
set_option maxRecDepth 100000 in
set_option maxHeartbeats 1000000 in
theorem implValid_any (A : Option Addr) (n c : Nat) (es : List Tm) (vars most : Int) (w : World) (B : Nat) (h : TRow w B A es) (hB : B ≤ w.heap.size) (l : es.length = n) (m : n ≤ 2000000) :
    Calls Try.prog 42 #[.slice A n c, .int .i64 vars, .int .i64 most] w fun e w' => e = .returned (.bool (vtB vars most es)) ∧ Below w.heap.size w w' := by
  have L := Lib.hid l
  clear l
  by_cases h1 : vars < 0
  · have H := Lib.hid (vtB_no (vars := vars) (most := most) (es := es) (by omega))
    go_enter Try.func42, Try.ntmps42
    go_wp2
    go_ret
    exact ⟨ret_bool H.out.symm, Below.refl _ _⟩
  by_cases h2 : 29 < vars
  · have H := Lib.hid (vtB_no (vars := vars) (most := most) (es := es) (by omega))
    go_enter Try.func42, Try.ntmps42
    go_wp2
    go_ret
    exact ⟨ret_bool H.out.symm, Below.refl _ _⟩
  by_cases h3 : most < 1
  · have H := Lib.hid (vtB_no (vars := vars) (most := most) (es := es) (by omega))
    go_enter Try.func42, Try.ntmps42
    go_wp2
    go_ret
    exact ⟨ret_bool H.out.symm, Below.refl _ _⟩
  by_cases h4 : 60 < most
  · have H := Lib.hid (vtB_no (vars := vars) (most := most) (es := es) (by omega))
    go_enter Try.func42, Try.ntmps42
    go_wp2
    go_ret
    exact ⟨ret_bool H.out.symm, Below.refl _ _⟩
  by_cases h5 : most < (n : Int)
  · have H := Lib.hid ((vtB_yes (vars := vars) (most := most) (es := es) (by omega)).trans (exB_long (by rw [L.out]; omega)))
    go_enter Try.func42, Try.ntmps42
    go_wp2
    go_ret
    exact ⟨ret_bool H.out.symm, Below.refl _ _⟩
  have HX := Lib.hid ((vtB_yes (vars := vars) (most := most) (es := es) (by omega)).trans (exB_short (by rw [L.out]; omega)))
  go_enter Try.func42, Try.ntmps42
  go_wp2
  go_loopw [31] (fun i wr => ∃ k : Nat, k ≤ n ∧ i = .int .i64 k ∧ Below w.heap.size w wr ∧ Hid (∀ u ∈ es.take k, tmB vars u = true)) (fun i _ => n - (intOf i).toNat)
  case atStart => exact ⟨0, Nat.zero_le _, rfl, Below.refl _ _, by rw [List.take_zero]; exact Lib.hid (by simp)⟩
  case round =>
    obtain ⟨k, hk, rfl, hb, HS⟩ := hrel
    by_cases hlt : k < n
    · obtain ⟨b, o, t, rfl, hbB, hc1, hc2, hx⟩ := (h.below (hb.mono hB)).at_ (k := k) (by rw [L.out]; exact hlt)
      have hws : w.heap.size ≤ wr.heap.size := hb.size
      have HB := Lib.hid hb
      clear hb
      rcases ht : tmB vars t with _ | _
      · have H := Lib.hid (HX.out.trans (scan_not hx.out ht))
        have HT := Lib.hid ht
        clear ht
        go_wp2_with (go_at_call 65; refine (isTm_tm t vars _).mono ?_; rw [HT.out]; rintro e w2 ⟨rfl, b2⟩; have B2 := Lib.hid b2; clear b2)
        go_ret
        exact ⟨ret_bool H.out.symm, HB.out.trans ((((Below.refl _ _).alloc (Nat.le_refl _) _).trans (B2.out.mono (by simp))).mono hws)⟩
      · have HN := Lib.hid (all_next hx.out ht HS.out)
        have HT := Lib.hid ht
        clear ht
        go_wp2_with (go_at_call 65; refine (isTm_tm t vars _).mono ?_; rw [HT.out]; rintro e w2 ⟨rfl, b2⟩; have B2 := Lib.hid b2; clear b2)
        go_roundw
        case rel => exact ⟨k + 1, by omega, by go_num, HB.out.trans ((((Below.refl _ _).alloc (Nat.le_refl _) _).trans (B2.out.mono (by simp))).mono hws), HN⟩
        case measure => simp [intOf]; omega
    · have HA := Lib.hid (show ∀ u ∈ es, tmB vars u = true by
        have := HS.out
        rwa [List.take_of_length_le (by rw [L.out]; omega)] at this)
      have HF := Lib.hid (fe_scan es 1 0 HA.out (by omega) (by omega))
      have C := Lib.hid (firstEnd_any A n c es wr B (h.below (hb.mono hB)) (Nat.le_trans hB hb.size) L.out m)
      have hws : w.heap.size ≤ wr.heap.size := hb.size
      have HB := Lib.hid hb
      clear hb
      by_cases he : fe es 1 0 = (n : Int)
      · have H := Lib.hid (show vtB vars most es = true by rw [HX.out, ← HF.out, L.out]; exact decide_eq_true (by omega))
        have HE := Lib.hid he
        have hnn : ((n : Int) == (n : Int)) = true := by simp
        clear he
        go_wp2_with (go_at_call 66; refine (C.out).mono ?_; rw [HE.out]; rintro e w2 ⟨rfl, b2⟩; have B2 := Lib.hid b2; clear b2)
        go_ret
        exact ⟨ret_bool H.out.symm, HB.out.trans (B2.out.mono hws)⟩
      · have H := Lib.hid (show vtB vars most es = false by rw [HX.out, ← HF.out, L.out]; exact decide_eq_false (by omega))
        have he' : (fe es 1 0 == (n : Int)) = false := by simpa using he
        clear he
        go_wp2_with (go_at_call 66; refine (C.out).mono ?_; rintro e w2 ⟨rfl, b2⟩; have B2 := Lib.hid b2; clear b2)
        go_ret
        exact ⟨ret_bool H.out.symm, HB.out.trans (B2.out.mono hws)⟩
end Go.Proofs.Ytkcbmblpalmmhaa
