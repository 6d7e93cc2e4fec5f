/- Evaluating an expression: the model's answer is that of the plain function. -/
import Derived.Test.YtkcbmblpalmmhaaProg
import Derived.WalkKit
import Derived.ProofKit
import Derived.Outline
import Derived.Lib.Hide
import Derived.Test.YtkcbmblpalmmhaaMem
import Derived.Test.YtkcbmblpalmmhaaL00
import Derived.Test.YtkcbmblpalmmhaaTmM
import Derived.Test.YtkcbmblpalmmhaaTmV
import Derived.Test.YtkcbmblpalmmhaaTmI
import Derived.Test.YtkcbmblpalmmhaaOpr
import Derived.Test.YtkcbmblpalmmhaaExM
import Derived.Test.YtkcbmblpalmmhaaCut
import Derived.Test.YtkcbmblpalmmhaaOwn
import Derived.Test.YtkcbmblpalmmhaaTmW
import Derived.Test.YtkcbmblpalmmhaaEvM
namespace Go.Proofs.Ytkcbmblpalmmhaa
open Go.RowKit
set_option maxHeartbeats 1000000 in
theorem l03Data_any (A : Option Addr) (n c : Nat) (vals : List Int) (w : World) (B : Nat) (h : IRow w B A vals) (l : vals.length = n) (m : n ≤ 2000000) :
    Calls Try.prog 47 #[.slice A n c] w fun e w' => e = .returned (.bool (dataB vals)) ∧ w = w' := by
  have L := Lib.hid l
  clear l
  go_enter Try.func47, Try.ntmps47
  go_wp2
  go_loop [3] (fun i => ∃ k : Nat, k ≤ n ∧ i = .int .i64 k ∧ Hid (∀ v ∈ vals.take k, 0 ≤ v ∧ v ≤ 63)) (fun i => n - (intOf i).toNat)
  case atStart => exact ⟨0, Nat.zero_le _, rfl, by rw [List.take_zero]; exact Lib.hid (by simp)⟩
  case round =>
    obtain ⟨k, hk, rfl, HS⟩ := hrel
    by_cases hlt : k < n
    · obtain ⟨b, o, u, rfl, hb, hc, hu⟩ := h.at_ (k := k) (by rw [L.out]; exact hlt)
      by_cases hd : 0 ≤ u ∧ u ≤ 63
      · have HN := Lib.hid (show ∀ v ∈ vals.take (k + 1), 0 ≤ v ∧ v ≤ 63 by
          rw [take_one _ _ _ hu.out]
          intro v hv
          rcases List.mem_append.1 hv with hv | hv
          · exact HS.out v hv
          · rw [List.mem_singleton] at hv; subst hv; exact hd)
        go_wp2_with (go_at_call 73; refine (l00In_yes _ _ _ hd _).mono ?_; rintro e w' ⟨rfl, rfl⟩)
        go_round
        case rel => exact ⟨k + 1, by omega, by go_num, HN⟩
        case measure => simp [intOf]; omega
      · have hd' : u < 0 ∨ 63 < u := by omega
        have H := Lib.hid (dataB_no hu.out hd')
        clear hd
        go_wp2_with (go_at_call 73; refine (l00In_no _ _ _ hd' _).mono ?_; rintro e w' ⟨rfl, rfl⟩)
        go_ret
        exact ⟨ret_bool H.out.symm, rfl⟩
    · have H := Lib.hid (dataB_all (vals := vals) (by have := HS.out; rwa [List.take_of_length_le (by rw [L.out]; omega)] at this))
      go_wp2
      go_ret
      exact ⟨ret_bool H.out.symm, rfl⟩
set_option maxRecDepth 100000 in
set_option maxHeartbeats 2000000 in
theorem l03At_any (A : Option Addr) (n c : Nat) (es : List Tm) (V : Option Addr) (nv cv : Nat) (vals : List Int) (w : World) (B : Nat) (h : TRow w B A es) (l : es.length = n) (m : n ≤ 60) (hv : IRow w B V vals) (lv : vals.length = nv) (_mv : nv ≤ 29) (hd : dataB vals = true) :
    ∀ (x : Ex) (p : Nat) (r : List Tm), x.ok (nv : Int) → es.drop p = x.flat ++ r →
      Calls Try.prog 74 #[.slice A n c, .slice V nv cv, .int .i64 (p : Int)] w fun e w' => e = .returned (.int .i64 (evX vals x)) ∧ w = w' := by
  have L := Lib.hid l
  have LV := Lib.hid lv
  have HD := Lib.hid hd
  clear l lv hd
  intro x
  induction x with
  | leaf t =>
    intro p r ho hp
    have hlen := congrArg List.length hp
    rw [List.length_drop, L.out] at hlen
    simp [Ex.flat] at hlen
    obtain ⟨b, o, t', rfl, hb, hc1, hc2, ht⟩ := h.at_ (k := p) (by rw [L.out]; omega)
    have et : t' = t := by
      have h1 := ht.out
      rw [← Nat.add_zero p, ← List.getElem?_drop, hp] at h1
      simp [Ex.flat] at h1
      exact h1.symm
    subst et
    clear hp
    rcases tm_leaf ho.1 ho.2 with ⟨h0, h1, h2⟩ | ⟨h0, h1, h2⟩
    · have H := Lib.hid (show evX vals (.leaf t') = t'.v by unfold evX; rw [if_pos h0])
      rw [h0] at hc1
      clear h0 ho
      go_enter Try.func74, Try.ntmps74
      go_wp2
      go_ret
      exact ⟨ret_int H.out.symm, rfl⟩
    · obtain ⟨q, hq⟩ : ∃ q : Nat, t'.v = (q : Int) := ⟨t'.v.toNat, by omega⟩
      have hql : q < nv := by omega
      obtain ⟨b2, o2, u, rfl, hb2, hcu, hu⟩ := hv.at_ (k := q) (by rw [LV.out]; exact hql)
      have H := Lib.hid (show evX vals (.leaf t') = u by
        unfold evX
        rw [if_neg (by omega), hq, Int.toNat_natCast, List.getD_eq_getElem?_getD, hu.out]; rfl)
      rw [h0] at hc1
      rw [hq] at hc2
      clear h0 ho hq h1 h2
      go_enter Try.func74, Try.ntmps74
      go_wp2
      go_ret
      exact ⟨ret_int H.out.symm, rfl⟩
  | one t a ih =>
    intro p r ho hp
    have hlen := congrArg List.length hp
    rw [List.length_drop, L.out] at hlen
    simp [Ex.flat] at hlen
    obtain ⟨b, o, t', rfl, hb, hc1, hc2, ht⟩ := h.at_ (k := p) (by rw [L.out]; omega)
    have et : t' = t := by
      have h1 := ht.out
      rw [← Nat.add_zero p, ← List.getElem?_drop, hp] at h1
      simp [Ex.flat] at h1
      exact h1.symm
    subst et
    have hp1 : es.drop (p + 1) = a.flat ++ r := by rw [← List.drop_drop, hp]; simp [Ex.flat]
    have CA := Lib.hid (ih (p + 1) r ho.2.2 hp1)
    have hk := tm_one ho.2.1
    rw [hk] at hc1
    clear hp hp1 hk ho ih
    go_enter Try.func74, Try.ntmps74
    go_wp2_with (first
      | (go_at_call 74; refine (CA.out).mono ?_; rintro e w' ⟨rfl, rfl⟩)
      | (go_at_call 79; refine (truthL_any _ _).mono ?_; rintro e w' ⟨rfl, rfl⟩))
    go_ret
    exact ⟨rfl, rfl⟩
  | two t a b iha ihb =>
    intro p r ho hp
    have hlen := congrArg List.length hp
    rw [List.length_drop, L.out] at hlen
    simp [Ex.flat] at hlen
    obtain ⟨b', o, t', rfl, hb, hc1, hc2, ht⟩ := h.at_ (k := p) (by rw [L.out]; omega)
    have et : t' = t := by
      have h1 := ht.out
      rw [← Nat.add_zero p, ← List.getElem?_drop, hp] at h1
      simp [Ex.flat] at h1
      exact h1.symm
    subst et
    have hp1 : es.drop (p + 1) = a.flat ++ (b.flat ++ r) := by rw [← List.drop_drop, hp]; simp [Ex.flat]
    have hp2 : es.drop (p + 1 + a.flat.length) = b.flat ++ r := by rw [← List.drop_drop, hp1, List.drop_left']; rfl
    have hfe : fe (es.drop (p + 1)) 1 ((p + 1 : Nat) : Int) = ((p + 1 + a.flat.length : Nat) : Int) := by rw [hp1, fe_one ho.2.2.1]; omega
    have CA := Lib.hid (iha (p + 1) (b.flat ++ r) ho.2.2.1 hp1)
    have CB := Lib.hid (ihb (p + 1 + a.flat.length) r ho.2.2.2 hp2)
    have CE := Lib.hid (l03End_any (some ⟨b', o, none⟩) n c es (p + 1) (p + 1 + a.flat.length) w B h L.out (by omega) hfe)
    have CO := Lib.hid (l03Op_any t'.v (evX vals a) (evX vals b) ⟨(tm_two ho.1 ho.2.1).2, evX_bd (by rw [LV.out]) HD.out ho.2.2.1, evX_bd (by rw [LV.out]) HD.out ho.2.2.2⟩)
    have hk := (tm_two ho.1 ho.2.1).1
    rw [hk] at hc1
    clear hp hp1 hp2 hfe hk ho iha ihb
    go_enter Try.func74, Try.ntmps74
    go_wp2_with fail
    refine (CA.out).mono ?_
    rintro e w' ⟨rfl, rfl⟩
    go_wp2_with fail
    refine (CE.out).mono ?_
    rintro e w' ⟨rfl, rfl⟩
    go_wp2_with fail
    refine (CB.out).mono ?_
    rintro e w' ⟨rfl, rfl⟩
    go_wp2_with (go_at_call 80; refine (CO.out _).mono ?_; rintro e w' ⟨rfl, rfl⟩)
    go_ret
    exact ⟨rfl, rfl⟩
set_option maxRecDepth 100000 in
set_option maxHeartbeats 2000000 in
theorem specEval_any (A : Option Addr) (n c : Nat) (es : List Tm) (V : Option Addr) (nv cv : Nat) (vals : List Int) (w : World) (B : Nat) (h : TRow w B A es) (_hB : B ≤ w.heap.size) (l : es.length = n) (m : n ≤ 2000000) (B2 : Nat) (h2 : IRow w B2 V vals) (_hB2 : B2 ≤ w.heap.size) (l2 : vals.length = nv) (m2 : nv ≤ 2000000) :
    Calls Try.prog 14 #[.slice A n c, .slice V nv cv] w fun e w' => e = .returned (.tuple #[.int .i64 (evalR es vals).1, .int .i64 (evalR es vals).2]) ∧ Below w.heap.size w w' := by
  by_cases h29 : nv ≤ 29
  · have CI := Lib.hid (l03Is_any A n c es (nv : Int) 60 w B h l m (by omega) (by omega))
    have hg : ¬ (29 : Int) < (nv : Int) := by omega
    rcases hx : exB (nv : Int) 60 es with _ | _
    · have H := Lib.hid (evalR_no (es := es) (vals := vals) (by rw [l2]; rintro ⟨_, _, e⟩; rw [hx] at e; cases e))
      have HX := Lib.hid hx
      clear hx l l2
      go_enter Try.func14, Try.ntmps14
      go_wp2_with (go_at_call 46; refine (CI.out).mono ?_; rw [HX.out]; rintro e w' ⟨rfl, rfl⟩)
      go_ret2
      exact ⟨by rw [H.out]; rfl, Below.refl _ _⟩
    · have CD := Lib.hid (l03Data_any V nv cv vals w B2 h2 l2 m2)
      have HX := Lib.hid hx
      rcases hd : dataB vals with _ | _
      · have H := Lib.hid (evalR_no (es := es) (vals := vals) (by rintro ⟨_, e, _⟩; rw [hd] at e; cases e))
        have HD := Lib.hid hd
        clear hx l l2 hd
        go_enter Try.func14, Try.ntmps14
        go_wp2_with (first
          | (go_at_call 46; refine (CI.out).mono ?_; rw [HX.out]; rintro e w' ⟨rfl, rfl⟩)
          | (go_at_call 47; refine (CD.out).mono ?_; rw [HD.out]; rintro e w' ⟨rfl, rfl⟩))
        go_ret2
        exact ⟨by rw [H.out]; rfl, Below.refl _ _⟩
      · have H := Lib.hid (evalR_yes (es := es) (vals := vals) (by omega) hd (by rw [l2]; exact hx))
        have HD := Lib.hid hd
        obtain ⟨hflat, hok⟩ := treeOf_okV hx (by omega)
        have hn60 := (exB_scan hx).2
        have CA := Lib.hid (l03At_any A n c es V nv cv vals w (max B B2) (h.more (Nat.le_max_left _ _)) l (by omega) (Row.more h2 (Nat.le_max_right _ _)) l2 h29 hd (treeOf es) 0 [] hok (by rw [List.drop_zero, List.append_nil]; exact hflat.symm))
        clear hx l l2 hd hflat hok hn60
        go_enter Try.func14, Try.ntmps14
        go_wp2_with (first
          | (go_at_call 46; refine (CI.out).mono ?_; rw [HX.out]; rintro e w' ⟨rfl, rfl⟩)
          | (go_at_call 47; refine (CD.out).mono ?_; rw [HD.out]; rintro e w' ⟨rfl, rfl⟩)
          | (go_at_call 74; refine (CA.out).mono ?_; rintro e w' ⟨rfl, rfl⟩)
          | go_in)
        go_ret2
        exact ⟨by rw [H.out]; rfl, Below.refl _ _⟩
  · have H := Lib.hid (evalR_no (es := es) (vals := vals) (fun e => h29 (by have := e.1; omega)))
    have hg : (29 : Int) < (nv : Int) := by omega
    clear l l2
    go_enter Try.func14, Try.ntmps14
    go_wp2
    go_ret2
    exact ⟨by rw [H.out]; rfl, Below.refl _ _⟩
theorem specEval_own (A : Option Addr) (n c : Nat) (es : List Tm) (V : Option Addr) (nv cv : Nat) (vals : List Int) (w : World) (T1 : TypeId) (lo1 hi1 : Nat) (h : OwnV w lo1 hi1 T1 2 A n c (tvs es)) (hB : hi1 ≤ w.heap.size) (l : es.length = n) (m : n ≤ 2000000) (T2 : TypeId) (lo2 hi2 : Nat) (h2 : OwnV w lo2 hi2 T2 1 V nv cv (vals.map (Value.int .i64))) (hB2 : hi2 ≤ w.heap.size) (l2 : vals.length = nv) (m2 : nv ≤ 2000000) :
    Calls Try.prog 14 #[.slice A n c, .slice V nv cv] w fun e w' => e = .returned (.tuple #[.int .i64 (evalR es vals).1, .int .i64 (evalR es vals).2]) ∧ Below w.heap.size w w' :=
  specEval_any A n c es V nv cv vals w hi1 h.trow hB l m hi2 h2.row hB2 l2 m2
end Go.Proofs.Ytkcbmblpalmmhaa
