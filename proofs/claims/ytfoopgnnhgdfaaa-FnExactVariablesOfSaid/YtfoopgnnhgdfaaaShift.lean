/- Moving the variables of an expression: the model's and the program's answers are those of one plain function. -/
import Derived.Test.YtfoopgnnhgdfaaaProg
import Derived.WalkKit
import Derived.ProofKit
import Derived.Outline
import Derived.Lib.Hide
import Derived.Test.YtfoopgnnhgdfaaaMem
import Derived.Test.YtfoopgnnhgdfaaaOwn
import Derived.Test.YtfoopgnnhgdfaaaL00
import Derived.Test.YtfoopgnnhgdfaaaTmM
import Derived.Test.YtfoopgnnhgdfaaaTmW
import Derived.Test.YtfoopgnnhgdfaaaTmV
import Derived.Test.YtfoopgnnhgdfaaaTmI
import Derived.Test.YtfoopgnnhgdfaaaRet
import Derived.Test.YtfoopgnnhgdfaaaApp
import Derived.Test.YtfoopgnnhgdfaaaShiftM
namespace Go.Proofs.Ytfoopgnnhgdfaaa
open Go.RowKit
theorem isEx_any (A : Option Addr) (n c : Nat) (es : List Tm) (w : World) (B : Nat) (h : TRow w B A es) (hB : B ≤ w.heap.size) (l : es.length = n) (m : n ≤ 2000000) :
    Calls Try.prog 62 #[.slice A n c] w fun e w' => e = .returned (.bool (exB 29 60 es)) ∧ Below w.heap.size w w' := by
  have C := Lib.hid (implValid_any A n c es 29 60 w B h hB l m)
  have H := Lib.hid (vtB_yes (vars := 29) (most := 60) (es := es) (by omega))
  clear l
  go_enter Try.func62, Try.ntmps62
  go_wp2_with (go_at_call 26; refine (C.out).mono ?_; rw [H.out]; rintro e w' ⟨rfl, hb⟩)
  go_ret
  exact ⟨rfl, hb⟩
set_option maxRecDepth 100000 in
set_option maxHeartbeats 1000000 in
theorem l03Shift_any (A : Option Addr) (n c : Nat) (es : List Tm) (p q : Int) (w : World) (B : Nat) (h : TRow w B A es) (hB : B ≤ w.heap.size) (l : es.length = n) (m : n ≤ 2000000) (hs : ∀ t ∈ es, 0 ≤ t.v ∧ t.v ≤ 63 ∧ 0 ≤ t.k ∧ t.k ≤ 3) (hq : -29 ≤ q ∧ q ≤ 29) :
    Calls Try.prog 82 #[.slice A n c, .int .i64 p, .int .i64 q] w fun e w' => RetT1 w (es.map (shT p q)) e w' := by
  have L := Lib.hid l
  have HS := Lib.hid hs
  have CO := Lib.hid (l03Own_any A n c es w B h hB l m)
  clear l hs h
  go_enter Try.func82, Try.ntmps82
  go_wp2_with (go_at_call 79; refine (CO.out).mono ?_; rintro e w1 ⟨A1, n1, c1, rfl, ho, hb⟩; obtain rfl : n1 = n := by have := ho.1; rw [tvs_length, L.out] at this; omega)
  go_loopw [8] (fun i wr => ∃ k : Nat, k ≤ n1 ∧ i = .int .i64 k ∧ wr.ownsRow w.heap.size 77 2 (.slice A1 n1 c1) n1 (tvs (midF (shT p q) es k)) ∧ Below w.heap.size w wr) (fun i _ => n1 - (intOf i).toNat)
  case atStart => exact ⟨0, Nat.zero_le _, rfl, by rw [midF_zero]; exact ho, hb⟩
  case round =>
    obtain ⟨k, hk, rfl, hown, hbel⟩ := hrel
    clear ho hb
    by_cases hlt : k < n1
    · obtain ⟨t, ht⟩ : ∃ t, es[k]? = some t := ⟨_, List.getElem?_eq_getElem (by rw [L.out]; exact hlt)⟩
      obtain ⟨g, rfl, hbg, hgs⟩ := own_at hown (by omega)
      have hm := midF_at (f := shT p q) ht
      have hx := (hown.cellAt (k * 2) (by omega)).trans (tvs_at hm).1
      have hy := (hown.cellAt (k * 2 + 1) (by omega)).trans (tvs_at hm).2
      have hf := hown.frozenAt (k * 2 + 1)
      obtain ⟨v0, v1, _, _⟩ := HS.out t (List.mem_of_getElem? ht)
      have HT := Lib.hid ht
      have HM := Lib.hid hm
      have HO := Lib.hid hown
      have HB := Lib.hid hbel
      clear ht hm hown hbel
      by_cases h1 : t.k = 1
      · have h1' : (t.k == 1) = true := by simpa using h1
        by_cases h2 : p ≤ t.v
        · have HX := Lib.hid (shT_yes (p := p) (q := q) h1 h2)
          clear h1
          go_wp2
          go_roundw
          case rel => exact ⟨k + 1, by omega, by go_num, by
            have := (HO.out.stored (k * 2 + 1) (.int .i64 (t.v + q))).1
            rwa [tvs_setv HM.out, ← HX.out, midF_succ HT.out] at this, HB.out.setCell hbg _⟩
          case measure => simp [intOf]; omega
        · have HX := Lib.hid (midF_same HT.out (shT_low (p := p) (q := q) h2))
          clear h1
          go_wp2
          go_roundw
          case rel => exact ⟨k + 1, by omega, by go_num, by rw [← HX.out]; exact HO.out, HB.out⟩
          case measure => simp [intOf]; omega
      · have h1' : (t.k == 1) = false := by simpa using h1
        have HX := Lib.hid (midF_same HT.out (shT_kind (p := p) (q := q) h1))
        clear h1
        go_wp2
        go_roundw
        case rel => exact ⟨k + 1, by omega, by go_num, by rw [← HX.out]; exact HO.out, HB.out⟩
        case measure => simp [intOf]; omega
    · have HA := Lib.hid (midF_all (f := shT p q) (es := es) (k := k) (by rw [L.out]; omega))
      go_wp2
      go_ret
      exact ⟨A1, n1, c1, rfl, by rw [← HA.out]; exact hown, hbel⟩
set_option maxRecDepth 100000 in
set_option maxHeartbeats 1000000 in
theorem specShift_any (A : Option Addr) (n c : Nat) (es : List Tm) (p q : Int) (w : World) (B : Nat) (h : TRow w B A es) (hB : B ≤ w.heap.size) (l : es.length = n) (m : n ≤ 2000000) :
    Calls Try.prog 42 #[.slice A n c, .int .i64 p, .int .i64 q] w fun e w' => RetT2 w (shiftR es p q) e w' := by
  have C := Lib.hid (specAny_any A n c es w B h l m)
  rcases hv : exB 29 60 es with _ | _
  · have H := Lib.hid (shiftR_bad (p := p) (q := q) hv)
    have HV := Lib.hid hv
    clear hv l
    go_enter Try.func42, Try.ntmps42
    go_wp2_with (go_at_call 74; refine (C.out).mono ?_; rw [HV.out]; rintro e w' ⟨rfl, rfl⟩)
    go_ret2
    exact RetT2.nil H.out (Below.refl _ _)
  by_cases hp : 0 ≤ p ∧ p ≤ 29
  · by_cases hq : -29 ≤ q ∧ q ≤ 29
    · have CS := Lib.hid (l03Shift_any A n c es p q w B h hB l m (exB_small hv (by omega)) hq)
      rcases hw : exB 29 60 (es.map (shT p q)) with _ | _
      · have H := Lib.hid (shiftR_out hv ⟨hp, hq⟩ hw)
        have HV := Lib.hid hv
        have HW := Lib.hid hw
        have L := Lib.hid l
        clear hv hw l
        go_enter Try.func42, Try.ntmps42
        go_wp2_with (first
          | (go_at_call 74; refine (C.out).mono ?_; rw [HV.out]; rintro e w' ⟨rfl, rfl⟩; clear C)
          | (go_at_call 68; refine (l00In_yes _ _ _ (by omega) _).mono ?_; rintro e w' ⟨rfl, rfl⟩)
          | (go_at_call 82; refine (CS.out).mono ?_; rintro e w1 ⟨A1, n1, c1, rfl, ho, hb⟩; obtain rfl : n1 = n := by (have := ho.1; rw [tvs_length, List.length_map, L.out] at this; omega))
          | (go_at_call 74; refine (specAny_any _ _ _ (es.map (shT p q)) _ _ (Row.of_own2 ho) (by rw [List.length_map, L.out]) m).mono ?_; rw [HW.out]; rintro e w' ⟨rfl, rfl⟩))
        go_ret2
        exact RetT2.nil H.out hb
      · have H := Lib.hid (shiftR_yes hv ⟨hp, hq⟩ hw)
        have HV := Lib.hid hv
        have HW := Lib.hid hw
        have L := Lib.hid l
        clear hv hw l
        go_enter Try.func42, Try.ntmps42
        go_wp2_with (first
          | (go_at_call 74; refine (C.out).mono ?_; rw [HV.out]; rintro e w' ⟨rfl, rfl⟩; clear C)
          | (go_at_call 68; refine (l00In_yes _ _ _ (by omega) _).mono ?_; rintro e w' ⟨rfl, rfl⟩)
          | (go_at_call 82; refine (CS.out).mono ?_; rintro e w1 ⟨A1, n1, c1, rfl, ho, hb⟩; obtain rfl : n1 = n := by (have := ho.1; rw [tvs_length, List.length_map, L.out] at this; omega))
          | (go_at_call 74; refine (specAny_any _ _ _ (es.map (shT p q)) _ _ (Row.of_own2 ho) (by rw [List.length_map, L.out]) m).mono ?_; rw [HW.out]; rintro e w' ⟨rfl, rfl⟩))
        go_ret2
        exact RetT2.mk' H.out ho hb
    · have H := Lib.hid (shiftR_far (p := p) (q := q) hv (fun e => hq e.2))
      have HV := Lib.hid hv
      have hq' : q < -29 ∨ 29 < q := by omega
      clear hv l hq
      go_enter Try.func42, Try.ntmps42
      go_wp2_with (first
        | (go_at_call 74; refine (C.out).mono ?_; rw [HV.out]; rintro e w' ⟨rfl, rfl⟩)
        | (go_at_call 68; refine (l00In_yes _ _ _ (by omega) _).mono ?_; rintro e w' ⟨rfl, rfl⟩)
        | (go_at_call 68; refine (l00In_no _ _ _ (by omega) _).mono ?_; rintro e w' ⟨rfl, rfl⟩))
      go_ret2
      exact RetT2.nil H.out (Below.refl _ _)
  · have H := Lib.hid (shiftR_far (p := p) (q := q) hv (fun e => hp e.1))
    have HV := Lib.hid hv
    have hp' : p < 0 ∨ 29 < p := by omega
    clear hv l hp
    go_enter Try.func42, Try.ntmps42
    go_wp2_with (first
      | (go_at_call 74; refine (C.out).mono ?_; rw [HV.out]; rintro e w' ⟨rfl, rfl⟩)
      | (go_at_call 68; refine (l00In_no _ _ _ (by omega) _).mono ?_; rintro e w' ⟨rfl, rfl⟩))
    go_ret2
    exact RetT2.nil H.out (Below.refl _ _)
theorem all_snoc {p q : Int} {es : List Tm} {k : Nat} {t : Tm} (hx : es[k]? = some t) (ht : tmB 29 (shT p q t) = true) (h : ∀ u ∈ es.take k, tmB 29 (shT p q u) = true) : ∀ u ∈ es.take (k + 1), tmB 29 (shT p q u) = true := by
  rw [take_one _ _ _ hx]
  intro u hu
  rcases List.mem_append.1 hu with hu | hu
  · exact h u hu
  · rw [List.mem_singleton] at hu; subst hu; exact ht
set_option maxRecDepth 100000 in
set_option maxHeartbeats 2000000 in
theorem implShift_any (A : Option Addr) (n c : Nat) (es : List Tm) (p q : Int) (w : World) (B : Nat) (h : TRow w B A es) (hB : B ≤ w.heap.size) (l : es.length = n) (m : n ≤ 2000000) :
    Calls Try.prog 43 #[.slice A n c, .int .i64 p, .int .i64 q] w fun e w' => RetT2 w (shiftR es p q) e w' := by
  have C := Lib.hid (isEx_any A n c es w B h hB l m)
  have L := Lib.hid l
  clear l
  rcases hv : exB 29 60 es with _ | _
  · have H := Lib.hid (shiftR_bad (p := p) (q := q) hv)
    have HV := Lib.hid hv
    clear hv
    go_enter Try.func43, Try.ntmps43
    go_wp2_with (go_at_call 62; refine (C.out).mono ?_; rw [HV.out]; rintro e w1 ⟨rfl, hb⟩)
    go_ret2
    exact RetT2.nil H.out hb
  have HV := Lib.hid hv
  by_cases h1 : p < 0
  · have H := Lib.hid (shiftR_far (p := p) (q := q) hv (by omega))
    clear hv
    go_enter Try.func43, Try.ntmps43
    go_wp2_with (go_at_call 62; refine (C.out).mono ?_; rw [HV.out]; rintro e w1 ⟨rfl, hb⟩)
    go_ret2
    exact RetT2.nil H.out hb
  by_cases h2 : 29 < p
  · have H := Lib.hid (shiftR_far (p := p) (q := q) hv (by omega))
    clear hv
    go_enter Try.func43, Try.ntmps43
    go_wp2_with (go_at_call 62; refine (C.out).mono ?_; rw [HV.out]; rintro e w1 ⟨rfl, hb⟩)
    go_ret2
    exact RetT2.nil H.out hb
  by_cases h3 : q < -29
  · have H := Lib.hid (shiftR_far (p := p) (q := q) hv (by omega))
    clear hv
    go_enter Try.func43, Try.ntmps43
    go_wp2_with (go_at_call 62; refine (C.out).mono ?_; rw [HV.out]; rintro e w1 ⟨rfl, hb⟩)
    go_ret2
    exact RetT2.nil H.out hb
  by_cases h4 : 29 < q
  · have H := Lib.hid (shiftR_far (p := p) (q := q) hv (by omega))
    clear hv
    go_enter Try.func43, Try.ntmps43
    go_wp2_with (go_at_call 62; refine (C.out).mono ?_; rw [HV.out]; rintro e w1 ⟨rfl, hb⟩)
    go_ret2
    exact RetT2.nil H.out hb
  have HR : (0 ≤ p ∧ p ≤ 29) ∧ (-29 ≤ q ∧ q ≤ 29) := by omega
  have HR := Lib.hid HR
  have HS := Lib.hid (exB_small hv (by omega))
  clear hv
  go_enter Try.func43, Try.ntmps43
  go_wp2_with (first
    | (go_at_call 62; refine (C.out).mono ?_; rw [HV.out]; rintro e w1 ⟨rfl, hb⟩; have s1 := hb.size; have CC := Lib.hid (clone_any A n c es w1 B (h.below (hb.mono hB)) (by omega) L.out m); have HB1 := Lib.hid hb; clear hb)
    | (go_at_call 80; refine (CC.out).mono ?_; rintro e w2 ⟨A1, n1, c1, rfl, ho, hb2⟩; obtain rfl : n1 = n := by (have := ho.1; rw [tvs_length, L.out] at this; omega)))
  have ho0 := own_lower ho s1
  have hb0 := HB1.out.trans (hb2.mono s1)
  clear ho hb2 CC
  go_loopw [32] (fun i wr => ∃ k : Nat, k ≤ n1 ∧ i = .int .i64 k ∧ wr.ownsRow w.heap.size 77 2 (.slice A1 n1 c1) n1 (tvs (midF (shT p q) es k)) ∧ Below w.heap.size w wr ∧ Hid (∀ u ∈ es.take k, tmB 29 (shT p q u) = true)) (fun i _ => n1 - (intOf i).toNat)
  case atStart => exact ⟨0, Nat.zero_le _, rfl, by rw [midF_zero]; exact ho0, hb0, by rw [List.take_zero]; exact Lib.hid (by simp)⟩
  case round =>
    obtain ⟨k, hk, rfl, hown, hbel, HA⟩ := hrel
    clear ho0 hb0
    by_cases hlt : k < n1
    · obtain ⟨t, ht⟩ : ∃ t, es[k]? = some t := ⟨_, List.getElem?_eq_getElem (by rw [L.out]; exact hlt)⟩
      obtain ⟨g, rfl, hbg, hgs⟩ := own_at hown (by omega)
      have hm := midF_at (f := shT p q) ht
      have hx := (hown.cellAt (k * 2) (by omega)).trans (tvs_at hm).1
      have hy := (hown.cellAt (k * 2 + 1) (by omega)).trans (tvs_at hm).2
      have hf := hown.frozenAt (k * 2 + 1)
      obtain ⟨v0, v1, _, _⟩ := HS.out t (List.mem_of_getElem? ht)
      have hws := hbel.size
      have HT := Lib.hid ht
      have HM := Lib.hid hm
      have HO := Lib.hid hown
      have HB := Lib.hid hbel
      clear ht hm hown hbel
      have HBA : ∀ w2 : World, Below (wr.alloc (.cells #[.int .i64 t.k, .int .i64 t.v] 77)).heap.size (wr.alloc (.cells #[.int .i64 t.k, .int .i64 t.v] 77)) w2 → Below wr.heap.size wr w2 := fun w2 hb => ((Below.refl _ _).alloc (Nat.le_refl _) _).trans (hb.mono (by simp))
      have HBA := Lib.hid HBA
      by_cases h1 : t.k = 1
      · have h1' : (t.k == 1) = true := by simpa using h1
        by_cases h2 : p ≤ t.v
        · have HX := Lib.hid (shT_yes (p := p) (q := q) h1 h2)
          clear h1
          rcases hz : tmB 29 (shT p q t) with _ | _
          · have H := Lib.hid (shiftR_out HV.out HR.out (exB_some HT.out hz))
            have HZ := Lib.hid (show tmB 29 ⟨t.k, t.v + q⟩ = false by rw [← HX.out]; exact hz)
            clear hz
            go_wp2_with (go_at_call 70; refine (isTm_any t.k (t.v + q) 29 _).mono ?_; rw [HZ.out]; rintro e w2 ⟨rfl, b2⟩; have B2 := Lib.hid b2; clear b2)
            go_ret2
            refine RetT2.nil H.out (HB.out.trans ?_)
            refine Below.trans ?_ (B2.out.mono (by simp; omega))
            exact ((Below.refl _ _).setCell (p := ⟨g, k * 2 + 1, none⟩) hbg _).alloc (by simp; omega) _
          · have HN := Lib.hid (all_snoc HT.out hz HA.out)
            have HZ := Lib.hid (show tmB 29 ⟨t.k, t.v + q⟩ = true by rw [← HX.out]; exact hz)
            clear hz
            go_wp2_with (go_at_call 70; refine (isTm_any t.k (t.v + q) 29 _).mono ?_; rw [HZ.out]; rintro e w2 ⟨rfl, b2⟩; have B2 := Lib.hid b2; clear b2)
            go_roundw
            case rel => exact ⟨k + 1, by omega, by go_num, by
              have := (HO.out.stored (k * 2 + 1) (.int .i64 (t.v + q))).1
              rw [tvs_setv HM.out, ← HX.out, midF_succ HT.out] at this
              exact own_below' (this.alloc (.cells #[.int .i64 t.k, .int .i64 t.v] 77)) B2.out, (HB.out.trans (((Below.refl _ _).setCell (p := ⟨g, k * 2 + 1, none⟩) hbg _).alloc (by simp; omega) _)).trans (B2.out.mono (by simp; omega)), HN⟩
            case measure => simp [intOf]; omega
        · have HX := Lib.hid (shT_low (p := p) (q := q) h2)
          have HS2 := Lib.hid (midF_same HT.out HX.out)
          clear h1
          rcases hz : tmB 29 (shT p q t) with _ | _
          · have H := Lib.hid (shiftR_out HV.out HR.out (exB_some HT.out hz))
            have HZ := Lib.hid (show tmB 29 t = false by rw [← HX.out]; exact hz)
            clear hz
            go_wp2_with (go_at_call 70; refine (isTm_tm t 29 _).mono ?_; rw [HZ.out]; rintro e w2 ⟨rfl, b2⟩; have B2 := Lib.hid b2; clear b2)
            go_ret2
            exact RetT2.nil H.out (HB.out.trans ((HBA.out _ B2.out).mono hws))
          · have HN := Lib.hid (all_snoc HT.out hz HA.out)
            have HZ := Lib.hid (show tmB 29 t = true by rw [← HX.out]; exact hz)
            clear hz
            go_wp2_with (go_at_call 70; refine (isTm_tm t 29 _).mono ?_; rw [HZ.out]; rintro e w2 ⟨rfl, b2⟩; have B2 := Lib.hid b2; clear b2)
            go_roundw
            case rel => exact ⟨k + 1, by omega, by go_num, by rw [← HS2.out]; exact own_below' HO.out (HBA.out _ B2.out), HB.out.trans ((HBA.out _ B2.out).mono hws), HN⟩
            case measure => simp [intOf]; omega
      · have h1' : (t.k == 1) = false := by simpa using h1
        have HX := Lib.hid (shT_kind (p := p) (q := q) h1)
        have HS2 := Lib.hid (midF_same HT.out HX.out)
        clear h1
        rcases hz : tmB 29 (shT p q t) with _ | _
        · have H := Lib.hid (shiftR_out HV.out HR.out (exB_some HT.out hz))
          have HZ := Lib.hid (show tmB 29 t = false by rw [← HX.out]; exact hz)
          clear hz
          go_wp2_with (go_at_call 70; refine (isTm_tm t 29 _).mono ?_; rw [HZ.out]; rintro e w2 ⟨rfl, b2⟩; have B2 := Lib.hid b2; clear b2)
          go_ret2
          exact RetT2.nil H.out (HB.out.trans ((HBA.out _ B2.out).mono hws))
        · have HN := Lib.hid (all_snoc HT.out hz HA.out)
          have HZ := Lib.hid (show tmB 29 t = true by rw [← HX.out]; exact hz)
          clear hz
          go_wp2_with (go_at_call 70; refine (isTm_tm t 29 _).mono ?_; rw [HZ.out]; rintro e w2 ⟨rfl, b2⟩; have B2 := Lib.hid b2; clear b2)
          go_roundw
          case rel => exact ⟨k + 1, by omega, by go_num, by rw [← HS2.out]; exact own_below' HO.out (HBA.out _ B2.out), HB.out.trans ((HBA.out _ B2.out).mono hws), HN⟩
          case measure => simp [intOf]; omega
    · have H := Lib.hid (shiftR_yes HV.out HR.out (exB_all HV.out (by have := HA.out; rwa [List.take_of_length_le (by rw [L.out]; omega)] at this)))
      have HF := Lib.hid (midF_all (f := shT p q) (es := es) (k := k) (by rw [L.out]; omega))
      go_wp2
      go_ret2
      exact RetT2.mk' H.out (by rw [← HF.out]; exact hown) hbel
theorem shiftR_len (es : List Tm) (p q : Int) (h : es.length ≤ 2000000) : (shiftR es p q).1.length ≤ 2000000 := by
  unfold shiftR
  split
  · simp
  · split
    · simp
    · split
      · simp
      · rw [List.length_map]; exact h
end Go.Proofs.Ytfoopgnnhgdfaaa
