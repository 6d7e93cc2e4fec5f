/- The partition with given blocks, by the model. -/
import Derived.Test.YthnopigibjmgbaaProg
import Derived.WalkKit
import Derived.ProofKit
import Derived.BigQuiet
import Derived.Outline
import Derived.IntWalk
import Derived.StillTailTactics
import Derived.Maps.OwnSet
import Derived.Maps.OwnOps
import Derived.Test.YthnopigibjmgbaaMem
import Derived.Test.YthnopigibjmgbaaOwn
import Derived.Test.YthnopigibjmgbaaTurn
import Derived.Test.YthnopigibjmgbaaLawI
import Derived.Test.YthnopigibjmgbaaLawI2
import Derived.Test.YthnopigibjmgbaaLawII
import Derived.Test.YthnopigibjmgbaaPartM
import Derived.Test.YthnopigibjmgbaaPart
import Derived.Test.YthnopigibjmgbaaPart2
import Derived.Test.YthnopigibjmgbaaPart3
import Derived.Test.YthnopigibjmgbaaRelM
import Derived.Test.YthnopigibjmgbaaRel
import Derived.Test.YthnopigibjmgbaaForM
import Derived.Test.YthnopigibjmgbaaFor
import Derived.Test.YthnopigibjmgbaaFor2
import Derived.Test.YthnopigibjmgbaaFromM
import Derived.Test.YthnopigibjmgbaaFrom
namespace Go.Proofs.Ythnopigibjmgbaa
open Go.RowKit Go.Maps
set_option maxHeartbeats 1000000 in
theorem l00Has_any (A : Option Addr) (n c : Nat) (x : Int) (xs : List Int) (w : World) (B : Nat) (h : IRow w B A xs) (l : xs.length = n) (m : n ≤ 2000000) :
    Calls Try.prog 76 #[.slice A n c, .int .i64 x] w fun e w' => e = .returned (.bool (decide (x ∈ xs))) ∧ w = w' := by
  have L := Lib.hid l
  clear l
  go_enter Try.func76, Try.ntmps76
  go_wp2
  go_loop [5] (fun i => ∃ k : Nat, k ≤ n ∧ i = .int .i64 k ∧ Hid (∀ j u, j < k → xs[j]? = some u → u ≠ x)) (fun i => n - (intOf i).toNat)
  case atStart => exact ⟨0, Nat.zero_le _, rfl, Lib.hid fun j u hj => by omega⟩
  case round =>
    obtain ⟨k, hk, rfl, HE⟩ := hrel
    by_cases hlt : k < n
    · obtain ⟨b, o, u, rfl, hb, hc, hu⟩ := h.at_ (k := k) (by rw [L.out]; exact hlt)
      by_cases he : u = x
      · have hbe : (u == x) = true := by simp [he]
        have HR := Lib.hid (show decide (x ∈ xs) = true from decide_eq_true (by rw [← he]; exact List.mem_of_getElem? hu.out))
        clear he
        go_wp2
        go_ret
        exact ⟨ret_bool HR.out.symm, rfl⟩
      · have hbe : (u == x) = false := by simp [he]
        have HN := Lib.hid (show ∀ j v, j < k + 1 → xs[j]? = some v → v ≠ x from fun j v hj hv => by
          by_cases e : j = k
          · subst e; have := hu.out.symm.trans hv; injection this with this; subst this; exact he
          · exact HE.out j v (by omega) hv)
        clear he HE
        go_wp2
        go_round
        case rel => exact ⟨k + 1, by omega, by go_num, HN⟩
        case measure => simp [intOf]; omega
    · have HR := Lib.hid (show decide (x ∈ xs) = false from decide_eq_false fun hm => by
        obtain ⟨i, hi⟩ := List.getElem?_of_mem hm
        exact HE.out i x (by have := (List.getElem?_eq_some_iff.1 hi).1; rw [L.out] at this; omega) hi rfl)
      clear HE
      go_wp2
      go_ret
      exact ⟨ret_bool HR.out.symm, rfl⟩
theorem rep_length (n : Nat) (x : Int) : (List.replicate n x).length = n := by simp
theorem rep_at {n i : Nat} {x : Int} (h : i < n) : (List.replicate n x)[i]? = some x := by rw [List.getElem?_replicate, if_pos h]
theorem mem_markL {f : OwnF} {n : Nat} : -1 ∈ markL f n ↔ ¬ allOwned f n := by
  constructor
  · intro h ha
    rw [markL_keys ha] at h
    simp only [keysL, List.mem_map, List.mem_range] at h
    obtain ⟨i, _, e⟩ := h
    omega
  · intro h
    obtain ⟨i, hi⟩ := Classical.not_forall.1 h
    obtain ⟨hi, hf⟩ := Classical.not_imp.1 hi
    exact List.mem_of_getElem? (markL_none hi (Classical.not_not.1 hf))
set_option maxHeartbeats 8000000 in
set_option maxRecDepth 100000 in
theorem specFrom_any (nn : Int) (A : Option Addr) (len c : Nat) (r : List (List Int)) (w : World) (B : Nat) (h : RRow w B A r) (hB : B ≤ w.heap.size) (l : r.length = len) (m : len ≤ 2000000) (m2 : ∀ xs ∈ r, xs.length ≤ 2000000) :
    Calls Try.prog 39 #[.int .i64 nn, .slice A len c] w fun e w' => RetI2 w (fromL nn r) e w' := by
  have L := Lib.hid l
  have M2 := Lib.hid m2
  clear l m2
  go_enter Try.func39, Try.ntmps39
  go_wp2
  go_loop [6] (fun i => ∃ k : Nat, k ≤ len ∧ i = .int .i64 k ∧ Hid (∀ j xs, j < k → r[j]? = some xs → xs.length ≠ 0)) (fun i => len - (intOf i).toNat)
  case atStart => exact ⟨0, Nat.zero_le _, rfl, Lib.hid fun j xs hj => by omega⟩
  case round =>
    obtain ⟨k, hk, rfl, HE⟩ := hrel
    by_cases hlt : k < len
    · obtain ⟨b, o, A', c', xs, rfl, hb, hc, hr, hx⟩ := h.at_ (k := k) (by rw [L.out]; exact hlt)
      have hxl := M2.out xs (List.mem_of_getElem? hx.out)
      by_cases h0 : xs.length = 0
      · have hb0 : ((xs.length : Int) == 0) = true := by simp [h0]
        have HI := Lib.hid (from_empty (n := nn) hx.out h0)
        clear h0
        go_wp2
        go_ret2
        exact RetI2.nil HI.out (Below.refl _ _)
      · have hb0 : ((xs.length : Int) == 0) = false := beq_eq_false_iff_ne.2 (by omega)
        have HN := Lib.hid (show ∀ j ys, j < k + 1 → r[j]? = some ys → ys.length ≠ 0 from fun j ys hj hy => by
          by_cases e : j = k
          · subst e; have := hx.out.symm.trans hy; injection this with this; subst this; exact h0
          · exact HE.out j ys (by omega) hy)
        clear h0 HE
        go_wp2
        go_round
        case rel => exact ⟨k + 1, by omega, by go_num, HN⟩
        case measure => simp [intOf]; omega
    · have NE := Lib.hid (noEmpty_all (r := r) fun i xs hi => HE.out i xs (by have := (List.getElem?_eq_some_iff.1 hi).1; rw [L.out] at this; omega) hi)
      clear HE
      by_cases hnn : nn < 1 ∨ 40 < nn
      · have HI := Lib.hid (from_range (n := nn) NE.out (fun hh => by have := hh.1; have := hh.2.1; omega))
        go_wp2_with (go_at_call 75; refine (in_no _ _ _ _ hnn).mono ?_; rintro e w' ⟨rfl, rfl⟩)
        go_ret2
        exact RetI2.nil HI.out (Below.refl _ _)
      have h1 : 1 ≤ nn := by omega
      have h2 : nn ≤ 40 := by omega
      clear hnn
      obtain ⟨n, rfl⟩ : ∃ n : Nat, nn = n := ⟨nn.toNat, by omega⟩
      go_wp2_with (go_at_call 75; refine (in_yes _ _ _ _ h1 h2).mono ?_; rintro e w' ⟨rfl, rfl⟩)
      go_loop [7] (fun i => ∃ k : Nat, k ≤ len ∧ i = .int .i64 k ∧ Hid (∀ j xs, j < k → r[j]? = some xs → ∀ x ∈ xs, 0 ≤ x ∧ x < (n : Int))) (fun i => len - (intOf i).toNat)
      case atStart => exact ⟨0, Nat.zero_le _, rfl, Lib.hid fun j xs hj => by omega⟩
      case round =>
        obtain ⟨k, hk, rfl, HE⟩ := hrel
        by_cases hlt : k < len
        · obtain ⟨b, o, A', c', xs, rfl, hb, hc, hr, hx⟩ := h.at_ (k := k) (by rw [L.out]; exact hlt)
          have hxl := M2.out xs (List.mem_of_getElem? hx.out)
          go_wp2
          go_loop [8] (fun i => ∃ q : Nat, q ≤ xs.length ∧ i = .int .i64 q ∧ Hid (∀ j x, j < q → xs[j]? = some x → 0 ≤ x ∧ x < (n : Int))) (fun i => xs.length - (intOf i).toNat)
          case atStart => exact ⟨0, Nat.zero_le _, rfl, Lib.hid fun j x hj => by omega⟩
          case round =>
            obtain ⟨q, hq, rfl, HQ⟩ := hrel
            by_cases hlt2 : q < xs.length
            · obtain ⟨b1, o1, u, rfl, hb1, hc1, hu⟩ := hr.at_ (k := q) hlt2
              by_cases hun : 0 ≤ u ∧ u ≤ (n : Int) - 1
              · obtain ⟨hu1, hu2⟩ := hun
                have HN := Lib.hid (show ∀ j x, j < q + 1 → xs[j]? = some x → 0 ≤ x ∧ x < (n : Int) from fun j x hj hx' => by
                  by_cases e : j = q
                  · subst e; have := hu.out.symm.trans hx'; injection this with this; subst this; omega
                  · exact HQ.out j x (by omega) hx')
                clear HQ
                go_wp2_with (go_at_call 75; refine (in_yes _ _ _ _ hu1 hu2).mono ?_; rintro e w' ⟨rfl, rfl⟩)
                go_round
                case rel => exact ⟨q + 1, by omega, by go_num, HN⟩
                case measure => simp [intOf]; omega
              · have HI := Lib.hid (from_range (n := (n : Int)) NE.out (fun hh => onlyP_not (n := (n : Int)) hx.out hu.out (by omega) hh.2.2))
                have hun' : u < 0 ∨ (n : Int) - 1 < u := by omega
                clear HQ hun
                go_wp2_with (go_at_call 75; refine (in_no _ _ _ _ hun').mono ?_; rintro e w' ⟨rfl, rfl⟩)
                go_ret2
                exact RetI2.nil HI.out (Below.refl _ _)
            · have HN := Lib.hid (show ∀ j ys, j < k + 1 → r[j]? = some ys → ∀ x ∈ ys, 0 ≤ x ∧ x < (n : Int) from fun j ys hj hy x hxm => by
                by_cases e : j = k
                · subst e; have := hx.out.symm.trans hy; injection this with this; subst this
                  obtain ⟨i, hi⟩ := List.getElem?_of_mem hxm
                  have := (List.getElem?_eq_some_iff.1 hi).1
                  exact HQ.out i x (by omega) hi
                · exact HE.out j ys (by omega) hy x hxm)
              clear HQ HE
              go_wp2
              go_round
              case rel => exact ⟨k + 1, by omega, by go_num, HN⟩
              case measure => simp [intOf]; omega
        · have ONLY := Lib.hid (onlyP_all (n := (n : Int)) (r := r) fun i xs hi => HE.out i xs (by have := (List.getElem?_eq_some_iff.1 hi).1; rw [L.out] at this; omega) hi)
          have HR3 := Lib.hid (show 1 ≤ (n : Int) ∧ (n : Int) ≤ 40 ∧ onlyP n r from ⟨h1, h2, ONLY.out⟩)
          obtain ⟨i0, hi, hz0, hz1, hz2⟩ := info_parts info_i64
          clear HE
          go_wp2_with (at_make; refine wpList_make_full _ rfl _ _ _ rfl w.heap.size 2 i0 (.int .i64 0) 1 Try.underlying30 hi hz0 hz1 .i64 .i64 _ _ n rfl rfl rfl rfl (by rw [hz2]; omega) (by unfold maxLen; omega) (Nat.le_refl _) ?_; intro w1 hown1 hg1)
          have H0 := Lib.hid (zeros_of hown1 (List.replicate n (-1)))
          have hb1 : Below w.heap.size w w1 := (Below.refl _ _).grown hg1 (Nat.le_refl _) (by simp)
          have HNL := Lib.hid (rep_length n (-1))
          clear hown1 hg1 hi hz0 hz1 hz2
          go_loopw [10] (fun i wr => ∃ t : Nat, t ≤ n ∧ i = .int .i64 t ∧ Below w.heap.size w wr ∧ wr.ownsRow w.heap.size 2 1 (.slice (some ⟨w.heap.size, 0, none⟩) n n) n (((List.replicate n (-1 : Int)).map (Value.int .i64)).take t ++ List.replicate (n - t) (.int .i64 0))) (fun i _ => n - (intOf i).toNat)
          case atStart => exact ⟨0, Nat.zero_le _, rfl, hb1, H0.out⟩
          case round =>
            obtain ⟨t, ht, rfl, hb, hown⟩ := hrel
            clear H0 hb1
            by_cases hlt3 : t < n
            · obtain ⟨⟨old, hx⟩, hf⟩ := own_old hown hlt3
              have HO := Lib.hid hown
              have HB := Lib.hid hb
              have HU := Lib.hid (rep_at (x := (-1 : Int)) hlt3)
              clear hown hb
              go_wp2
              go_roundw
              case rel => exact ⟨t + 1, by omega, by go_num, HB.out.setCell (Nat.le_refl _) _, by
                have := (HO.out.stored t (.int .i64 (-1))).1
                rwa [upd_take _ _ _ _ _ (by rw [List.length_map]; exact HNL.out) (by rw [List.getElem?_map, HU.out]; rfl)] at this⟩
              case measure => simp [intOf]; omega
            · obtain rfl : t = n := by omega
              have HO := Lib.hid (show wr.ownsRow w.heap.size 2 1 (.slice (some ⟨w.heap.size, 0, none⟩) t t) t ((markL (fun _ => none) t).map (Value.int .i64)) from by rw [markL_new]; simpa [List.take_of_length_le, HNL.out] using hown)
              clear hown
              obtain ⟨wz, rfl⟩ : ∃ wz : World, wz = wr := ⟨_, rfl⟩
              go_wp2
              go_loopw [11] (fun i wr => ∃ (k : Nat) (f : OwnF), k ≤ len ∧ i = .int .i64 k ∧ Hid (allP r k = some f) ∧ Below w.heap.size w wr ∧ wr.ownsRow w.heap.size 2 1 (.slice (some ⟨w.heap.size, 0, none⟩) t t) t ((markL f t).map (Value.int .i64))) (fun i _ => len - (intOf i).toNat)
              case atStart => exact ⟨0, _, Nat.zero_le _, rfl, Lib.hid rfl, hb, HO.out⟩
              case round =>
                obtain ⟨k, f, hk, rfl, HP, hb, hown⟩ := hrel
                clear HO
                obtain ⟨wo, rfl⟩ : ∃ wo : World, wo = wr := ⟨_, rfl⟩
                by_cases hlt : k < len
                · obtain ⟨b, o, A', c', xs, rfl, hbB, hc0, hr, hx⟩ := h.at_ (k := k) (by rw [L.out]; exact hlt)
                  have hxl := M2.out xs (List.mem_of_getElem? hx.out)
                  have HO := Lib.hid hown
                  clear hown
                  go_wp2
                  go_loopw [12] (fun i wr => ∃ (q : Nat) (f : OwnF), q ≤ xs.length ∧ i = .int .i64 q ∧ Hid (partP r k q = some f) ∧ Below w.heap.size w wr ∧ wr.ownsRow w.heap.size 2 1 (.slice (some ⟨w.heap.size, 0, none⟩) t t) t ((markL f t).map (Value.int .i64))) (fun i _ => xs.length - (intOf i).toNat)
                  case atStart => exact ⟨0, f, Nat.zero_le _, rfl, HP, hb, HO.out⟩
                  case round =>
                    clear HO HP hb
                    obtain ⟨q, f, hq, rfl, HP, hb, hown⟩ := hrel
                    have hc := hb.cell (p := ⟨b, o + k, none⟩) (show b < w.heap.size by omega)
                    rw [hc0] at hc
                    by_cases hlt2 : q < xs.length
                    · obtain ⟨b1, o1, u, rfl, hb1, hcu, hu⟩ := (hr.below (hb.mono hB)).at_ (k := q) hlt2
                      have hun := ONLY.out xs (List.mem_of_getElem? hx.out) u (List.mem_of_getElem? hu.out)
                      obtain ⟨v, rfl⟩ : ∃ v : Nat, u = v := ⟨u.toNat, by omega⟩
                      have hvn : v < t := by omega
                      obtain ⟨_, hfz⟩ := own_old hown hvn
                      have HO := Lib.hid hown
                      have HB := Lib.hid hb
                      rcases hf : f ((v : Nat) : Int) with _ | cblk
                      · have hcm := own_cell hown (markL_none hvn hf)
                        have HF := Lib.hid hf
                        clear hf hown hb hun
                        go_wp2
                        go_roundw
                        case rel => exact ⟨q + 1, putF f v k, by omega, by go_num, Lib.hid (by rw [partP_next hx.out hu.out, HP.out, stepP_free HF.out]), HB.out.setCell (Nat.le_refl _) _, by rw [← markL_put hvn]; exact own_set HO.out v k⟩
                        case measure => simp [intOf]; omega
                      · have hcm := own_cell hown (markL_some hvn hf)
                        have HI := Lib.hid (from_exists (n := (t : Int)) NE.out HR3.out (partP_dead hx.out hu.out HP.out hf))
                        clear hf hown hb hun
                        go_wp2
                        go_ret2
                        exact RetI2.nil HI.out HB.out
                    · obtain rfl : q = xs.length := by omega
                      have HP2 := Lib.hid (show allP r (k + 1) = some f from by rw [← partP_all hx.out (Nat.le_refl _)]; exact HP.out)
                      have HO := Lib.hid hown
                      clear hown HP
                      go_wp2
                      go_roundw
                      case rel => exact ⟨k + 1, f, by omega, by go_num, HP2, hb, HO.out⟩
                      case measure => simp [intOf]; omega
                · obtain rfl : k = len := by omega
                  have HP2 := Lib.hid (show allP r r.length = some f from by rw [L.out]; exact HP.out)
                  have HML := Lib.hid (markL_length f t)
                  have CH := Lib.hid (l00Has_any (some ⟨w.heap.size, 0, none⟩) t t (-1) (markL f t) wo wo.heap.size (Row.of_own hown) HML.out (by omega))
                  have HO := Lib.hid hown
                  have HB := Lib.hid hb
                  have hsz := hb.size
                  clear hown hb HP
                  by_cases ha : allOwned f t
                  · have HI := Lib.hid (from_ok NE.out HR3.out HP2.out ha)
                    have HD := Lib.hid (show decide ((-1 : Int) ∈ markL f t) = false from decide_eq_false fun hm => mem_markL.1 hm ha)
                    have HK := Lib.hid (markL_keys ha)
                    have C := Lib.hid (l02Norm_any (some ⟨w.heap.size, 0, none⟩) t t (markL f t) wo wo.heap.size (Row.of_own HO.out) (Nat.le_refl _) HML.out (by omega))
                    clear ha
                    go_wp2_with (first
                      | (go_at_call 76; refine (CH.out).mono ?_; rw [HD.out]; rintro e w' ⟨rfl, rfl⟩)
                      | (go_at_call 70; refine (C.out).mono ?_; rintro e w3 ⟨rfl, ho, hb3⟩; have HO3 := Lib.hid ho; have HB3 := Lib.hid hb3; clear ho hb3))
                    go_ret2
                    exact RetI2.mk' (HI.out.trans (by rw [HK.out])) (own_base' HO3.out hsz) (HB.out.trans (HB3.out.mono hsz))
                  · have HD := Lib.hid (show decide ((-1 : Int) ∈ markL f t) = true from decide_eq_true (mem_markL.2 ha))
                    have HI := Lib.hid (show fromL (t : Int) r = ([], 3) from by
                      obtain ⟨i, hi⟩ := Classical.not_forall.1 ha
                      obtain ⟨hi, hf⟩ := Classical.not_imp.1 hi
                      exact from_missing NE.out HR3.out HP2.out hi (Classical.not_not.1 hf))
                    clear ha
                    go_wp2_with (go_at_call 76; refine (CH.out).mono ?_; rw [HD.out]; rintro e w' ⟨rfl, rfl⟩)
                    go_ret2
                    exact RetI2.nil HI.out HB.out
end Go.Proofs.Ythnopigibjmgbaa
