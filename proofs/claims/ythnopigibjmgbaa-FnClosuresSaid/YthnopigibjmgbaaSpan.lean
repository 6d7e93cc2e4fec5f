/- The partition that a relation spans: the model's and the program's functions. -/
import Derived.Test.YthnopigibjmgbaaProg
import Derived.WalkKit
import Derived.ProofKit
import Derived.BigQuiet
import Derived.Outline
import Derived.IntWalk
import Derived.StillTailTactics
import Derived.Test.YthnopigibjmgbaaMem
import Derived.Test.YthnopigibjmgbaaOwn
import Derived.Test.YthnopigibjmgbaaTurn
import Derived.Test.YthnopigibjmgbaaLawI
import Derived.Test.YthnopigibjmgbaaLawI2
import Derived.Test.YthnopigibjmgbaaLawII
import Derived.Test.YthnopigibjmgbaaPartM
import Derived.Test.YthnopigibjmgbaaPart
import Derived.Test.YthnopigibjmgbaaPart2
import Derived.Test.YthnopigibjmgbaaPart3
import Derived.Test.YthnopigibjmgbaaRelM
import Derived.Test.YthnopigibjmgbaaRowsM
import Derived.Test.YthnopigibjmgbaaRows3
import Derived.Test.YthnopigibjmgbaaRel
import Derived.Test.YthnopigibjmgbaaRelF
import Derived.Test.YthnopigibjmgbaaForM
import Derived.Test.YthnopigibjmgbaaFor
import Derived.Test.YthnopigibjmgbaaFor2
namespace Go.Proofs.Ythnopigibjmgbaa
open Go.RowKit
theorem mid_at {xs ys : List Int} {n k : Nat} {u : Int} (hx : xs.length = n) (hy : ys.length = n) (h : xs[k]? = some u) : (ys.take k ++ xs.drop k)[k]? = some u := by
  have hk := (List.getElem?_eq_some_iff.1 h).1
  rw [List.getElem?_append_right (by rw [List.length_take]; omega), List.length_take, Nat.min_eq_left (by omega), Nat.sub_self, List.getElem?_drop, Nat.add_zero, h]
theorem mid_same {xs ys : List Int} {k : Nat} {u : Int} (hx : xs[k]? = some u) (hy : ys[k]? = some u) : ys.take k ++ xs.drop k = ys.take (k + 1) ++ xs.drop (k + 1) := by
  rw [take_one _ _ _ hy, drop_one _ _ _ hx]; simp
theorem mid_set {xs ys : List Int} {n k : Nat} {u : Int} (hx : xs.length = n) (hy : ys.length = n) (h : ys[k]? = some u) : (ys.take k ++ xs.drop k).set k u = ys.take (k + 1) ++ xs.drop (k + 1) := by
  have hk := (List.getElem?_eq_some_iff.1 h).1
  have hl : (ys.take k).length = k := by rw [List.length_take]; omega
  have hd : xs.drop k = xs[k] :: xs.drop (k + 1) := List.drop_eq_getElem_cons (by omega)
  rw [hd, List.set_append_right _ _ (by omega), hl, Nat.sub_self, List.set_cons_zero, take_one _ _ _ h]; simp
set_option maxHeartbeats 2000000 in
set_option maxRecDepth 100000 in
theorem l02Merge_any (lo g n c a b : Nat) (xs : List Int) (xa xb : Int) (w : World) (h : w.ownsRow lo 2 1 (.slice (some ⟨g, 0, none⟩) n c) n (xs.map (Value.int .i64))) (ha : Hid (xs[a]? = some xa)) (hb : Hid (xs[b]? = some xb)) (hn : n ≤ 2000000) :
    Calls Try.prog 83 #[.slice (some ⟨g, 0, none⟩) n c, .int .i64 a, .int .i64 b] w fun e w' => e = .returned (.tuple #[]) ∧ w'.ownsRow lo 2 1 (.slice (some ⟨g, 0, none⟩) n c) n ((mergeL xs xb xa).map (Value.int .i64)) ∧ w.grownBy w' (some g) := by
  have L := Lib.hid (show xs.length = n by have := h.1; simpa using this)
  have L2 := Lib.hid (show (mergeL xs xb xa).length = n by rw [mergeL_length]; exact L.out)
  have hal : a < n := by have := (List.getElem?_eq_some_iff.1 ha.out).1; rw [L.out] at this; exact this
  have hbl : b < n := by have := (List.getElem?_eq_some_iff.1 hb.out).1; rw [L.out] at this; exact this
  have hca := own_cell h ha.out
  have hcb := own_cell h hb.out
  have H0 := Lib.hid (show w.ownsRow lo 2 1 (.slice (some ⟨g, 0, none⟩) n c) n (((mergeL xs xb xa).take 0 ++ xs.drop 0).map (Value.int .i64)) from by simpa using h)
  clear h
  go_enter Try.func83, Try.ntmps83
  go_wp2
  go_loopw [8] (fun i wr => ∃ k : Nat, k ≤ n ∧ i = .int .i64 k ∧ wr.ownsRow lo 2 1 (.slice (some ⟨g, 0, none⟩) n c) n (((mergeL xs xb xa).take k ++ xs.drop k).map (Value.int .i64)) ∧ w.grownBy wr (some g)) (fun i _ => n - (intOf i).toNat)
  case atStart => exact ⟨0, Nat.zero_le _, rfl, H0.out, World.grownBy.refl _ _⟩
  case round =>
    obtain ⟨k, hk, rfl, hown, hg⟩ := hrel
    clear H0
    by_cases hlt : k < n
    · obtain ⟨u, hu⟩ : ∃ u, xs[k]? = some u := ⟨_, List.getElem?_eq_getElem (by rw [L.out]; exact hlt)⟩
      have hck := own_cell hown (mid_at L.out L2.out hu)
      have hf := hown.frozenAt k
      have HO := Lib.hid hown
      have HG := Lib.hid hg
      have HM := Lib.hid (mergeL_at (frm := xb) (to := xa) hu)
      have HU := Lib.hid hu
      clear hown hg hu
      by_cases he : u = xb
      · have hbe : (u == xb) = true := by simp [he]
        have HS := Lib.hid (mid_set L.out L2.out (HM.out.trans (by rw [if_pos he])))
        clear he
        go_wp2
        go_roundw
        case rel => exact ⟨k + 1, by omega, by go_num, by rw [← HS.out]; exact own_set HO.out k xa, grown_trans HG.out (HO.out.stored k _).2⟩
        case measure => simp [intOf]; omega
      · have hbe : (u == xb) = false := by simp [he]
        have HS := Lib.hid (mid_same HU.out (HM.out.trans (by rw [if_neg he])))
        clear he
        go_wp2
        go_roundw
        case rel => exact ⟨k + 1, by omega, by go_num, by rw [← HS.out]; exact HO.out, HG.out⟩
        case measure => simp [intOf]; omega
    · obtain rfl : k = n := by omega
      have HO := Lib.hid (show wr.ownsRow lo 2 1 (.slice (some ⟨g, 0, none⟩) k c) k ((mergeL xs xb xa).map (Value.int .i64)) from by
        rw [List.take_of_length_le (by rw [L2.out]; exact Nat.le_refl _), List.drop_eq_nil_of_le (by rw [L.out]; exact Nat.le_refl _), List.append_nil] at hown; exact hown)
      clear hown
      go_wp2
      exact bodyPost_end (results_none rfl _ _ _) rfl ⟨rfl, HO.out, hg⟩
/-- The classes that the first pairs of a relation make. -/
def spanStep (R : Nat → Nat) (xs : List Int) : Nat → Nat := uniR R (xs.getD 0 0).toNat (xs.getD 1 0).toNat
def spanTo (r : List (List Int)) (k : Nat) : Nat → Nat := (r.take k).foldl spanStep fun i => i
theorem spanTo_next {r : List (List Int)} {k a b : Nat} (h : r[k]? = some [(a : Int), (b : Int)]) : spanTo r (k + 1) = uniR (spanTo r k) a b := by
  rw [spanTo, take_one _ _ _ h, List.foldl_append]; rfl
theorem spanTo_all (r : List (List Int)) {k : Nat} (h : r.length ≤ k) : spanTo r k = spanTo r r.length := by
  rw [spanTo, spanTo, List.take_of_length_le h, List.take_of_length_le (Nat.le_refl _)]
noncomputable def spanL (n : Int) (r : List (List Int)) : List Int × Int := if relB n r = true then (normL (rootsL n.toNat (spanTo r r.length)), 0) else ([], 1)
theorem spanL_yes {n : Nat} {r : List (List Int)} (h : relB n r = true) : spanL n r = (normL (rootsL n (spanTo r r.length)), 0) := by unfold spanL; rw [if_pos h]; rfl
theorem spanL_no {n : Int} {r : List (List Int)} (h : relB n r = false) : spanL n r = ([], 1) := by unfold spanL; rw [if_neg (by rw [h]; simp)]
theorem spanL_len (n : Int) (r : List (List Int)) : (spanL n r).1.length ≤ 2000000 := by
  rcases h : relB n r with _ | _
  · rw [spanL_no h]; simp
  · unfold spanL; rw [if_pos h]; show (normL _).length ≤ _; rw [normL_length, rootsL_length]; have := rel_small h; omega
set_option maxHeartbeats 4000000 in
set_option maxRecDepth 100000 in
theorem implSpan_any (nn : Int) (A : Option Addr) (len c : Nat) (r : List (List Int)) (w : World) (B : Nat) (h : RRow w B A r) (hB : B ≤ w.heap.size) (l : r.length = len) (m : len ≤ 2000000) (m2 : ∀ xs ∈ r, xs.length ≤ 2000000) :
    Calls Try.prog 22 #[.int .i64 nn, .slice A len c] w fun e w' => RetI2 w (spanL nn r) e w' := by
  have C := Lib.hid (implRel_any nn A len c r w B h l m m2)
  rcases hr : relB nn r with _ | _
  · have HR := Lib.hid hr
    have HI := Lib.hid (spanL_no hr)
    clear l m2 hr
    go_enter Try.func22, Try.ntmps22
    go_wp2_with (go_at_call 51; refine (C.out).mono ?_; rw [HR.out]; rintro e w1 ⟨rfl, hD⟩)
    go_ret2
    exact RetI2.nil HI.out (hD.below _)
  · obtain ⟨n, rfl, hn1, hn⟩ := rel_nat hr
    have HI := Lib.hid (spanL_yes hr)
    have HR := Lib.hid hr
    have L := Lib.hid l
    clear l m2 hr hn1
    go_enter Try.func22, Try.ntmps22
    go_wp2_with fail
    refine (C.out).mono ?_; rw [HR.out]; rintro e w0 ⟨rfl, hD0⟩
    have hb0 := hD0.below w.heap.size
    have hs0 := hb0.size
    have hr0 := h.below (hb0.mono hB)
    clear hD0 C
    go_wp2_with fail
    refine (newForest_any n w0 (by omega)).mono ?_; rintro e w1 ⟨fb, rfl, hF, hb1⟩
    have F0 := Lib.hid hF
    clear hF
    go_wp2
    go_loopw [17] (fun i wr => ∃ k : Nat, k ≤ len ∧ i = .int .i64 k ∧ Hid (∃ d, Forest wr w0.heap.size n fb w0.heap.size (spanTo r k) d) ∧ Below w0.heap.size w0 wr) (fun i _ => len - (intOf i).toNat)
    case atStart => exact ⟨0, Nat.zero_le _, rfl, Lib.hid ⟨_, F0.out⟩, hb1⟩
    case round =>
      obtain ⟨k, hk, rfl, HV, hb⟩ := hrel
      clear F0 hb1
      by_cases hlt : k < len
      · obtain ⟨b, o, b2, o2, c', u, v, rfl, hbB, hc, hb2, hcu, hcv, hu, hv, hx⟩ := pair_at (hr0.below (hb.mono (by omega))) HR.out (k := k) (by rw [L.out]; exact hlt)
        obtain ⟨d, hF⟩ := HV.out
        have C := Lib.hid (unite_any w0.heap.size n fb w0.heap.size (spanTo r k) d u v wr.drew (hF.drawn (Drawn.refl _).drew) (by omega) (by omega) (by omega))
        have hcu2 : wr.drew.cell? ⟨b2, o2, none⟩ = some (.int .i64 (u : Int)) := hcu
        have hcv2 : wr.drew.cell? ⟨b2, o2 + 1, none⟩ = some (.int .i64 (v : Int)) := hcv
        have HB := Lib.hid hb
        clear hb HV hF
        go_wp2
        go_still_tail 7, (by kernel_rfl)
        change wpList _ _ _ _ _ wr.drew
        go_wp2_with (go_at_call 64; refine (C.out).mono ?_; rintro e w' ⟨rfl, hw, hg⟩; have HW := Lib.hid hw; have HG := Lib.hid hg; clear hw hg)
        go_roundw
        case rel => exact ⟨k + 1, by omega, by go_num, Lib.hid (by rw [spanTo_next hx.out]; exact HW.out), (HB.out.trans (below_drewN _ _ 1)).grown HG.out HB.out.size (fun g e => by cases e; exact Nat.le_refl _)⟩
        case measure => simp [intOf]; omega
      · obtain ⟨d, hF⟩ := HV.out
        rw [spanTo_all r (show r.length ≤ k by rw [L.out]; omega)] at hF
        have HB := Lib.hid hb
        have C2 := Lib.hid (partition_any w0.heap.size n fb w0.heap.size _ d wr hF (by omega) hb.size)
        clear HV hb hF
        go_wp2_with (go_at_call 65; refine (C2.out).mono ?_; rintro e w3 ⟨A3, c3, rfl, ho, hb3⟩; have HO := Lib.hid ho; have HB3 := Lib.hid hb3; clear ho hb3)
        go_ret2
        exact RetI2.mk' HI.out (own_base' HO.out (by have := HB.out.size; omega)) (hb0.trans ((HB.out.trans HB3.out).mono hs0))
set_option maxHeartbeats 4000000 in
set_option maxRecDepth 100000 in
theorem specSpan_any (nn : Int) (A : Option Addr) (len c : Nat) (r : List (List Int)) (w : World) (B : Nat) (h : RRow w B A r) (hB : B ≤ w.heap.size) (l : r.length = len) (m : len ≤ 2000000) (m2 : ∀ xs ∈ r, xs.length ≤ 2000000) :
    Calls Try.prog 55 #[.int .i64 nn, .slice A len c] w fun e w' => RetI2 w (spanL nn r) e w' := by
  have C := Lib.hid (l02Relation_any nn A len c r w B h l m m2)
  rcases hr : relB nn r with _ | _
  · have HR := Lib.hid hr
    have HI := Lib.hid (spanL_no hr)
    clear l m2 hr
    go_enter Try.func55, Try.ntmps55
    go_wp2_with (go_at_call 86; refine (C.out).mono ?_; rw [HR.out]; rintro e w1 ⟨rfl, hD⟩)
    go_ret2
    exact RetI2.nil HI.out (hD.below _)
  · obtain ⟨n, rfl, hn1, hn⟩ := rel_nat hr
    have HI := Lib.hid (spanL_yes hr)
    have HR := Lib.hid hr
    have L := Lib.hid l
    obtain ⟨i0, hi, hz0, hz1, hz2⟩ := info_parts info_i64
    clear l m2 hr hn1
    go_enter Try.func55, Try.ntmps55
    go_wp2_with fail
    refine (C.out).mono ?_; rw [HR.out]; rintro e w0 ⟨rfl, hD0⟩
    have hb0 := hD0.below w.heap.size
    have hs0 := hb0.size
    have hr0 := h.below (hb0.mono hB)
    clear hD0 C
    go_wp2_with (at_make; refine wpList_make_full _ rfl _ _ _ rfl w0.heap.size 2 i0 (.int .i64 0) 1 Try.underlying30 hi hz0 hz1 .i64 .i64 _ _ n rfl rfl rfl rfl (by rw [hz2]; omega) (by unfold maxLen; omega) (Nat.le_refl _) ?_; intro w1 hown1 hg1)
    have H0 := Lib.hid (zeros_of hown1 (upN n))
    have hb1 : Below w0.heap.size w0 w1 := (Below.refl _ _).grown hg1 (Nat.le_refl _) (by simp)
    have HNL := Lib.hid (upN_length n)
    clear hown1 hg1 hi hz0 hz1 hz2
    go_loopw [7] (fun i wr => ∃ k : Nat, k ≤ n ∧ i = .int .i64 k ∧ Below w0.heap.size w0 wr ∧ wr.ownsRow w0.heap.size 2 1 (.slice (some ⟨w0.heap.size, 0, none⟩) n n) n (((upN n).map (Value.int .i64)).take k ++ List.replicate (n - k) (.int .i64 0))) (fun i _ => n - (intOf i).toNat)
    case atStart => exact ⟨0, Nat.zero_le _, rfl, hb1, H0.out⟩
    case round =>
      obtain ⟨k, hk, rfl, hb, hown⟩ := hrel
      clear H0 hb1
      by_cases hlt : k < n
      · obtain ⟨⟨old, hx⟩, hf⟩ := own_old hown hlt
        have HO := Lib.hid hown
        have HB := Lib.hid hb
        have HU := Lib.hid (upN_at hlt)
        clear hown hb
        go_wp2
        go_roundw
        case rel => exact ⟨k + 1, by omega, by go_num, HB.out.setCell (Nat.le_refl _) _, by
          have := (HO.out.stored k (.int .i64 k)).1
          rwa [upd_take _ _ _ _ _ (by rw [List.length_map]; exact HNL.out) (by rw [List.getElem?_map, HU.out]; rfl)] at this⟩
        case measure => simp [intOf]; omega
      · obtain rfl : k = n := by omega
        have HO := Lib.hid (show wr.ownsRow w0.heap.size 2 1 (.slice (some ⟨w0.heap.size, 0, none⟩) k k) k ((upN k).map (Value.int .i64)) from by simpa [List.take_of_length_le, HNL.out] using hown)
        clear hown
        obtain ⟨w2, rfl⟩ : ∃ w2 : World, w2 = wr := ⟨_, rfl⟩
        go_wp2
        go_loopw [8] (fun i wr => ∃ q : Nat, q ≤ len ∧ i = .int .i64 q ∧ Hid (∃ xs, Ker xs k (spanTo r q) ∧ wr.ownsRow w0.heap.size 2 1 (.slice (some ⟨w0.heap.size, 0, none⟩) k k) k (xs.map (Value.int .i64))) ∧ Below w0.heap.size w0 wr) (fun i _ => len - (intOf i).toNat)
        case atStart => exact ⟨0, Nat.zero_le _, rfl, Lib.hid ⟨_, Ker.new k, HO.out⟩, hb⟩
        case round =>
          obtain ⟨q, hq, rfl, HV, hb⟩ := hrel
          clear HO
          obtain ⟨xs, hK, hown⟩ := HV.out
          by_cases hlt2 : q < len
          · obtain ⟨b, o, b2, o2, c', u, v, rfl, hbB, hc, hb2, hcu, hcv, hu, hv, hx⟩ := pair_at (hr0.below (hb.mono (by omega))) HR.out (k := q) (by rw [L.out]; exact hlt2)
            obtain ⟨xu, hxu⟩ : ∃ x, xs[u]? = some x := ⟨_, List.getElem?_eq_getElem (by rw [hK.1]; omega)⟩
            obtain ⟨xv, hxv⟩ : ∃ x, xs[v]? = some x := ⟨_, List.getElem?_eq_getElem (by rw [hK.1]; omega)⟩
            have C := Lib.hid (l02Merge_any w0.heap.size w0.heap.size k k u v xs xu xv wr.drew (own_drawn hown (Drawn.refl _).drew) hxu hxv (by omega))
            have HK := Lib.hid (hK.merge hxu hxv)
            have hc2 : wr.drew.cell? ⟨b, o + q, none⟩ = some (.slice (some ⟨b2, o2, none⟩) 2 c') := hc
            have hcu2 : wr.drew.cell? ⟨b2, o2, none⟩ = some (.int .i64 (u : Int)) := hcu
            have hcv2 : wr.drew.cell? ⟨b2, o2 + 1, none⟩ = some (.int .i64 (v : Int)) := hcv
            have HB := Lib.hid hb
            clear hb HV hK hown hxu hxv
            go_wp2
            go_still_tail 13, (by kernel_rfl)
            change wpList _ _ _ _ _ wr.drew
            go_wp2_with (go_at_call 83; refine (C.out).mono ?_; rintro e w' ⟨rfl, hw, hg⟩; have HW := Lib.hid hw; have HG := Lib.hid hg; clear hw hg)
            go_roundw
            case rel => exact ⟨q + 1, by omega, by go_num, Lib.hid ⟨_, by rw [spanTo_next hx.out]; exact HK.out, HW.out⟩, (HB.out.trans (below_drewN _ _ 1)).grown HG.out HB.out.size (fun g e => by cases e; exact Nat.le_refl _)⟩
            case measure => simp [intOf]; omega
          · rw [spanTo_all r (show r.length ≤ q by rw [L.out]; omega)] at hK
            have HB := Lib.hid hb
            have HN := Lib.hid (show normL xs = normL (rootsL k (spanTo r r.length)) from hK.norm)
            have C2 := Lib.hid (l02Norm_any (some ⟨w0.heap.size, 0, none⟩) k k xs wr wr.heap.size (Row.of_own hown) (Nat.le_refl _) hK.1 (by omega))
            clear HV hb hK hown
            go_wp2_with (go_at_call 70; refine (C2.out).mono ?_; rintro e w3 ⟨rfl, ho, hb3⟩; have HO := Lib.hid ho; have HB3 := Lib.hid hb3; clear ho hb3)
            go_ret2
            exact RetI2.mk' (HI.out.trans (by rw [← HN.out])) (own_base' HO.out (by have := HB.out.size; omega)) (hb0.trans ((HB.out.trans (HB3.out.mono HB.out.size)).mono hs0))
end Go.Proofs.Ythnopigibjmgbaa
