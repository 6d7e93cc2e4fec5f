/- The partition with given blocks, by the program. -/
import Derived.Test.YthnopigibjmgbaaProg
import Derived.WalkKit
import Derived.ProofKit
import Derived.BigQuiet
import Derived.Outline
import Derived.IntWalk
import Derived.StillTailTactics
import Derived.Maps.OwnSet
import Derived.Maps.OwnOps
import Derived.Test.YthnopigibjmgbaaMem
import Derived.Test.YthnopigibjmgbaaOwn
import Derived.Test.YthnopigibjmgbaaTurn
import Derived.Test.YthnopigibjmgbaaLawI
import Derived.Test.YthnopigibjmgbaaLawI2
import Derived.Test.YthnopigibjmgbaaLawII
import Derived.Test.YthnopigibjmgbaaPartM
import Derived.Test.YthnopigibjmgbaaPart
import Derived.Test.YthnopigibjmgbaaPart2
import Derived.Test.YthnopigibjmgbaaPart3
import Derived.Test.YthnopigibjmgbaaRelM
import Derived.Test.YthnopigibjmgbaaRel
import Derived.Test.YthnopigibjmgbaaForM
import Derived.Test.YthnopigibjmgbaaFor
import Derived.Test.YthnopigibjmgbaaFor2
import Derived.Test.YthnopigibjmgbaaFromM
namespace Go.Proofs.Ythnopigibjmgbaa
open Go.RowKit Go.Maps
/-- A map from items to their blocks. -/
def OwnMap (D : DataW Unit) (f : OwnF) : Prop := (∀ x, Maps.has D (kI x) = (f x).isSome) ∧ ∀ x b, f x = some b → D.atKey (kI x) (.lit (.int .i64 0)) = .lit (.int .i64 b)
theorem OwnMap.nil : OwnMap (.map []) (fun _ => none) := ⟨fun _ => rfl, fun x b h => by cases h⟩
theorem OwnMap.put {D : DataW Unit} {f : OwnF} (h : OwnMap D f) (ht : Maps.Tidy D) (u : Int) (b : Nat) : OwnMap (D.put (kI u) (.lit (.int .i64 b))) (putF f u b) := by
  refine ⟨fun x => ?_, fun x c hx => ?_⟩
  · by_cases e : x = u
    · subst e; rw [Maps.has_put_same ht.isMap (kI_key _)]; simp [putF]
    · rw [Maps.has_put_other (fun h => e (kI_inj _ _ h)), h.1]; simp [putF, e]
  · by_cases e : x = u
    · subst e; rw [Maps.atKey_put_same ht.isMap (kI_key _)]; simp [putF] at hx; subst hx; rfl
    · rw [Maps.atKey_put_other (fun h => e (kI_inj _ _ h))]; simp [putF, e] at hx; exact h.2 x c hx
theorem keysL_wf {f : OwnF} {n m : Nat} (h : ∀ x b, f x = some b → b < m) (hm : m ≤ 2000000) : ∀ x ∈ keysL f n, (Lit.int .i64 x).wf = true := by
  intro x hx
  simp only [keysL, List.mem_map, List.mem_range] at hx
  obtain ⟨i, hi, rfl⟩ := hx
  refine wf_small _ ?_
  rcases hf : f (i : Int) with _ | b
  · simp
  · have := h _ _ hf; simp; omega
set_option maxHeartbeats 8000000 in
set_option maxRecDepth 100000 in
theorem implFrom_any (nn : Int) (A : Option Addr) (len c : Nat) (r : List (List Int)) (w : World) (B : Nat) (h : RRow w B A r) (hB : B ≤ w.heap.size) (l : r.length = len) (m : len ≤ 2000000) (m2 : ∀ xs ∈ r, xs.length ≤ 2000000) :
    Calls Try.prog 41 #[.int .i64 nn, .slice A len c] w fun e w' => RetI2 w (fromL nn r) e w' := by
  have CO := Lib.hid (onlyItems_any nn A len c r w B h l m m2)
  have L := Lib.hid l
  have M2 := Lib.hid m2
  clear l m2
  have hmm := @run_makeMap Try.prog
  have law := int_keyed Try.underlying2
  go_enter Try.func41, Try.ntmps41
  go_wp2
  go_loop [21] (fun i => ∃ k : Nat, k ≤ len ∧ i = .int .i64 k ∧ Hid (∀ j xs, j < k → r[j]? = some xs → xs.length ≠ 0)) (fun i => len - (intOf i).toNat)
  case atStart => exact ⟨0, Nat.zero_le _, rfl, Lib.hid fun j xs hj => by omega⟩
  case round =>
    obtain ⟨k, hk, rfl, HE⟩ := hrel
    by_cases hlt : k < len
    · obtain ⟨b, o, A', c', xs, rfl, hb, hc, hr, hx⟩ := h.at_ (k := k) (by rw [L.out]; exact hlt)
      have hxl := M2.out xs (List.mem_of_getElem? hx.out)
      by_cases h0 : xs.length = 0
      · have hb0 : ((xs.length : Int) == 0) = true := by simp [h0]
        have HI := Lib.hid (from_empty (n := nn) hx.out h0)
        clear h0
        go_wp2
        go_ret2
        exact RetI2.nil HI.out (Below.refl _ _)
      · have hb0 : ((xs.length : Int) == 0) = false := beq_eq_false_iff_ne.2 (by omega)
        have HN := Lib.hid (show ∀ j ys, j < k + 1 → r[j]? = some ys → ys.length ≠ 0 from fun j ys hj hy => by
          by_cases e : j = k
          · subst e; have := hx.out.symm.trans hy; injection this with this; subst this; exact h0
          · exact HE.out j ys (by omega) hy)
        clear h0 HE
        go_wp2
        go_round
        case rel => exact ⟨k + 1, by omega, by go_num, HN⟩
        case measure => simp [intOf]; omega
    · have NE := Lib.hid (noEmpty_all (r := r) fun i xs hi => HE.out i xs (by have := (List.getElem?_eq_some_iff.1 hi).1; rw [L.out] at this; omega) hi)
      clear HE
      by_cases hnn : nn < 1 ∨ 40 < nn
      · have HI := Lib.hid (from_range (n := nn) NE.out (fun hh => by have := hh.1; have := hh.2.1; omega))
        go_wp2_with (go_at_call 67; refine (itemCount_no _ _ hnn).mono ?_; rintro e w' ⟨rfl, rfl⟩)
        go_ret2
        exact RetI2.nil HI.out (Below.refl _ _)
      have h1 : 1 ≤ nn := by omega
      have h2 : nn ≤ 40 := by omega
      clear hnn
      rcases ho : onlyB nn r with _ | _
      · have HI := Lib.hid (from_range (n := nn) NE.out (fun hh => by have := onlyB_yes hh.2.2; rw [ho] at this; cases this))
        have HO := Lib.hid ho
        clear ho
        go_wp2_with (first
          | (go_at_call 67; refine (itemCount_yes _ _ h1 h2).mono ?_; rintro e w' ⟨rfl, rfl⟩)
          | (go_at_call 77; refine (CO.out).mono ?_; rw [HO.out]; rintro e w' ⟨rfl, rfl⟩))
        go_ret2
        exact RetI2.nil HI.out (Below.refl _ _)
      have HO := Lib.hid ho
      have ONLY := Lib.hid (onlyB_iff.1 ho)
      obtain ⟨n, rfl⟩ : ∃ n : Nat, nn = n := ⟨nn.toNat, by omega⟩
      have HR3 := Lib.hid (show 1 ≤ (n : Int) ∧ (n : Int) ≤ 40 ∧ onlyP n r from ⟨h1, h2, ONLY.out⟩)
      clear ho
      have hm0 : (w.alloc (.map #[] 0)).ownsMap Try.prog 2 (plainElem (H := Unit) Try.prog 2) w.heap.size 0 (.map []) := World.ownsMap_made w _ _ _
      have hb0 : Below w.heap.size w (w.alloc (.map #[] 0)) := (Below.refl _ _).alloc (Nat.le_refl _) _
      go_wp2_with (first
          | (go_at_call 67; refine (itemCount_yes _ _ h1 h2).mono ?_; rintro e w' ⟨rfl, rfl⟩)
          | (go_at_call 77; refine (CO.out).mono ?_; rw [HO.out]; rintro e w' ⟨rfl, rfl⟩))
      clear CO hmm
      go_loopw [41] (fun i wr => ∃ (k : Nat) (Dm : DataW Unit) (f : OwnF), k ≤ len ∧ i = .int .i64 k ∧ Hid (allP r k = some f) ∧ Hid (OwnMap Dm f) ∧ Below w.heap.size w wr ∧ wr.ownsMap Try.prog 2 (plainElem (H := Unit) Try.prog 2) w.heap.size (total (r.take k)) Dm) (fun i _ => len - (intOf i).toNat)
      case atStart => exact ⟨0, _, _, Nat.zero_le _, rfl, Lib.hid rfl, Lib.hid OwnMap.nil, hb0, hm0⟩
      case round =>
        obtain ⟨k, Dm, f, hk, rfl, HP, HM, hb, hmap⟩ := hrel
        clear hm0 hb0
        obtain ⟨wo, rfl⟩ : ∃ wo : World, wo = wr := ⟨_, rfl⟩
        by_cases hlt : k < len
        · obtain ⟨b, o, A', c', xs, rfl, hbB, hc0, hr, hx⟩ := h.at_ (k := k) (by rw [L.out]; exact hlt)
          have hc := hb.cell (p := ⟨b, o + k, none⟩) (show b < w.heap.size by omega)
          rw [hc0] at hc
          have hxl := M2.out xs (List.mem_of_getElem? hx.out)
          have htot := total_take M2.out k (by omega)
          have HTS := Lib.hid (total_succ hx.out)
          have HMAP := Lib.hid (show wo.ownsMap Try.prog 2 (plainElem (H := Unit) Try.prog 2) w.heap.size (total (r.take k) + 0) Dm from hmap)
          clear hmap hc0
          go_wp2
          go_loopw [48] (fun i wr => ∃ (q : Nat) (Dm : DataW Unit) (f : OwnF), q ≤ xs.length ∧ i = .int .i64 q ∧ Hid (partP r k q = some f) ∧ Hid (OwnMap Dm f) ∧ Below w.heap.size w wr ∧ wr.ownsMap Try.prog 2 (plainElem (H := Unit) Try.prog 2) w.heap.size (total (r.take k) + q) Dm) (fun i _ => xs.length - (intOf i).toNat)
          case atStart => exact ⟨0, Dm, f, Nat.zero_le _, rfl, HP, HM, hb, HMAP.out⟩
          case round =>
            clear HMAP HM HP hb hc
            obtain ⟨q, Dm, f, hq, rfl, HP, HM, hb, hmap⟩ := hrel
            obtain ⟨wi, rfl⟩ : ∃ wi : World, wi = wr := ⟨_, rfl⟩
            by_cases hlt2 : q < xs.length
            · obtain ⟨b1, o1, u, rfl, hb1, hcu, hu⟩ := (hr.below (hb.mono hB)).at_ (k := q) hlt2
              have hun := ONLY.out xs (List.mem_of_getElem? hx.out) u (List.mem_of_getElem? hu.out)
              have hkey : keyOf Try.prog 2 (.int .i64 u) = some (kI u) := keyOf_int_mk Try.underlying2 (WalkArith.wf_i64 (by omega))
              have HKEY := Lib.hid hkey
              have HT := Lib.hid (hmap.tidy law)
              have HB := Lib.hid hb
              have hwi := hb.size
              clear hkey hun hb
              rcases hf : f u with _ | cblk
              · have hhas : Maps.has Dm (kI u) = false := by rw [HM.out.1, hf]; rfl
                have HF := Lib.hid hf
                clear hf
                go_wp2_with (first
                  | (at_lookup; refine wpList_lookup_own_ok_int _ rfl _ _ 70 rfl 2 2 .i64 law Try.underlying70 Try.underlying2 (zero64 _) w.heap.size (total (r.take k) + q) Dm rfl hmap _ (kI u) rfl HKEY.out ?_; intro cc hat hwc; clear hat)
                  | (at_mapUpdate; refine wpList_mapUpdate_own _ rfl _ _ _ 70 rfl 2 2 law Try.underlying70 _ w.heap.size (total (r.take k) + q) Dm rfl hmap (by unfold maxLen; omega) _ _ (kI u) rfl rfl HKEY.out _ [] (plainElem_int Try.underlying2 (wf_small _ (show k ≤ 2000000 by omega))) ?_; intro w2 hmap2 hg2; have HM2 := Lib.hid hmap2; have HG2 := Lib.hid hg2; clear hg2 hmap2))
                go_roundw
                case rel => exact ⟨q + 1, _, putF f u k, by omega, by go_num, Lib.hid (by rw [partP_next hx.out hu.out, HP.out, stepP_free HF.out]), Lib.hid (HM.out.put HT.out u k), HB.out.grown HG2.out HB.out.size (fun j hj => by cases hj; exact Nat.le_refl _), HM2.out⟩
                case measure => simp [intOf]; omega
              · have hhas : Maps.has Dm (kI u) = true := by rw [HM.out.1, hf]; rfl
                have HI := Lib.hid (from_exists (n := (n : Int)) NE.out HR3.out (partP_dead hx.out hu.out HP.out hf))
                clear hf
                go_wp2_with (at_lookup; refine wpList_lookup_own_ok_int _ rfl _ _ 70 rfl 2 2 .i64 law Try.underlying70 Try.underlying2 (zero64 _) w.heap.size (total (r.take k) + q) Dm rfl hmap _ (kI u) rfl HKEY.out ?_; intro cc hat hwc; clear hat)
                go_ret2
                exact RetI2.nil HI.out HB.out
            · obtain rfl : q = xs.length := by omega
              have HP2 := Lib.hid (show allP r (k + 1) = some f from by rw [← partP_all hx.out (Nat.le_refl _)]; exact HP.out)
              have HMAP := Lib.hid (show wi.ownsMap Try.prog 2 (plainElem (H := Unit) Try.prog 2) w.heap.size (total (r.take (k + 1))) Dm from by rw [HTS.out]; exact hmap)
              clear hmap HP
              go_wp2
              go_roundw
              case rel => exact ⟨k + 1, Dm, f, by omega, by go_num, HP2, HM, hb, HMAP.out⟩
              case measure => simp [intOf]; omega
        · obtain rfl : k = len := by omega
          have hP : allP r r.length = some f := by rw [L.out]; exact HP.out
          have HP := Lib.hid hP
          have HS := Lib.hid (allP_some (n := (n : Int)) ONLY.out r.length f (Nat.le_refl _) hP)
          have hwo := hb.size
          have hmlt := hmap.lt
          obtain ⟨i0, hi, hz0, hz1, hz2⟩ := info_parts info_i64
          clear hP
          go_wp2_with (at_make; refine wpList_make_full _ rfl _ _ _ rfl wo.heap.size 2 i0 (.int .i64 0) 1 Try.underlying30 hi hz0 hz1 .i64 .i64 _ _ n rfl rfl rfl rfl (by rw [hz2]; omega) (by unfold maxLen; omega) (Nat.le_refl _) ?_; intro w1 hown1 hg1)
          have H0 := Lib.hid (zeros_of hown1 (keysL f n))
          have hb1 : Below w.heap.size w w1 := hb.grown hg1 hb.size (by simp)
          have hmap1 := hmap.kept hg1 (by simp)
          have HNL := Lib.hid (keysL_length f n)
          have hsz1 := (hown1.lt wo.heap.size rfl).2
          clear hown1 hg1 hi hz0 hz1 hz2 hb hmap
          go_loopw [68] (fun i wr => ∃ t : Nat, t ≤ n ∧ i = .int .i64 t ∧ Hid (∀ j, j < t → f ((j : Nat) : Int) ≠ none) ∧ Below w.heap.size w wr ∧ wr.ownsMap Try.prog 2 (plainElem (H := Unit) Try.prog 2) w.heap.size (total (r.take k)) Dm ∧ wr.ownsRow wo.heap.size 2 1 (.slice (some ⟨wo.heap.size, 0, none⟩) n n) n (((keysL f n).map (Value.int .i64)).take t ++ List.replicate (n - t) (.int .i64 0))) (fun i _ => n - (intOf i).toNat)
          case atStart => exact ⟨0, Nat.zero_le _, rfl, Lib.hid (fun j hj => by omega), hb1, hmap1, H0.out⟩
          case round =>
            obtain ⟨t, ht, rfl, HA, hb, hmap, hown⟩ := hrel
            clear H0 hb1 hmap1
            by_cases hlt3 : t < n
            · have hkey : keyOf Try.prog 2 (.int .i64 ((t : Nat) : Int)) = some (kI ((t : Nat) : Int)) := keyOf_int_mk Try.underlying2 (WalkArith.wf_i64 (by omega))
              have HKEY := Lib.hid hkey
              obtain ⟨⟨old, hxo⟩, hfz⟩ := own_old hown hlt3
              have HO := Lib.hid hown
              have HB := Lib.hid hb
              clear hkey hown hb
              rcases hf : f ((t : Nat) : Int) with _ | cblk
              · have hhas : Maps.has Dm (kI ((t : Nat) : Int)) = false := by rw [HM.out.1, hf]; rfl
                have HI := Lib.hid (from_missing NE.out HR3.out HP.out hlt3 hf)
                clear hf
                go_wp2_with (at_lookup; refine wpList_lookup_own_ok_int _ rfl _ _ 70 rfl 2 2 .i64 law Try.underlying70 Try.underlying2 (zero64 _) w.heap.size (total (r.take k)) Dm rfl hmap _ (kI ((t : Nat) : Int)) rfl HKEY.out ?_; intro cc hat hwc; clear hat)
                go_ret2
                exact RetI2.nil HI.out HB.out
              · have hhas : Maps.has Dm (kI ((t : Nat) : Int)) = true := by rw [HM.out.1, hf]; rfl
                have HF := Lib.hid hf
                clear hf
                go_wp2_with (at_lookup; refine wpList_lookup_own_ok_int _ rfl _ _ 70 rfl 2 2 .i64 law Try.underlying70 Try.underlying2 (zero64 _) w.heap.size (total (r.take k)) Dm rfl hmap _ (kI ((t : Nat) : Int)) rfl HKEY.out ?_; intro cc hat hwc; obtain rfl : cc = ((cblk : Nat) : Int) := (lit_inj ((HM.out.2 _ _ HF.out).symm.trans hat)).symm; clear hat)
                go_roundw
                case rel =>
                  refine ⟨t + 1, by omega, by go_num, Lib.hid fun j hj => ?_, HB.out.setCell hwo _, hmap.setCell (a := ⟨wo.heap.size, t, none⟩) (show w.heap.size ≠ wo.heap.size by omega) _, ?_⟩
                  · by_cases e : j = t
                    · subst e; rw [HF.out]; simp
                    · exact HA.out j (by omega)
                  · have := (HO.out.stored t (.int .i64 ((cblk : Nat) : Int))).1
                    rwa [upd_take _ _ _ _ _ (by rw [List.length_map]; exact HNL.out) (by rw [List.getElem?_map, keysL_at hlt3 HF.out]; rfl)] at this
                case measure => simp [intOf]; omega
            · obtain rfl : t = n := by omega
              have HO := Lib.hid (show wr.ownsRow wo.heap.size 2 1 (.slice (some ⟨wo.heap.size, 0, none⟩) t t) t ((keysL f t).map (Value.int .i64)) from by simpa [List.take_of_length_le, HNL.out] using hown)
              have HI := Lib.hid (from_ok NE.out HR3.out HP.out HA.out)
              have C := Lib.hid (numberBlocks_any (some ⟨wo.heap.size, 0, none⟩) t t (keysL f t) wr wr.heap.size (Row.of_own HO.out) (Nat.le_refl _) HNL.out (by omega) (keysL_wf (fun x b hxb => (HS.out x b hxb).2.2) (by rw [L.out]; exact m)))
              have HB := Lib.hid hb
              clear hown hb hmap
              go_wp2_with (go_at_call 69; refine (C.out).mono ?_; rintro e w3 ⟨rfl, ho, hb3⟩; have HO3 := Lib.hid ho; have HB3 := Lib.hid hb3; clear ho hb3)
              go_ret2
              exact RetI2.mk' HI.out (own_base' HO3.out HB.out.size) (HB.out.trans (HB3.out.mono HB.out.size))
end Go.Proofs.Ythnopigibjmgbaa
