/- The composition of two by the model and the program. -/
import Derived.Test.YthnopigibjmgbaaProg
import Derived.WalkKit
import Derived.ProofKit
import Derived.BigQuiet
import Derived.Outline
import Derived.IntWalk
import Derived.StillTailTactics
import Derived.Test.YthnopigibjmgbaaMem
import Derived.Test.YthnopigibjmgbaaOwn
import Derived.Test.YthnopigibjmgbaaTurn
import Derived.Test.YthnopigibjmgbaaLawI
import Derived.Test.YthnopigibjmgbaaLawI2
import Derived.Test.YthnopigibjmgbaaLawII
import Derived.Test.YthnopigibjmgbaaPart3
import Derived.Test.YthnopigibjmgbaaRelM
import Derived.Test.YthnopigibjmgbaaBuild
import Derived.Test.YthnopigibjmgbaaPairs
import Derived.Test.YthnopigibjmgbaaRowsM
import Derived.Test.YthnopigibjmgbaaRows2
import Derived.Test.YthnopigibjmgbaaRows3
import Derived.Test.YthnopigibjmgbaaRel
import Derived.Test.YthnopigibjmgbaaMat
import Derived.Test.YthnopigibjmgbaaRelF
import Derived.Test.YthnopigibjmgbaaRelG
namespace Go.Proofs.Ythnopigibjmgbaa
open Go.RowKit
set_option maxHeartbeats 4000000 in
set_option maxRecDepth 100000 in
theorem specComp_any (nn : Int) (A1 : Option Addr) (n1 c1 : Nat) (r : List (List Int)) (A2 : Option Addr) (n2 c2 : Nat) (q : List (List Int)) (w : World) (B1 : Nat) (h1 : RRow w B1 A1 r) (hB1 : B1 ≤ w.heap.size) (l1 : r.length = n1) (m1 : n1 ≤ 2000000) (mm1 : ∀ xs ∈ r, xs.length ≤ 2000000)
    (B2 : Nat) (h2 : RRow w B2 A2 q) (hB2 : B2 ≤ w.heap.size) (l2 : q.length = n2) (m2 : n2 ≤ 2000000) (mm2 : ∀ xs ∈ q, xs.length ≤ 2000000) :
    Calls Try.prog 52 #[.int .i64 nn, .slice A1 n1 c1, .slice A2 n2 c2] w fun e w' => RetJ2 w (compL nn r q) e w' := by
  have C1 := Lib.hid (l02Relation_any nn A1 n1 c1 r w B1 h1 l1 m1 mm1)
  rcases hr : relB nn r with _ | _
  · have HR := Lib.hid hr
    have HI := Lib.hid (compL_no (n := nn) (r := r) (q := q) (.inl hr))
    clear l1 l2 mm1 mm2 hr
    go_enter Try.func52, Try.ntmps52
    go_wp2_with (go_at_call 86; refine (C1.out).mono ?_; rw [HR.out]; rintro e w1 ⟨rfl, hD⟩)
    go_ret2
    exact RetJ2.nil HI.out (hD.below _)
  have C2 := Lib.hid (fun wx (hd : Drawn w wx) => l02Relation_any nn A2 n2 c2 q wx B2 (h2.drawn hd) l2 m2 mm2)
  rcases hq : relB nn q with _ | _
  · have HR := Lib.hid hr
    have HQ := Lib.hid hq
    have HI := Lib.hid (compL_no (n := nn) (r := r) (q := q) (.inr hq))
    clear l1 l2 mm1 mm2 hr hq
    go_enter Try.func52, Try.ntmps52
    go_wp2_with fail
    refine (C1.out).mono ?_; rw [HR.out]; rintro e w1 ⟨rfl, hD⟩
    have HD := Lib.hid hD
    clear hD
    go_wp2_with fail
    refine (C2.out _ HD.out).mono ?_; rw [HQ.out]; rintro e w2 ⟨rfl, hD⟩
    go_wp2
    go_ret2
    exact RetJ2.nil HI.out ((HD.out.trans hD).below _)
  obtain ⟨n, rfl, hn1, hn⟩ := rel_nat hr
  have HI := Lib.hid (compL_yes hr hq)
  have HR := Lib.hid hr
  have HQ := Lib.hid hq
  have L := Lib.hid l1
  obtain ⟨N, hN0⟩ : ∃ N, N = n * n := ⟨_, rfl⟩
  have hN := Lib.hid hN0
  clear hN0
  have C3 := Lib.hid (fun wx (hd : Drawn w wx) => l02Matrix_any n A2 n2 c2 q wx B2 (h2.drawn hd) (by have := (hd.below w.heap.size).size; omega) l2 m2 hq N hN)
  obtain ⟨i0, hi, hz0, hz1, hz2⟩ := info_parts info_bool
  obtain ⟨hsq, hN6⟩ := sq_num hn hN.out
  clear l1 l2 mm1 mm2 hr hq hn1
  go_enter Try.func52, Try.ntmps52
  go_wp2_with fail
  refine (C1.out).mono ?_; rw [HR.out]; rintro e w1 ⟨rfl, hD1⟩
  have HD1 := Lib.hid hD1
  clear hD1
  go_wp2_with fail
  refine (C2.out _ HD1.out).mono ?_; rw [HQ.out]; rintro e w2 ⟨rfl, hD⟩
  have HD2 := Lib.hid (HD1.out.trans hD)
  clear hD HD1
  go_wp2_with fail
  refine (C3.out _ HD2.out).mono ?_; rintro e w3 ⟨rfl, hm3, hb3⟩
  have hb0 := (HD2.out.below w.heap.size).trans (hb3.mono ((HD2.out.below w.heap.size).size))
  have hs23 := hb3.size
  have HM := Lib.hid hm3
  have hr0 := h1.below (hb0.mono hB1)
  have hs0 := hb0.size
  clear hm3 hb3 HD2 C1 C2 C3
  go_wp2_with (at_make; refine wpList_make_full _ rfl _ _ _ rfl w3.heap.size 4 i0 (.bool false) 1 Try.underlying50 hi hz0 hz1 .i64 .i64 _ _ N rfl rfl rfl rfl (by rw [hz2]; omega) (by unfold maxLen; omega) (Nat.le_refl _) ?_; intro w4 hown1 hg1)
  have H0 := Lib.hid (HasMat.new hN.out hown1)
  have hb1 : Below w3.heap.size w3 w4 := (Below.refl _ _).grown hg1 (Nat.le_refl _) (by simp)
  clear hown1 hg1 hi hz0 hz1 hz2
  go_loopw [10] (fun i wr => ∃ k : Nat, k ≤ n1 ∧ i = .int .i64 k ∧ HasMat wr w3.heap.size w3.heap.size N (compTo r (memF q) k) n ∧ Below w3.heap.size w3 wr) (fun i _ => n1 - (intOf i).toNat)
  case atStart => exact ⟨0, Nat.zero_le _, rfl, H0.out.congr fun i j _ _ => (compTo_zero r _ i j).symm, hb1⟩
  case round =>
    obtain ⟨k, hk, rfl, HV, hb⟩ := hrel
    clear H0 hb1
    obtain ⟨wo, rfl⟩ : ∃ wo : World, wo = wr := ⟨_, rfl⟩
    by_cases hlt : k < n1
    · have HV0 := Lib.hid (show HasMat wo w3.heap.size w3.heap.size N (joinTo (compTo r (memF q) k) 0 (fun _ => false) 0) n from HV.congr fun i j _ _ => (joinTo_zero _ _ _ i j).symm)
      obtain ⟨b, o, b2, o2, c', u, v, rfl, hbB, hc, hb2, hcu, hcv, hu, hv, hx⟩ := pair_at (hr0.below (hb.mono (by omega))) HR.out (k := k) (by rw [L.out]; exact hlt)
      have hu' : u < n := by omega
      have hv' : v < n := by omega
      have HB := Lib.hid hb
      have HV2 := Lib.hid (show HasMat wo w3.heap.size w3.heap.size N (joinTo (compTo r (memF q) k) u (memF q v) 0) n from HV.congr fun i j _ _ => (joinTo_zero _ _ _ i j).symm)
      clear HV hb HV0
      go_wp2
      go_loopw [11] (fun i wr => ∃ t : Nat, t ≤ n ∧ i = .int .i64 t ∧ HasMat wr w3.heap.size w3.heap.size N (joinTo (compTo r (memF q) k) u (memF q v) t) n ∧ Below w3.heap.size wo wr) (fun i _ => n - (intOf i).toNat)
      case atStart => exact ⟨0, Nat.zero_le _, rfl, HV2.out, Below.refl _ _⟩
      case round =>
        obtain ⟨t, ht, rfl, HV, hb⟩ := hrel
        clear HV2
        obtain ⟨wi, rfl⟩ : ∃ wi : World, wi = wr := ⟨_, rfl⟩
        by_cases hlt2 : t < n
        · obtain ⟨s, ⟨e1, e0⟩, e2, e3, e4, hs, hsN, hcm, hfz, HS⟩ := (HM.out.below (HB.out.trans hb)).at_ hn hv' hlt2
          obtain ⟨s', ⟨e1', e0'⟩, e2', e3', e4', hs', hsN', hcm', hfz', HS'⟩ := HV.at_ hn hu' hlt2
          have hc2 := hb.cell (p := ⟨b, o + k, none⟩) (show b < w3.heap.size by omega)
          have hcu2 := hb.cell (p := ⟨b2, o2, none⟩) (show b2 < w3.heap.size by omega)
          have hcv2 := hb.cell (p := ⟨b2, o2 + 1, none⟩) (show b2 < w3.heap.size by omega)
          rw [hc] at hc2
          rw [hcu] at hcu2
          rw [hcv] at hcv2
          have HB2 := Lib.hid hb
          have HV2 := Lib.hid HV
          rcases hf : memF q v t with _ | _
          · have HF := Lib.hid hf
            rw [hf] at hcm
            clear hb HV hf
            go_wp2
            go_roundw
            case rel => exact ⟨t + 1, by omega, by go_num, HV2.out.congr fun i j _ _ => (joinTo_no HF.out i j).symm, HB2.out⟩
            case measure => simp [intOf]; omega
          · have HF := Lib.hid hf
            rw [hf] at hcm
            clear hb HV hf
            go_wp2
            go_roundw
            case rel => exact ⟨t + 1, by omega, by go_num, (HV2.out.put hu' hlt2 HS').congr fun i j _ _ => (joinTo_yes HF.out i j).symm, HB2.out.setCell (Nat.le_refl _) _⟩
            case measure => simp [intOf]; omega
        · obtain rfl : t = n := by omega
          have HV2 := Lib.hid (show HasMat wi w3.heap.size w3.heap.size N (compTo r (memF q) (k + 1)) t from HV.congr fun i j _ hj => by rw [compTo_next hx.out]; exact joinTo_all hj)
          have HB2 := Lib.hid (HB.out.trans hb)
          clear HV hb
          go_wp2
          go_roundw
          case rel => exact ⟨k + 1, by omega, by go_num, HV2.out, HB2.out⟩
          case measure => simp [intOf]; omega
    · have HV2 := Lib.hid (show HasMat wo w3.heap.size w3.heap.size N (compTo r (memF q) r.length) n from by rw [compTo_all r _ (show r.length ≤ k by rw [L.out]; omega)] at HV; exact HV)
      have HB := Lib.hid hb
      have C2 := Lib.hid (l02List_any w3.heap.size N n _ wo w3.heap.size HV2.out hn)
      clear HV hb
      go_wp2_with (go_at_call 58; refine (C2.out).mono ?_; rintro e w5 ⟨v, rfl, hv, hb5⟩)
      go_ret2
      exact RetJ2.mk' HI.out (hv.base (by have := HB.out.size; omega)) (hb0.trans ((HB.out.mono hs0).trans (hb5.mono (by have := HB.out.size; omega))))
end Go.Proofs.Ythnopigibjmgbaa
