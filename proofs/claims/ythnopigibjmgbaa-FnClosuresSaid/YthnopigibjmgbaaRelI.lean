/- The composition of two relations by the program, and the closure. -/
import Derived.Test.YthnopigibjmgbaaProg
import Derived.WalkKit
import Derived.ProofKit
import Derived.BigQuiet
import Derived.Outline
import Derived.IntWalk
import Derived.StillTailTactics
import Derived.Test.YthnopigibjmgbaaMem
import Derived.Test.YthnopigibjmgbaaOwn
import Derived.Test.YthnopigibjmgbaaTurn
import Derived.Test.YthnopigibjmgbaaLawI
import Derived.Test.YthnopigibjmgbaaLawI2
import Derived.Test.YthnopigibjmgbaaLawII
import Derived.Test.YthnopigibjmgbaaPart3
import Derived.Test.YthnopigibjmgbaaRelM
import Derived.Test.YthnopigibjmgbaaBuild
import Derived.Test.YthnopigibjmgbaaPairs
import Derived.Test.YthnopigibjmgbaaRowsM
import Derived.Test.YthnopigibjmgbaaRows2
import Derived.Test.YthnopigibjmgbaaRows3
import Derived.Test.YthnopigibjmgbaaRel
import Derived.Test.YthnopigibjmgbaaMat
import Derived.Test.YthnopigibjmgbaaRelF
import Derived.Test.YthnopigibjmgbaaRelG
import Derived.Test.YthnopigibjmgbaaRelH
namespace Go.Proofs.Ythnopigibjmgbaa
open Go.RowKit
set_option maxHeartbeats 4000000 in
set_option maxRecDepth 100000 in
theorem implComp_any (nn : Int) (A1 : Option Addr) (n1 c1 : Nat) (r : List (List Int)) (A2 : Option Addr) (n2 c2 : Nat) (q : List (List Int)) (w : World) (B1 : Nat) (h1 : RRow w B1 A1 r) (hB1 : B1 ≤ w.heap.size) (l1 : r.length = n1) (m1 : n1 ≤ 2000000) (mm1 : ∀ xs ∈ r, xs.length ≤ 2000000)
    (B2 : Nat) (h2 : RRow w B2 A2 q) (hB2 : B2 ≤ w.heap.size) (l2 : q.length = n2) (m2 : n2 ≤ 2000000) (mm2 : ∀ xs ∈ q, xs.length ≤ 2000000) :
    Calls Try.prog 20 #[.int .i64 nn, .slice A1 n1 c1, .slice A2 n2 c2] w fun e w' => RetJ2 w (compL nn r q) e w' := by
  have C1 := Lib.hid (implRel_any nn A1 n1 c1 r w B1 h1 l1 m1 mm1)
  rcases hr : relB nn r with _ | _
  · have HR := Lib.hid hr
    have HI := Lib.hid (compL_no (n := nn) (r := r) (q := q) (.inl hr))
    clear l1 l2 mm1 mm2 hr
    go_enter Try.func20, Try.ntmps20
    go_wp2_with (go_at_call 51; refine (C1.out).mono ?_; rw [HR.out]; rintro e w1 ⟨rfl, hD⟩)
    go_ret2
    exact RetJ2.nil HI.out (hD.below _)
  have C2 := Lib.hid (fun wx (hd : Drawn w wx) => implRel_any nn A2 n2 c2 q wx B2 (h2.drawn hd) l2 m2 mm2)
  rcases hq : relB nn q with _ | _
  · have HR := Lib.hid hr
    have HQ := Lib.hid hq
    have HI := Lib.hid (compL_no (n := nn) (r := r) (q := q) (.inr hq))
    clear l1 l2 mm1 mm2 hr hq
    go_enter Try.func20, Try.ntmps20
    go_wp2_with fail
    refine (C1.out).mono ?_; rw [HR.out]; rintro e w1 ⟨rfl, hD⟩
    have HD := Lib.hid hD
    clear hD
    go_wp2_with fail
    refine (C2.out _ HD.out).mono ?_; rw [HQ.out]; rintro e w2 ⟨rfl, hD⟩
    go_wp2
    go_ret2
    exact RetJ2.nil HI.out ((HD.out.trans hD).below _)
  obtain ⟨n, rfl, hn1, hn⟩ := rel_nat hr
  have HI := Lib.hid (compL_yes hr hq)
  have HR := Lib.hid hr
  have HQ := Lib.hid hq
  have L := Lib.hid l1
  have C3 := Lib.hid (fun wx (hd : Drawn w wx) => rowsOf_any n A2 n2 c2 q wx B2 (h2.drawn hd) (by have := (hd.below w.heap.size).size; omega) l2 m2 hq)
  clear l1 l2 mm1 mm2 hr hq hn1
  go_enter Try.func20, Try.ntmps20
  go_wp2_with fail
  refine (C1.out).mono ?_; rw [HR.out]; rintro e w1 ⟨rfl, hD1⟩
  have HD1 := Lib.hid hD1
  clear hD1
  go_wp2_with fail
  refine (C2.out _ HD1.out).mono ?_; rw [HQ.out]; rintro e w2 ⟨rfl, hD⟩
  have HD2 := Lib.hid (HD1.out.trans hD)
  clear hD HD1
  go_wp2_with fail
  refine (C3.out _ HD2.out).mono ?_; rintro e w3 ⟨rfl, hm3, hb3⟩
  have hb0 := (HD2.out.below w.heap.size).trans (hb3.mono ((HD2.out.below w.heap.size).size))
  have hs23 := hb3.size
  have HM := Lib.hid hm3
  have hr0 := h1.below (hb0.mono hB1)
  have hs0 := hb0.size
  clear hm3 hb3 HD2 C1 C2 C3
  go_wp2
  go_loopw [27] (fun i wr => ∃ k : Nat, k ≤ n1 ∧ i = .int .i64 k ∧ HasWords wr w3.heap.size w3.heap.size (compTo r (memF q) k) ∧ Below w3.heap.size w3 wr) (fun i _ => n1 - (intOf i).toNat)
  case atStart => exact ⟨0, Nat.zero_le _, rfl, (words_new _ _ (Nat.le_refl _)).congr fun i j _ _ => (compTo_zero r _ i j).symm, (Below.refl _ _).alloc (Nat.le_refl _) _⟩
  case round =>
    obtain ⟨k, hk, rfl, HV, hb⟩ := hrel
    by_cases hlt : k < n1
    · obtain ⟨b, o, b2, o2, c', u, v, rfl, hbB, hc, hb2, hcu, hcv, hu, hv, hx⟩ := pair_at (hr0.below (hb.mono (by omega))) HR.out (k := k) (by rw [L.out]; exact hlt)
      have hu40 : (u : Int) < 40 := by omega
      have hv40 : (v : Int) < 40 := by omega
      obtain ⟨x, xs, hcx, hwx, hxs, hbits, hw, hfz⟩ := HV.at_ (show u < 40 by omega)
      obtain ⟨y, ys, hcy, hwy, hys, hbits', hw', hfz'⟩ := (HM.out.below hb).at_ (show v < 40 by omega)
      have hcx2 : wr.drew.cell? ⟨w3.heap.size, u, none⟩ = some (.int .u64 x) := hcx
      have hcy2 : wr.drew.cell? ⟨w2.heap.size, v, none⟩ = some (.int .u64 y) := hcy
      have hfz2 : wr.drew.frozen? ⟨w3.heap.size, u, none⟩ = false := hfz
      have hcu2 : wr.drew.cell? ⟨b2, o2, none⟩ = some (.int .i64 (u : Int)) := hcu
      have hcv2 : wr.drew.cell? ⟨b2, o2 + 1, none⟩ = some (.int .i64 (v : Int)) := hcv
      have HB := Lib.hid hb
      clear hb HV
      go_wp2
      go_still_tail 17, (by kernel_rfl)
      change wpList _ _ _ _ _ wr.drew
      go_wp2
      go_roundw
      case rel => exact ⟨k + 1, by omega, by go_num, ⟨_, (hbits.out.row hxs.out hwy.out).congr fun i j _ _ => by rw [compTo_next hx.out], own_drawn (hw.out.put u _) (Drawn.refl _).drew⟩, (HB.out.setCell (Nat.le_refl _) _).trans (below_drewN _ _ 1)⟩
      case measure => simp [intOf]; omega
    · have HV2 := Lib.hid (show HasWords wr w3.heap.size w3.heap.size (compTo r (memF q) r.length) from by rw [compTo_all r _ (show r.length ≤ k by rw [L.out]; omega)] at HV; exact HV)
      have HB := Lib.hid hb
      have C2 := Lib.hid (rowsPairs_any w3.heap.size n _ wr w3.heap.size HV2.out hn)
      clear HV hb
      go_wp2_with (go_at_call 62; refine (C2.out).mono ?_; rintro e w5 ⟨v, rfl, hv, hb5⟩)
      go_ret2
      exact RetJ2.mk' HI.out (hv.base (by have := HB.out.size; omega)) (hb0.trans ((HB.out.mono hs0).trans (hb5.mono (by have := HB.out.size; omega))))
/-- The closure. -/
noncomputable def closeF (n : Nat) (r : List (List Int)) : Nat → Nat → Bool := wAll (diagTo (memF r) n) n n
noncomputable def closeL (n : Int) (r : List (List Int)) : List (List Int) × Int := if relB n r = true then (picked (closeF n.toNat r) n.toNat n.toNat, 0) else ([], 1)
theorem closeL_yes {n : Nat} {r : List (List Int)} (h : relB n r = true) : closeL n r = (picked (closeF n r) n n, 0) := by unfold closeL; rw [if_pos h]; rfl
theorem closeL_no {n : Int} {r : List (List Int)} (h : relB n r = false) : closeL n r = ([], 1) := by unfold closeL; rw [if_neg (by rw [h]; simp)]
theorem closeL_len (n : Int) (r : List (List Int)) : (closeL n r).1.length ≤ 2000000 := by
  rcases h : relB n r with _ | _
  · rw [closeL_no h]; simp
  · unfold closeL; rw [if_pos h]; exact picked_len40 _ (by have := rel_small h; omega)
theorem closeL_inner (n : Int) (r : List (List Int)) : ∀ xs ∈ (closeL n r).1, xs.length ≤ 2000000 := by
  rcases h : relB n r with _ | _
  · rw [closeL_no h]; simp
  · unfold closeL; rw [if_pos h]; intro xs hx; have := picked_inner _ _ _ xs hx; omega
theorem wTo_zero (f : Nat → Nat → Bool) (n b : Nat) : wTo f n b 0 = wAll f n b := rfl
theorem wTo_all (f : Nat → Nat → Bool) (n b : Nat) : wTo f n b n = wAll f n (b + 1) := rfl
set_option maxHeartbeats 4000000 in
set_option maxRecDepth 100000 in
theorem l02Close_any (g N n : Nat) (f : Nat → Nat → Bool) (w : World) (lo : Nat) (h : HasMat w lo g N f n) (hn : n ≤ 40) (hlo : lo ≤ g) :
    Calls Try.prog 89 #[.int .i64 n, .slice (some ⟨g, 0, none⟩) N N] w fun e w' => e = .returned (.tuple #[]) ∧ HasMat w' lo g N (wAll (diagTo f n) n n) n ∧ Below lo w w' := by
  have H0 := Lib.hid (show HasMat w lo g N (diagTo f 0) n from h.congr fun i j _ _ => (diagTo_zero f i j).symm)
  clear h
  go_enter Try.func89, Try.ntmps89
  go_wp2
  go_loopw [4] (fun i wr => ∃ k : Nat, k ≤ n ∧ i = .int .i64 k ∧ HasMat wr lo g N (diagTo f k) n ∧ Below lo w wr) (fun i _ => n - (intOf i).toNat)
  case atStart => exact ⟨0, Nat.zero_le _, rfl, H0.out, Below.refl _ _⟩
  case round =>
    obtain ⟨k, hk, rfl, HV, hb⟩ := hrel
    clear H0
    by_cases hlt : k < n
    · obtain ⟨s, ⟨e1, e0⟩, e2, e3, e4, hs, hsN, hcm, hfz, HS⟩ := HV.at_ hn hlt hlt
      have HV2 := Lib.hid HV
      have HB := Lib.hid hb
      clear HV hb
      go_wp2
      go_roundw
      case rel => exact ⟨k + 1, by omega, by go_num, (HV2.out.put hlt hlt HS).congr fun i j _ _ => (diagTo_next f k i j).symm, HB.out.setCell hlo _⟩
      case measure => simp [intOf]; omega
    · obtain rfl : k = n := by omega
      have HV2 := Lib.hid (show HasMat wr lo g N (wAll (diagTo f k) k 0) k from HV)
      clear HV
      obtain ⟨w1, rfl⟩ : ∃ w1 : World, w1 = wr := ⟨_, rfl⟩
      go_wp2
      go_loopw [5] (fun i wr => ∃ b : Nat, b ≤ k ∧ i = .int .i64 b ∧ HasMat wr lo g N (wAll (diagTo f k) k b) k ∧ Below lo w wr) (fun i _ => k - (intOf i).toNat)
      case atStart => exact ⟨0, Nat.zero_le _, rfl, HV2.out, hb⟩
      case round =>
        obtain ⟨b, hbk, rfl, HV, hb⟩ := hrel
        clear HV2
        obtain ⟨w2, rfl⟩ : ∃ w2 : World, w2 = wr := ⟨_, rfl⟩
        by_cases hltb : b < k
        · have HV2 := Lib.hid (show HasMat w2 lo g N (wTo (diagTo f k) k b 0) k from HV)
          clear HV
          go_wp2
          go_loopw [6] (fun i wr => ∃ a : Nat, a ≤ k ∧ i = .int .i64 a ∧ HasMat wr lo g N (wTo (diagTo f k) k b a) k ∧ Below lo w wr) (fun i _ => k - (intOf i).toNat)
          case atStart => exact ⟨0, Nat.zero_le _, rfl, HV2.out, hb⟩
          case round =>
            obtain ⟨a, hak, rfl, HV, hb⟩ := hrel
            clear HV2
            obtain ⟨w3, rfl⟩ : ∃ w3 : World, w3 = wr := ⟨_, rfl⟩
            by_cases hlta : a < k
            · obtain ⟨s, ⟨e1, e0⟩, e2, e3, e4, hs, hsN, hcm, hfz, HS⟩ := HV.at_ hn hlta hltb
              rcases hf : wTo (diagTo f k) k b a a b with _ | _
              · have HV2 := Lib.hid (show HasMat w3 lo g N (wTo (diagTo f k) k b (a + 1)) k from by rw [wTo_no hf]; exact HV)
                rw [hf] at hcm
                clear HV hf
                go_wp2
                go_roundw
                case rel => exact ⟨a + 1, by omega, by go_num, HV2.out, hb⟩
                case measure => simp [intOf]; omega
              · have HY := Lib.hid (wTo_yes hf)
                have HV2 := Lib.hid (show HasMat w3 lo g N (rowTo (wTo (diagTo f k) k b a) a b 0) k from HV.congr fun i j _ _ => (rowTo_zero _ a b i j).symm)
                rw [hf] at hcm
                clear HV hf
                generalize wTo (diagTo f k) k b a = F at *
                go_wp2
                go_loopw [7] (fun i wr => ∃ c : Nat, c ≤ k ∧ i = .int .i64 c ∧ HasMat wr lo g N (rowTo F a b c) k ∧ Below lo w wr) (fun i _ => k - (intOf i).toNat)
                case atStart => exact ⟨0, Nat.zero_le _, rfl, HV2.out, hb⟩
                case round =>
                  obtain ⟨c, hck, rfl, HV, hb⟩ := hrel
                  clear HV2 hcm hfz e1 e0 e2 e3 e4 hs hsN HS
                  obtain ⟨w4, rfl⟩ : ∃ w4 : World, w4 = wr := ⟨_, rfl⟩
                  by_cases hltc : c < k
                  · obtain ⟨t, ⟨g1, g0⟩, g2, g3, g4, ht, htN, hct, hft, HT⟩ := HV.at_ hn hltb hltc
                    obtain ⟨t', ⟨g1', g0'⟩, g2', g3', g4', ht', htN', hct', hft', HT'⟩ := HV.at_ hn hlta hltc
                    rw [rowTo_at] at hct
                    have HV2 := Lib.hid HV
                    have HB := Lib.hid hb
                    rcases hf : F b c with _ | _
                    · have HF := Lib.hid hf
                      rw [hf] at hct
                      clear HV hb hf
                      go_wp2
                      go_roundw
                      case rel => exact ⟨c + 1, by omega, by go_num, HV2.out.congr fun i j _ _ => (rowTo_no HF.out i j).symm, HB.out⟩
                      case measure => simp [intOf]; omega
                    · have HF := Lib.hid hf
                      rw [hf] at hct
                      clear HV hb hf
                      go_wp2
                      go_roundw
                      case rel => exact ⟨c + 1, by omega, by go_num, (HV2.out.put hlta hltc HT').congr fun i j _ _ => (rowTo_yes HF.out i j).symm, HB.out.setCell hlo _⟩
                      case measure => simp [intOf]; omega
                  · obtain rfl : c = k := by omega
                    have HV2 := Lib.hid (show HasMat w4 lo g N (wTo (diagTo f c) c b (a + 1)) c from by rw [HY.out]; exact HV.congr fun i j _ hj => rowTo_all hj)
                    clear HV
                    go_wp2
                    go_roundw
                    case rel => exact ⟨a + 1, by omega, by go_num, HV2.out, hb⟩
                    case measure => simp [intOf]; omega
            · obtain rfl : a = k := by omega
              have HV2 := Lib.hid (show HasMat w3 lo g N (wAll (diagTo f a) a (b + 1)) a from HV)
              clear HV
              go_wp2
              go_roundw
              case rel => exact ⟨b + 1, by omega, by go_num, HV2.out, hb⟩
              case measure => simp [intOf]; omega
        · obtain rfl : b = k := by omega
          have HV2 := Lib.hid HV
          clear HV
          go_wp2
          exact bodyPost_end (results_none rfl _ _ _) rfl ⟨rfl, HV2.out, hb⟩
end Go.Proofs.Ythnopigibjmgbaa
