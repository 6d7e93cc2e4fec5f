/- The closure of a relation, by the model and the program. -/
import Derived.Test.YthnopigibjmgbaaProg
import Derived.WalkKit
import Derived.ProofKit
import Derived.BigQuiet
import Derived.Outline
import Derived.IntWalk
import Derived.StillTailTactics
import Derived.Test.YthnopigibjmgbaaMem
import Derived.Test.YthnopigibjmgbaaOwn
import Derived.Test.YthnopigibjmgbaaTurn
import Derived.Test.YthnopigibjmgbaaLawI
import Derived.Test.YthnopigibjmgbaaLawI2
import Derived.Test.YthnopigibjmgbaaLawII
import Derived.Test.YthnopigibjmgbaaPart3
import Derived.Test.YthnopigibjmgbaaRelM
import Derived.Test.YthnopigibjmgbaaBuild
import Derived.Test.YthnopigibjmgbaaPairs
import Derived.Test.YthnopigibjmgbaaRowsM
import Derived.Test.YthnopigibjmgbaaRows2
import Derived.Test.YthnopigibjmgbaaRows3
import Derived.Test.YthnopigibjmgbaaRel
import Derived.Test.YthnopigibjmgbaaMat
import Derived.Test.YthnopigibjmgbaaRelF
import Derived.Test.YthnopigibjmgbaaRelG
import Derived.Test.YthnopigibjmgbaaRelH
import Derived.Test.YthnopigibjmgbaaRelI
namespace Go.Proofs.Ythnopigibjmgbaa
open Go.RowKit
set_option maxHeartbeats 4000000 in
set_option maxRecDepth 100000 in
theorem specClose_any (nn : Int) (A : Option Addr) (len c : Nat) (r : List (List Int)) (w : World) (B : Nat) (h : RRow w B A r) (hB : B ≤ w.heap.size) (l : r.length = len) (m : len ≤ 2000000) (m2 : ∀ xs ∈ r, xs.length ≤ 2000000) :
    Calls Try.prog 54 #[.int .i64 nn, .slice A len c] w fun e w' => RetJ2 w (closeL nn r) e w' := by
  have C := Lib.hid (l02Relation_any nn A len c r w B h l m m2)
  rcases hr : relB nn r with _ | _
  · have HR := Lib.hid hr
    have HI := Lib.hid (closeL_no hr)
    clear l m2 hr
    go_enter Try.func54, Try.ntmps54
    go_wp2_with (go_at_call 86; refine (C.out).mono ?_; rw [HR.out]; rintro e w1 ⟨rfl, hD⟩)
    go_ret2
    exact RetJ2.nil HI.out (hD.below _)
  · obtain ⟨n, rfl, hn1, hn⟩ := rel_nat hr
    have HI := Lib.hid (closeL_yes hr)
    have HR := Lib.hid hr
    obtain ⟨N, hN0⟩ : ∃ N, N = n * n := ⟨_, rfl⟩
    have hN := Lib.hid hN0
    clear hN0
    have C3 := Lib.hid (fun wx (hd : Drawn w wx) => l02Matrix_any n A len c r wx B (h.drawn hd) (by have := (hd.below w.heap.size).size; omega) l m hr N hN)
    clear l m2 hr hn1
    go_enter Try.func54, Try.ntmps54
    go_wp2_with fail
    refine (C.out).mono ?_; rw [HR.out]; rintro e w0 ⟨rfl, hD0⟩
    have HD := Lib.hid hD0
    clear hD0 C
    go_wp2_with fail
    refine (C3.out _ HD.out).mono ?_; rintro e w1 ⟨rfl, hm1, hb1⟩
    have HM := Lib.hid hm1
    have HB1 := Lib.hid ((HD.out.below w.heap.size).trans (hb1.mono ((HD.out.below w.heap.size).size)))
    have hs0 := (HD.out.below w.heap.size).size
    have hs1 := hb1.size
    clear hm1 hb1 C3
    go_wp2_with fail
    refine (l02Close_any w0.heap.size N n _ w1 w0.heap.size HM.out hn (Nat.le_refl _)).mono ?_; rintro e w2 ⟨rfl, hm2, hb2⟩
    have HM2 := Lib.hid hm2
    have hs2 := hb2.size
    have HB2 := Lib.hid (HB1.out.trans (hb2.mono hs0))
    clear hm2 hb2
    go_wp2_with fail
    refine (l02List_any w0.heap.size N n _ w2 w0.heap.size HM2.out hn).mono ?_; rintro e w3 ⟨v, rfl, hv, hb3⟩
    go_wp2
    go_ret2
    exact RetJ2.mk' HI.out (hv.base (by omega)) (HB2.out.trans (hb3.mono (by omega)))
set_option maxHeartbeats 4000000 in
set_option maxRecDepth 100000 in
theorem implClose_any (nn : Int) (A : Option Addr) (len c : Nat) (r : List (List Int)) (w : World) (B : Nat) (h : RRow w B A r) (hB : B ≤ w.heap.size) (l : r.length = len) (m : len ≤ 2000000) (m2 : ∀ xs ∈ r, xs.length ≤ 2000000) :
    Calls Try.prog 19 #[.int .i64 nn, .slice A len c] w fun e w' => RetJ2 w (closeL nn r) e w' := by
  have C := Lib.hid (implRel_any nn A len c r w B h l m m2)
  rcases hr : relB nn r with _ | _
  · have HR := Lib.hid hr
    have HI := Lib.hid (closeL_no hr)
    clear l m2 hr
    go_enter Try.func19, Try.ntmps19
    go_wp2_with (go_at_call 51; refine (C.out).mono ?_; rw [HR.out]; rintro e w1 ⟨rfl, hD⟩)
    go_ret2
    exact RetJ2.nil HI.out (hD.below _)
  · obtain ⟨n, rfl, hn1, hn⟩ := rel_nat hr
    have HI := Lib.hid (closeL_yes hr)
    have HR := Lib.hid hr
    have C3 := Lib.hid (fun wx (hd : Drawn w wx) => rowsOf_any n A len c r wx B (h.drawn hd) (by have := (hd.below w.heap.size).size; omega) l m hr)
    clear l m2 hr hn1
    go_enter Try.func19, Try.ntmps19
    go_wp2_with fail
    refine (C.out).mono ?_; rw [HR.out]; rintro e w0 ⟨rfl, hD0⟩
    have HD := Lib.hid hD0
    clear hD0 C
    go_wp2_with fail
    refine (C3.out _ HD.out).mono ?_; rintro e w1 ⟨rfl, hm1, hb1⟩
    have HM := Lib.hid (show HasWords w1 w0.heap.size w0.heap.size (diagTo (memF r) 0) from hm1.congr fun i j _ _ => (diagTo_zero _ i j).symm)
    have hbw := HD.out.below w.heap.size
    have hs0 := hbw.size
    clear hm1 C3
    go_wp2
    go_loopw [17] (fun i wr => ∃ k : Nat, k ≤ n ∧ i = .int .i64 k ∧ HasWords wr w0.heap.size w0.heap.size (diagTo (memF r) k) ∧ Below w0.heap.size w0 wr) (fun i _ => n - (intOf i).toNat)
    case atStart => exact ⟨0, Nat.zero_le _, rfl, HM.out, hb1⟩
    case round =>
      obtain ⟨k, hk, rfl, HV, hb⟩ := hrel
      clear HM hb1
      by_cases hlt : k < n
      · have C := Lib.hid (add_any w0.heap.size k k (diagTo (memF r) k) wr w0.heap.size HV (by omega) (by omega))
        have HB := Lib.hid hb
        clear hb HV
        go_wp2_with (go_at_call 60; refine (C.out).mono ?_; rintro e w' ⟨rfl, hw, hg⟩; have HW := Lib.hid hw; have HG := Lib.hid hg; clear hw hg)
        go_roundw
        case rel => exact ⟨k + 1, by omega, by go_num, HW.out.congr fun i j _ _ => (diagTo_next _ k i j).symm, HB.out.grown HG.out HB.out.size (fun g e => by cases e; exact Nat.le_refl _)⟩
        case measure => simp [intOf]; omega
      · obtain rfl : k = n := by omega
        have HV2 := Lib.hid (show HasWords wr w0.heap.size w0.heap.size (wAll (diagTo (memF r) k) k 0) from HV)
        clear HV
        obtain ⟨w1, rfl⟩ : ∃ w1 : World, w1 = wr := ⟨_, rfl⟩
        go_wp2
        go_loopw [26] (fun i wr => ∃ b : Nat, b ≤ k ∧ i = .int .i64 b ∧ HasWords wr w0.heap.size w0.heap.size (wAll (diagTo (memF r) k) k b) ∧ Below w0.heap.size w0 wr) (fun i _ => k - (intOf i).toNat)
        case atStart => exact ⟨0, Nat.zero_le _, rfl, HV2.out, hb⟩
        case round =>
          obtain ⟨b, hbk, rfl, HV, hb⟩ := hrel
          clear HV2
          obtain ⟨w2, rfl⟩ : ∃ w2 : World, w2 = wr := ⟨_, rfl⟩
          by_cases hltb : b < k
          · have HV2 := Lib.hid (show HasWords w2 w0.heap.size w0.heap.size (wTo (diagTo (memF r) k) k b 0) from HV)
            clear HV
            go_wp2
            go_loopw [30] (fun i wr => ∃ a : Nat, a ≤ k ∧ i = .int .i64 a ∧ HasWords wr w0.heap.size w0.heap.size (wTo (diagTo (memF r) k) k b a) ∧ Below w0.heap.size w0 wr) (fun i _ => k - (intOf i).toNat)
            case atStart => exact ⟨0, Nat.zero_le _, rfl, HV2.out, hb⟩
            case round =>
              obtain ⟨a, hak, rfl, HV, hb⟩ := hrel
              clear HV2
              obtain ⟨w3, rfl⟩ : ∃ w3 : World, w3 = wr := ⟨_, rfl⟩
              by_cases hlta : a < k
              · have C := Lib.hid (has_any w0.heap.size a b (wTo (diagTo (memF r) k) k b a) w3 w0.heap.size HV (by omega) (by omega))
                have ha40 : (a : Int) < 40 := by omega
                have hb40 : (b : Int) < 40 := by omega
                rcases hf : wTo (diagTo (memF r) k) k b a a b with _ | _
                · have HV2 := Lib.hid (show HasWords w3 w0.heap.size w0.heap.size (wTo (diagTo (memF r) k) k b (a + 1)) from by rw [wTo_no hf]; exact HV)
                  have HF := Lib.hid hf
                  clear HV hf
                  go_wp2_with (go_at_call 61; refine (C.out).mono ?_; rw [HF.out]; rintro e w' ⟨rfl, rfl⟩)
                  go_roundw
                  case rel => exact ⟨a + 1, by omega, by go_num, HV2.out, hb⟩
                  case measure => simp [intOf]; omega
                · have HY := Lib.hid (wTo_yes hf)
                  obtain ⟨x, xs, hcx, hwx, hxs, hbits, hw, hfz⟩ := HV.at_ (show a < 40 by omega)
                  obtain ⟨y, ys, hcy, hwy, hys, hbits', hw', hfz'⟩ := HV.at_ (show b < 40 by omega)
                  have hcx2 : w3.drew.cell? ⟨w0.heap.size, a, none⟩ = some (.int .u64 x) := hcx
                  have hcy2 : w3.drew.cell? ⟨w0.heap.size, b, none⟩ = some (.int .u64 y) := hcy
                  have hfz2 : w3.drew.frozen? ⟨w0.heap.size, a, none⟩ = false := hfz
                  have HF := Lib.hid hf
                  have HB := Lib.hid hb
                  clear HV hf hb
                  go_wp2_with (go_at_call 61; refine (C.out).mono ?_; rw [HF.out]; rintro e w' ⟨rfl, rfl⟩)
                  go_still_tail 13, (by kernel_rfl)
                  change wpList _ _ _ _ _ w3.drew
                  go_wp2
                  go_roundw
                  case rel => exact ⟨a + 1, by omega, by go_num, ⟨_, (hbits.out.row hxs.out hwy.out).congr fun i j _ _ => by rw [HY.out], own_drawn (hw.out.put a _) (Drawn.refl _).drew⟩, (HB.out.setCell (Nat.le_refl _) _).trans (below_drewN _ _ 1)⟩
                  case measure => simp [intOf]; omega
              · obtain rfl : a = k := by omega
                have HV2 := Lib.hid (show HasWords w3 w0.heap.size w0.heap.size (wAll (diagTo (memF r) a) a (b + 1)) from HV)
                clear HV
                go_wp2
                go_roundw
                case rel => exact ⟨b + 1, by omega, by go_num, HV2.out, hb⟩
                case measure => simp [intOf]; omega
          · obtain rfl : b = k := by omega
            have HV2 := Lib.hid (show HasWords w2 w0.heap.size w0.heap.size (closeF b r) from HV)
            have HB := Lib.hid hb
            have C2 := Lib.hid (rowsPairs_any w0.heap.size b _ w2 w0.heap.size HV2.out hn)
            clear HV hb
            go_wp2_with (go_at_call 62; refine (C2.out).mono ?_; rintro e w5 ⟨v, rfl, hv, hb5⟩)
            go_ret2
            exact RetJ2.mk' HI.out (hv.base (by have := HB.out.size; omega)) (hbw.trans ((HB.out.mono hs0).trans (hb5.mono (by have := HB.out.size; omega))))
end Go.Proofs.Ythnopigibjmgbaa
