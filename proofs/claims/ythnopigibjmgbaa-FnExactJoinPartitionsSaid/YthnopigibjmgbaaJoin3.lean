/- The join of two partitions by the model. -/
import Derived.Test.YthnopigibjmgbaaProg
import Derived.WalkKit
import Derived.ProofKit
import Derived.BigQuiet
import Derived.Outline
import Derived.IntWalk
import Derived.StillTailTactics
import Derived.OwnWalk
import Derived.Test.YthnopigibjmgbaaMem
import Derived.Test.YthnopigibjmgbaaOwn
import Derived.Test.YthnopigibjmgbaaTurn
import Derived.Test.YthnopigibjmgbaaLawI
import Derived.Test.YthnopigibjmgbaaLawI2
import Derived.Test.YthnopigibjmgbaaPartM
import Derived.Test.YthnopigibjmgbaaPart
import Derived.Test.YthnopigibjmgbaaPart2
import Derived.Test.YthnopigibjmgbaaPart3
import Derived.Test.YthnopigibjmgbaaBuild
import Derived.Test.YthnopigibjmgbaaForM
import Derived.Test.YthnopigibjmgbaaFor
import Derived.Test.YthnopigibjmgbaaFor2
import Derived.Test.YthnopigibjmgbaaSpan
import Derived.Test.YthnopigibjmgbaaJoinM
import Derived.Test.YthnopigibjmgbaaJoin
import Derived.Test.YthnopigibjmgbaaJoin2
namespace Go.Proofs.Ythnopigibjmgbaa
open Go.RowKit
set_option maxHeartbeats 4000000 in
set_option maxRecDepth 100000 in
theorem specJoin_any (A1 : Option Addr) (n1 c1 : Nat) (p : List Int) (A2 : Option Addr) (n2 c2 : Nat) (q : List Int) (w : World) (B1 : Nat) (h1 : IRow w B1 A1 p) (hB1 : B1 ≤ w.heap.size) (l1 : p.length = n1) (m1 : n1 ≤ 2000000)
    (B2 : Nat) (h2 : IRow w B2 A2 q) (hB2 : B2 ≤ w.heap.size) (l2 : q.length = n2) (m2 : n2 ≤ 2000000) :
    Calls Try.prog 46 #[.slice A1 n1 c1, .slice A2 n2 c2] w fun e w' => RetI2 w (joinL p q) e w' := by
  have C1 := Lib.hid (l02Is_any A1 n1 c1 p w B1 h1 l1 m1)
  have C2 := Lib.hid (l02Is_any A2 n2 c2 q w B2 h2 l2 m2)
  rcases hp : partB p with _ | _
  · have HR := Lib.hid (joinL_no (fault_bad (p := p) (q := q) (.inl hp)) (by omega))
    have HP := Lib.hid hp
    clear hp l1 l2
    go_enter Try.func46, Try.ntmps46
    go_wp2_with (go_at_call 66; refine (C1.out).mono ?_; rw [HP.out]; rintro e w' ⟨rfl, rfl⟩)
    go_ret2
    exact RetI2.nil HR.out (Below.refl _ _)
  rcases hq : partB q with _ | _
  · have HR := Lib.hid (joinL_no (fault_bad (p := p) (q := q) (.inr hq)) (by omega))
    have HP := Lib.hid hp
    have HQ := Lib.hid hq
    clear hp hq l1 l2
    go_enter Try.func46, Try.ntmps46
    go_wp2_with fail
    refine (C1.out).mono ?_; rw [HP.out]; rintro e w' ⟨rfl, rfl⟩
    go_wp2_with fail
    refine (C2.out).mono ?_; rw [HQ.out]; rintro e w' ⟨rfl, rfl⟩
    go_wp2
    go_ret2
    exact RetI2.nil HR.out (Below.refl _ _)
  by_cases hn : n1 = n2
  · have HR := Lib.hid (joinL_yes (fault_ok hp hq (by omega)))
    have HP := Lib.hid hp
    have HQ := Lib.hid hq
    subst hn
    have m40 : n1 ≤ 40 := by have := (small_wf hp).1; omega
    have h0 : 0 < n1 := by have := (small_wf hp).2; omega
    have hne : ((n1 : Int) != (n1 : Int)) = false := by simp
    have L1 := Lib.hid l1
    have L2 := Lib.hid l2
    clear hp hq l1 l2
    go_enter Try.func46, Try.ntmps46
    go_wp2_with fail
    refine (C1.out).mono ?_; rw [HP.out]; rintro e w' ⟨rfl, rfl⟩
    go_wp2_with fail
    refine (C2.out).mono ?_; rw [HQ.out]; rintro e w' ⟨rfl, rfl⟩
    go_wp2_with fail
    refine (l00Own_any A1 n1 c1 p w B1 h1 hB1 L1.out m40 h0).mono ?_; rintro e w0 ⟨A', c', rfl, ho, hb0⟩
    obtain ⟨g, rfl, hg1, hg2⟩ := own_addr ho h0
    have HO := Lib.hid ho
    have hs0 := hb0.size
    have hq0 := h2.below (hb0.mono hB2)
    clear ho C1 C2
    go_wp2
    go_loopw [7] (fun i wr => ∃ k : Nat, k ≤ n1 ∧ i = .int .i64 k ∧ Hid (∃ xs, Ker xs n1 (blocksR (blocksR (fun j => j) p n1) q k) ∧ wr.ownsRow w.heap.size 2 1 (.slice (some ⟨g, 0, none⟩) n1 c') n1 (xs.map (Value.int .i64))) ∧ Below w.heap.size w wr) (fun i _ => n1 - (intOf i).toNat)
    case atStart => exact ⟨0, Nat.zero_le _, rfl, Lib.hid ⟨p, Ker.self L1.out, HO.out⟩, hb0⟩
    case round =>
      obtain ⟨k, hk, rfl, HV, hb⟩ := hrel
      clear HO hb0 hq0
      obtain ⟨wo, rfl⟩ : ∃ wo : World, wo = wr := ⟨_, rfl⟩
      by_cases hlt : k < n1
      · obtain ⟨b, o, u, rfl, hbB, hc, hu⟩ := (h2.below (hb.mono hB2)).at_ (k := k) (by rw [L2.out]; exact hlt)
        have HV2 := Lib.hid (show ∃ xs, Ker xs n1 (joinMid (blocksR (fun j => j) p n1) q k 0) ∧ wo.ownsRow w.heap.size 2 1 (.slice (some ⟨g, 0, none⟩) n1 c') n1 (xs.map (Value.int .i64)) from by rw [joinMid_zero]; exact HV.out)
        clear HV
        go_wp2
        go_loopw [8] (fun i wr => ∃ t : Nat, t ≤ k ∧ i = .int .i64 t ∧ Hid (∃ xs, Ker xs n1 (joinMid (blocksR (fun j => j) p n1) q k t) ∧ wr.ownsRow w.heap.size 2 1 (.slice (some ⟨g, 0, none⟩) n1 c') n1 (xs.map (Value.int .i64))) ∧ Below w.heap.size w wr) (fun i _ => k - (intOf i).toNat)
        case atStart => exact ⟨0, Nat.zero_le _, rfl, HV2, hb⟩
        case round =>
          obtain ⟨t, ht, rfl, HV, hb⟩ := hrel
          clear HV2
          obtain ⟨wi, rfl⟩ : ∃ wi : World, wi = wr := ⟨_, rfl⟩
          by_cases hlt2 : t < k
          · obtain ⟨b1, o1, u1, hbe, hbB1, hc1, hu1⟩ := (h2.below (hb.mono hB2)).at_ (k := k) (by rw [L2.out]; exact hlt)
            obtain ⟨rfl, rfl⟩ : b1 = b ∧ o1 = o := by simp only [Option.some.injEq, Addr.mk.injEq, and_true] at hbe; exact ⟨hbe.1.symm, hbe.2.symm⟩
            clear hbe
            obtain rfl : u1 = u := by have := hu1.out.symm.trans hu.out; injection this
            obtain ⟨b2, o2, v, hbe, hbB2, hc2, hv⟩ := (h2.below (hb.mono hB2)).at_ (k := t) (by rw [L2.out]; omega)
            obtain ⟨rfl, rfl⟩ : b2 = b1 ∧ o2 = o1 := by simp only [Option.some.injEq, Addr.mk.injEq, and_true] at hbe; exact ⟨hbe.1.symm, hbe.2.symm⟩
            clear hbe
            obtain ⟨xs, hK, hown⟩ := HV.out
            have HB := Lib.hid hb
            by_cases he : u1 = v
            · subst he
              have hbe : (u1 == u1) = true := by simp
              obtain ⟨x1, hx1⟩ : ∃ x, xs[t]? = some x := ⟨_, List.getElem?_eq_getElem (by rw [hK.1]; omega)⟩
              obtain ⟨x2, hx2⟩ : ∃ x, xs[k]? = some x := ⟨_, List.getElem?_eq_getElem (by rw [hK.1]; omega)⟩
              have C := Lib.hid (fun wx (hd : Drawn wi wx) => l02Merge_any w.heap.size g n1 c' t k xs x1 x2 wx (own_drawn hown hd) hx1 hx2 m1)
              have HK := Lib.hid ((hK.merge hx1 hx2).congr fun i j _ _ => joinMid_yes hu.out hv.out hlt2 i j)
              clear hb HV hK hown hx1 hx2
              go_wp2
              go_quiet (fail)
              go_wp2_with (go_at_call 83; refine (C.out _ ((Drawn.refl _).drewN _)).mono ?_; rintro e w' ⟨rfl, hw, hg⟩; have HW := Lib.hid hw; have HG := Lib.hid hg; clear hw hg)
              go_roundw
              case rel => exact ⟨t + 1, by omega, by go_num, Lib.hid ⟨_, HK.out, HW.out⟩, (HB.out.trans (below_drewN _ _ _)).grown HG.out HB.out.size (fun g e => by cases e; exact hg1)⟩
              case measure => simp [intOf]; omega
            · have hbe : (u1 == v) = false := by simp [he]
              have HK := Lib.hid (show ∃ xs, Ker xs n1 (joinMid (blocksR (fun j => j) p n1) q k (t + 1)) ∧ wi.ownsRow w.heap.size 2 1 (.slice (some ⟨g, 0, none⟩) n1 c') n1 (xs.map (Value.int .i64)) from by rw [joinMid_no hu.out hv.out he]; exact ⟨xs, hK, hown⟩)
              clear hb HV hK hown he
              go_wp2
              go_quiet (fail)
              go_wp2
              go_roundw
              case rel => exact ⟨t + 1, by omega, by go_num, Lib.hid (by obtain ⟨xs, a, b⟩ := HK.out; exact ⟨xs, a, own_drawn b ((Drawn.refl _).drewN _)⟩), HB.out.trans (below_drewN _ _ _)⟩
              case measure => simp [intOf]; omega
          · obtain rfl : t = k := by omega
            have HK := Lib.hid (show ∃ xs, Ker xs n1 (blocksR (blocksR (fun j => j) p n1) q (t + 1)) ∧ wi.ownsRow w.heap.size 2 1 (.slice (some ⟨g, 0, none⟩) n1 c') n1 (xs.map (Value.int .i64)) from by
              obtain ⟨xs, a, b⟩ := HV.out
              exact ⟨xs, a.congr fun i j _ _ => joinMid_all hu.out, b⟩)
            clear HV
            go_wp2
            go_roundw
            case rel => exact ⟨t + 1, by omega, by go_num, HK, hb⟩
            case measure => simp [intOf]; omega
      · obtain rfl : k = n1 := by omega
        obtain ⟨xs, hK, hown⟩ := HV.out
        have HB := Lib.hid hb
        have HN := Lib.hid (show normL xs = normL (rootsL k (joinR p q k)) from hK.norm)
        have C2 := Lib.hid (l02Norm_any (some ⟨g, 0, none⟩) k c' xs wo wo.heap.size (Row.of_own hown) (Nat.le_refl _) hK.1 m1)
        clear HV hb hK hown
        go_wp2_with (go_at_call 70; refine (C2.out).mono ?_; rintro e w3 ⟨rfl, ho, hb3⟩; have HO := Lib.hid ho; have HB3 := Lib.hid hb3; clear ho hb3)
        go_ret2
        exact RetI2.mk' (HR.out.trans (by rw [L1.out, ← HN.out])) (own_base' HO.out HB.out.size) (HB.out.trans (HB3.out.mono HB.out.size))
  · have HR := Lib.hid (joinL_no (fault_len (p := p) (q := q) hp hq (by omega)) (by omega))
    have hne : ((n1 : Int) != (n2 : Int)) = true := by simp; omega
    have HP := Lib.hid hp
    have HQ := Lib.hid hq
    clear hp hq l1 l2 hn
    go_enter Try.func46, Try.ntmps46
    go_wp2_with fail
    refine (C1.out).mono ?_; rw [HP.out]; rintro e w' ⟨rfl, rfl⟩
    go_wp2_with fail
    refine (C2.out).mono ?_; rw [HQ.out]; rintro e w' ⟨rfl, rfl⟩
    go_wp2
    go_ret2
    exact RetI2.nil HR.out (Below.refl _ _)
end Go.Proofs.Ythnopigibjmgbaa
