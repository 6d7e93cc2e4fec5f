/- Systems compared: the model's functions. -/
import Derived.Test.YtnlpfomgicdbmaaSameF
import Derived.Test.YtnlpfomgicdbmaaSameB
namespace Go.Proofs.Ytnlpfomgicdbmaa
open Go.RowKit
set_option maxRecDepth 100000 in
set_option maxHeartbeats 16000000 in
theorem l05Same_any (p1 p2 : Nat) (x y : Sy) (A1 A2 A3 A4 A5 : Option Addr) (c1 c2 c3 c4 c5 : Nat) (B1 B2 B3 B4 B5 : Option Addr) (d1 d2 d3 d4 d5 : Nat) (w : World) (S1 S2 : Nat → Prop) (m1 : x.ds.length ≤ maxLen) (m2 : x.cs.length ≤ maxLen) (m3 : x.ms.length ≤ maxLen) (m4 : x.al.length ≤ maxLen) (m5 : x.hd.length ≤ maxLen) (h1 : LRow dfR w S1 A1 x.ds) (h2 : LRow cpR w S1 A2 x.cs) (h3 : LRow mtR w S1 A3 x.ms) (h4 : LRow txtR w S1 A4 x.al) (h5 : LRow txtR w S1 A5 x.hd) (g1 : LRow dfR w S2 B1 y.ds) (g2 : LRow cpR w S2 B2 y.cs) (g3 : LRow mtR w S2 B3 y.ms) (g4 : LRow txtR w S2 B4 y.al) (g5 : LRow txtR w S2 B5 y.hd) (hS1 : ∀ b, S1 b → b < w.heap.size) (hS2 : ∀ b, S2 b → b < w.heap.size) (hp1 : p1 < w.heap.size) (hp2 : p2 < w.heap.size) (pp1 : w.cell? ⟨p1, 0, none⟩ = some (.slice A1 x.ds.length c1)) (pp2 : w.cell? ⟨p1, 1, none⟩ = some (.slice A2 x.cs.length c2)) (pp3 : w.cell? ⟨p1, 2, none⟩ = some (.slice A3 x.ms.length c3)) (pp4 : w.cell? ⟨p1, 3, none⟩ = some (.slice A4 x.al.length c4)) (pp5 : w.cell? ⟨p1, 4, none⟩ = some (.slice A5 x.hd.length c5)) (qq1 : w.cell? ⟨p2, 0, none⟩ = some (.slice B1 y.ds.length d1)) (qq2 : w.cell? ⟨p2, 1, none⟩ = some (.slice B2 y.cs.length d2)) (qq3 : w.cell? ⟨p2, 2, none⟩ = some (.slice B3 y.ms.length d3)) (qq4 : w.cell? ⟨p2, 3, none⟩ = some (.slice B4 y.al.length d4)) (qq5 : w.cell? ⟨p2, 4, none⟩ = some (.slice B5 y.hd.length d5)) :
    Calls Try.prog 13 #[.pointer (some ⟨p1, 0, none⟩), .pointer (some ⟨p2, 0, none⟩)] w fun e w' => e = .returned (.bool (syE x y)) ∧ Below w.heap.size w w' := by
  unfold maxLen at m1 m2 m3
  by_cases l1 : x.ds.length = y.ds.length
  rotate_left
  · have HF := Lib.hid (show syE x y = false by unfold syE; rw [show eqL dfE x.ds y.ds = false from eqL_len l1]; simp)
    have e1 : ((x.ds.length : Int) != (y.ds.length : Int)) = true := by simp; omega
    clear l1 h1 g1 h2 g2 h3 g3 h4 g4 h5 g5
    go_enter Try.func13, Try.ntmps13
    go_wp2
    go_quiet (fail)
    go_wp2
    go_ret
    exact ⟨ret_bool HF.out.symm, by repeat (first | exact Below.refl _ _ | exact below_drewN _ _ _)⟩
  by_cases l2 : x.cs.length = y.cs.length
  rotate_left
  · have HF := Lib.hid (show syE x y = false by unfold syE; rw [show eqL cpE x.cs y.cs = false from eqL_len l2]; simp)
    have e1 : ((x.ds.length : Int) != (y.ds.length : Int)) = false := by simp; omega
    have e2 : ((x.cs.length : Int) != (y.cs.length : Int)) = true := by simp; omega
    clear l1 l2 h1 g1 h2 g2 h3 g3 h4 g4 h5 g5
    go_enter Try.func13, Try.ntmps13
    go_wp2
    go_quiet (fail)
    go_wp2
    go_ret
    exact ⟨ret_bool HF.out.symm, by repeat (first | exact Below.refl _ _ | exact below_drewN _ _ _)⟩
  by_cases l3 : x.ms.length = y.ms.length
  rotate_left
  · have HF := Lib.hid (show syE x y = false by unfold syE; rw [show eqL mtE x.ms y.ms = false from eqL_len l3]; simp)
    have e1 : ((x.ds.length : Int) != (y.ds.length : Int)) = false := by simp; omega
    have e2 : ((x.cs.length : Int) != (y.cs.length : Int)) = false := by simp; omega
    have e3 : ((x.ms.length : Int) != (y.ms.length : Int)) = true := by simp; omega
    clear l1 l2 l3 h1 g1 h2 g2 h3 g3 h4 g4 h5 g5
    go_enter Try.func13, Try.ntmps13
    go_wp2
    go_quiet (fail)
    go_wp2
    go_ret
    exact ⟨ret_bool HF.out.symm, by repeat (first | exact Below.refl _ _ | exact below_drewN _ _ _)⟩
  have e1 : ((x.ds.length : Int) != (y.ds.length : Int)) = false := by simp; omega
  have e2 : ((x.cs.length : Int) != (y.cs.length : Int)) = false := by simp; omega
  have e3 : ((x.ms.length : Int) != (y.ms.length : Int)) = false := by simp; omega
  have LL1 := Lib.hid l1
  have LL2 := Lib.hid l2
  have LL3 := Lib.hid l3
  clear l1 l2 l3
  have H1 := Lib.hid h1
  have G1 := Lib.hid g1
  have H2 := Lib.hid h2
  have G2 := Lib.hid g2
  have H3 := Lib.hid h3
  have G3 := Lib.hid g3
  have H4 := Lib.hid h4
  have G4 := Lib.hid g4
  have H5 := Lib.hid h5
  have G5 := Lib.hid g5
  clear h1 g1 h2 g2 h3 g3 h4 g4 h5 g5
  go_enter Try.func13, Try.ntmps13
  go_wp2
  go_quiet (fail)
  go_wp2
  go_loopw [5] (fun i wr => ∃ k : Nat, k ≤ x.ds.length ∧ i = .int .i64 k ∧ Hid (Below w.heap.size w wr) ∧ Hid (eqL dfE x.ds y.ds = eqL dfE (x.ds.drop k) (y.ds.drop k))) (fun i _ => x.ds.length - (intOf i).toNat)
  case atStart => exact ⟨0, Nat.zero_le _, rfl, Lib.hid (by repeat (first | exact Below.refl _ _ | exact below_drewN _ _ _)), Lib.hid (by rw [List.drop_zero, List.drop_zero])⟩
  case round =>
    obtain ⟨k, hk, rfl, HB, HE⟩ := hrel
    have P1 : wr.cell? ⟨p1, 0, none⟩ = some (.slice A1 x.ds.length c1) := (HB.out.cell (p := ⟨p1, 0, none⟩) hp1).trans pp1
    have Q1 : wr.cell? ⟨p2, 0, none⟩ = some (.slice B1 y.ds.length d1) := (HB.out.cell (p := ⟨p2, 0, none⟩) hp2).trans qq1
    have P2 : wr.cell? ⟨p1, 1, none⟩ = some (.slice A2 x.cs.length c2) := (HB.out.cell (p := ⟨p1, 1, none⟩) hp1).trans pp2
    have Q2 : wr.cell? ⟨p2, 1, none⟩ = some (.slice B2 y.cs.length d2) := (HB.out.cell (p := ⟨p2, 1, none⟩) hp2).trans qq2
    have P3 : wr.cell? ⟨p1, 2, none⟩ = some (.slice A3 x.ms.length c3) := (HB.out.cell (p := ⟨p1, 2, none⟩) hp1).trans pp3
    have Q3 : wr.cell? ⟨p2, 2, none⟩ = some (.slice B3 y.ms.length d3) := (HB.out.cell (p := ⟨p2, 2, none⟩) hp2).trans qq3
    have P4 : wr.cell? ⟨p1, 3, none⟩ = some (.slice A4 x.al.length c4) := (HB.out.cell (p := ⟨p1, 3, none⟩) hp1).trans pp4
    have Q4 : wr.cell? ⟨p2, 3, none⟩ = some (.slice B4 y.al.length d4) := (HB.out.cell (p := ⟨p2, 3, none⟩) hp2).trans qq4
    have P5 : wr.cell? ⟨p1, 4, none⟩ = some (.slice A5 x.hd.length c5) := (HB.out.cell (p := ⟨p1, 4, none⟩) hp1).trans pp5
    have Q5 : wr.cell? ⟨p2, 4, none⟩ = some (.slice B5 y.hd.length d5) := (HB.out.cell (p := ⟨p2, 4, none⟩) hp2).trans qq5
    have hws := HB.out.size
    have hpw1 : p1 < wr.heap.size := Nat.lt_of_lt_of_le hp1 hws
    have hpw2 : p2 < wr.heap.size := Nat.lt_of_lt_of_le hp2 hws
    by_cases hlt : k < x.ds.length
    · obtain ⟨b1, o1, cs1, u, rfl, hb1, hR1, hu, hc1⟩ := (H1.out.keep (SameOn.of_below HB.out hS1)).at_ (k := k) hlt
      obtain ⟨b2, o2, cs2, v, rfl, hb2, hR2, hv, hc2⟩ := (G1.out.keep (SameOn.of_below HB.out hS2)).at_ (k := k) (by rw [← LL1.out]; exact hlt)
      have hlt2 : k < y.ds.length := by rw [← LL1.out]; exact hlt
      have hbw1 : b1 < wr.heap.size := Nat.lt_of_lt_of_le (hS1 b1 hb1) hws
      have hbw2 : b2 < wr.heap.size := Nat.lt_of_lt_of_le (hS2 b2 hb2) hws
      obtain ⟨U1, a1, rfl, hz1, hlc1, hcm1, hr1⟩ := hR1
      obtain ⟨U2, a2, rfl, hz2, hlc2, hcm2, hr2⟩ := hR2
      have s0 : wr.cell? ⟨b1, o1 + k * 3, none⟩ = some (.string u.nm) := hc1 0 _ rfl
      have s1 : wr.cell? ⟨b1, o1 + k * 3 + 1, none⟩ = some (.int .i64 u.ps) := hc1 1 _ rfl
      have s2 : wr.cell? ⟨b1, o1 + k * 3 + 2, none⟩ = some (.slice U1 u.body.length a1) := hc1 2 _ rfl
      have t0 : wr.cell? ⟨b2, o2 + k * 3, none⟩ = some (.string v.nm) := hc2 0 _ rfl
      have t1 : wr.cell? ⟨b2, o2 + k * 3 + 1, none⟩ = some (.int .i64 v.ps) := hc2 1 _ rfl
      have t2 : wr.cell? ⟨b2, o2 + k * 3 + 2, none⟩ = some (.slice U2 v.body.length a2) := hc2 2 _ rfl
      have C := Lib.hid (fun (W : World) (hW : Below wr.heap.size wr W) => (Calls.mono (l05SameParts_any U1 U2 u.body.length v.body.length a1 a2 u.body v.body W S1 S2 (hr1.keep (SameOn.of_below hW fun b hb => Nat.lt_of_lt_of_le (hS1 b hb) hws)) (hr2.keep (SameOn.of_below hW fun b hb => Nat.lt_of_lt_of_le (hS2 b hb) hws)) rfl rfl (Nat.le_trans hlc1 hcm1)) (fun e w' ⟨he, hb⟩ => (⟨he, hW.trans (hb.below _)⟩ : e = Ending.returned (Value.bool (eqL ptE u.body v.body)) ∧ Below wr.heap.size wr w'))))
      clear hc1 hc2 hr1 hr2 hz1 hz2 hlc1 hlc2 hcm1 hcm2
      rcases r0 : (u.nm.toList == v.nm.toList) with _ | _
      · have HF := Lib.hid (show syE x y = false by unfold syE; rw [eqL_no HE.out hu.out hv.out (by simp [dfE, txtE, r0])]; simp)
        go_wp2
        go_ret
        exact ⟨ret_bool HF.out.symm, by repeat (first | exact HB.out | refine Below.setCell ?_ (by first | omega | (simp <;> omega)) _ | refine Below.alloc ?_ (by first | omega | (simp <;> omega)) _)⟩
      rcases r1 : (u.ps == v.ps) with _ | _
      · have HF := Lib.hid (show syE x y = false by unfold syE; rw [eqL_no HE.out hu.out hv.out (by simp [dfE, txtE, r0, r1])]; simp)
        have r1' : (u.ps != v.ps) = true := by simp [bne, r1]
        go_wp2
        go_ret
        exact ⟨ret_bool HF.out.symm, by repeat (first | exact HB.out | refine Below.setCell ?_ (by first | omega | (simp <;> omega)) _ | refine Below.alloc ?_ (by first | omega | (simp <;> omega)) _)⟩
      have r1' : (u.ps != v.ps) = false := by simp [bne, r1]
      have HP := Lib.hid (show dfE u v = eqL ptE u.body v.body by simp [dfE, txtE, r0, r1])
      rcases r2 : eqL ptE u.body v.body with _ | _
      · have HF := Lib.hid (show syE x y = false by unfold syE; rw [eqL_no HE.out hu.out hv.out (by rw [HP.out, r2])]; simp)
        have HQ := Lib.hid r2
        clear r2
        go_wp2_with (go_at_call 31; refine (C.out _ (by repeat (first | exact Below.refl _ _ | refine Below.setCell ?_ (by simp) _ | refine Below.alloc ?_ (by simp <;> omega) _))).mono ?_; rw [HQ.out]; rintro e w2 ⟨rfl, b2⟩; have B2 := Lib.hid (HB.out.trans (b2.mono hws)); clear b2)
        go_ret
        exact ⟨ret_bool HF.out.symm, B2.out⟩
      · have HF := Lib.hid (eqL_next HE.out hu.out hv.out (by rw [HP.out, r2]))
        have HQ := Lib.hid r2
        clear r2
        go_wp2_with (go_at_call 31; refine (C.out _ (by repeat (first | exact Below.refl _ _ | refine Below.setCell ?_ (by simp) _ | refine Below.alloc ?_ (by simp <;> omega) _))).mono ?_; rw [HQ.out]; rintro e w2 ⟨rfl, b2⟩; have B2 := Lib.hid (HB.out.trans (b2.mono hws)); clear b2)
        go_roundw
        case rel => exact ⟨k + 1, by omega, by go_num, B2, HF⟩
        case measure => simp [intOf]; omega
    · have HE1 := Lib.hid (show eqL dfE x.ds y.ds = true by rw [HE.out, eqL_end (by omega) (by rw [← LL1.out]; omega)])
      obtain ⟨wo, rfl⟩ : ∃ wo, wo = wr := ⟨_, rfl⟩
      have HBO := HB
      clear HE
      go_wp2
      go_loopw [8] (fun i wr => ∃ k : Nat, k ≤ x.cs.length ∧ i = .int .i64 k ∧ Hid (Below w.heap.size w wr) ∧ Hid (eqL cpE x.cs y.cs = eqL cpE (x.cs.drop k) (y.cs.drop k))) (fun i _ => x.cs.length - (intOf i).toNat)
      case atStart => exact ⟨0, Nat.zero_le _, rfl, HBO, Lib.hid (by rw [List.drop_zero, List.drop_zero])⟩
      case round =>
        clear HB hws hpw1 hpw2 hlt hk P1 P2 P3 P4 P5 Q1 Q2 Q3 Q4 Q5 HBO
        obtain ⟨k, hk, rfl, HB, HE⟩ := hrel
        have P1 : wr.cell? ⟨p1, 0, none⟩ = some (.slice A1 x.ds.length c1) := (HB.out.cell (p := ⟨p1, 0, none⟩) hp1).trans pp1
        have Q1 : wr.cell? ⟨p2, 0, none⟩ = some (.slice B1 y.ds.length d1) := (HB.out.cell (p := ⟨p2, 0, none⟩) hp2).trans qq1
        have P2 : wr.cell? ⟨p1, 1, none⟩ = some (.slice A2 x.cs.length c2) := (HB.out.cell (p := ⟨p1, 1, none⟩) hp1).trans pp2
        have Q2 : wr.cell? ⟨p2, 1, none⟩ = some (.slice B2 y.cs.length d2) := (HB.out.cell (p := ⟨p2, 1, none⟩) hp2).trans qq2
        have P3 : wr.cell? ⟨p1, 2, none⟩ = some (.slice A3 x.ms.length c3) := (HB.out.cell (p := ⟨p1, 2, none⟩) hp1).trans pp3
        have Q3 : wr.cell? ⟨p2, 2, none⟩ = some (.slice B3 y.ms.length d3) := (HB.out.cell (p := ⟨p2, 2, none⟩) hp2).trans qq3
        have P4 : wr.cell? ⟨p1, 3, none⟩ = some (.slice A4 x.al.length c4) := (HB.out.cell (p := ⟨p1, 3, none⟩) hp1).trans pp4
        have Q4 : wr.cell? ⟨p2, 3, none⟩ = some (.slice B4 y.al.length d4) := (HB.out.cell (p := ⟨p2, 3, none⟩) hp2).trans qq4
        have P5 : wr.cell? ⟨p1, 4, none⟩ = some (.slice A5 x.hd.length c5) := (HB.out.cell (p := ⟨p1, 4, none⟩) hp1).trans pp5
        have Q5 : wr.cell? ⟨p2, 4, none⟩ = some (.slice B5 y.hd.length d5) := (HB.out.cell (p := ⟨p2, 4, none⟩) hp2).trans qq5
        have hws := HB.out.size
        have hpw1 : p1 < wr.heap.size := Nat.lt_of_lt_of_le hp1 hws
        have hpw2 : p2 < wr.heap.size := Nat.lt_of_lt_of_le hp2 hws
        by_cases hlt : k < x.cs.length
        · obtain ⟨b1, o1, cs1, u, rfl, hb1, hR1, hu, hc1⟩ := (H2.out.keep (SameOn.of_below HB.out hS1)).at_ (k := k) hlt
          obtain ⟨b2, o2, cs2, v, rfl, hb2, hR2, hv, hc2⟩ := (G2.out.keep (SameOn.of_below HB.out hS2)).at_ (k := k) (by rw [← LL2.out]; exact hlt)
          have hlt2 : k < y.cs.length := by rw [← LL2.out]; exact hlt
          obtain ⟨U1, a1, rfl, hlc1, hcm1, hr1⟩ := hR1
          obtain ⟨U2, a2, rfl, hlc2, hcm2, hr2⟩ := hR2
          have s0 : wr.cell? ⟨b1, o1 + k * 2, none⟩ = some (.int .i64 u.d) := hc1 0 _ rfl
          have s1 : wr.cell? ⟨b1, o1 + k * 2 + 1, none⟩ = some (.slice U1 u.vs.length a1) := hc1 1 _ rfl
          have t0 : wr.cell? ⟨b2, o2 + k * 2, none⟩ = some (.int .i64 v.d) := hc2 0 _ rfl
          have t1 : wr.cell? ⟨b2, o2 + k * 2 + 1, none⟩ = some (.slice U2 v.vs.length a2) := hc2 1 _ rfl
          have HDN := Lib.hid (fun n => HB.out.trans (below_drewN wr w.heap.size n))
          rcases r0 : (u.d == v.d) with _ | _
          · have HF := Lib.hid (show syE x y = false by unfold syE; rw [HE1.out, eqL_no HE.out hu.out hv.out (by simp [cpE, r0])]; simp)
            have r0' : (u.d != v.d) = true := by simp [bne, r0]
            clear hc1 hc2 hr1 hr2 hlc1 hlc2 hcm1 hcm2
            go_wp2
            go_quiet (fail)
            go_wp2
            go_ret
            exact ⟨ret_bool HF.out.symm, by first | exact HDN.out _ | exact HB.out⟩
          have r0' : (u.d != v.d) = false := by simp [bne, r0]
          have HP := Lib.hid (show cpE u v = eqL intE u.vs v.vs by simp [cpE, r0])
          have CQ := fun n => l00Same_any U1 U2 u.vs.length v.vs.length a1 a2 u.vs v.vs (wr.drewN n) S1 S2 (hr1.keep (SameOn.drewN S1 wr n)) (hr2.keep (SameOn.drewN S2 wr n)) rfl rfl (Nat.le_trans hlc1 hcm1)
          rcases r2 : eqL intE u.vs v.vs with _ | _
          · have HF := Lib.hid (show syE x y = false by unfold syE; rw [HE1.out, eqL_no HE.out hu.out hv.out (by rw [HP.out, r2])]; simp)
            rw [r2] at CQ
            have C := Lib.hid CQ
            clear hc1 hc2 hr1 hr2 hlc1 hlc2 hcm1 hcm2 CQ r2
            go_wp2
            go_quiet ((go_at_call 32; exact quiet_drawn (C.out _)))
            go_wp2
            go_ret
            exact ⟨ret_bool HF.out.symm, by first | exact HDN.out _ | exact HB.out⟩
          · have HF := Lib.hid (eqL_next HE.out hu.out hv.out (by rw [HP.out, r2]))
            rw [r2] at CQ
            have C := Lib.hid CQ
            clear hc1 hc2 hr1 hr2 hlc1 hlc2 hcm1 hcm2 CQ r2
            go_wp2
            go_quiet ((go_at_call 32; exact quiet_drawn (C.out _)))
            go_wp2
            go_roundw
            case rel => exact ⟨k + 1, by omega, by go_num, Lib.hid (by first | exact HDN.out _ | exact HB.out), HF⟩
            case measure => simp [intOf]; omega
        · have HE2 := Lib.hid (show eqL cpE x.cs y.cs = true by rw [HE.out, eqL_end (by omega) (by rw [← LL2.out]; omega)])
          obtain ⟨wo, rfl⟩ : ∃ wo, wo = wr := ⟨_, rfl⟩
          have HBO := HB
          clear HE
          go_wp2
          go_loopw [9] (fun i wr => ∃ k : Nat, k ≤ x.ms.length ∧ i = .int .i64 k ∧ Hid (Below w.heap.size w wr) ∧ Hid (eqL mtE x.ms y.ms = eqL mtE (x.ms.drop k) (y.ms.drop k))) (fun i _ => x.ms.length - (intOf i).toNat)
          case atStart => exact ⟨0, Nat.zero_le _, rfl, HBO, Lib.hid (by rw [List.drop_zero, List.drop_zero])⟩
          case round =>
            clear HB hws hpw1 hpw2 hlt hk P1 P2 P3 P4 P5 Q1 Q2 Q3 Q4 Q5 HBO
            obtain ⟨k, hk, rfl, HB, HE⟩ := hrel
            have P1 : wr.cell? ⟨p1, 0, none⟩ = some (.slice A1 x.ds.length c1) := (HB.out.cell (p := ⟨p1, 0, none⟩) hp1).trans pp1
            have Q1 : wr.cell? ⟨p2, 0, none⟩ = some (.slice B1 y.ds.length d1) := (HB.out.cell (p := ⟨p2, 0, none⟩) hp2).trans qq1
            have P2 : wr.cell? ⟨p1, 1, none⟩ = some (.slice A2 x.cs.length c2) := (HB.out.cell (p := ⟨p1, 1, none⟩) hp1).trans pp2
            have Q2 : wr.cell? ⟨p2, 1, none⟩ = some (.slice B2 y.cs.length d2) := (HB.out.cell (p := ⟨p2, 1, none⟩) hp2).trans qq2
            have P3 : wr.cell? ⟨p1, 2, none⟩ = some (.slice A3 x.ms.length c3) := (HB.out.cell (p := ⟨p1, 2, none⟩) hp1).trans pp3
            have Q3 : wr.cell? ⟨p2, 2, none⟩ = some (.slice B3 y.ms.length d3) := (HB.out.cell (p := ⟨p2, 2, none⟩) hp2).trans qq3
            have P4 : wr.cell? ⟨p1, 3, none⟩ = some (.slice A4 x.al.length c4) := (HB.out.cell (p := ⟨p1, 3, none⟩) hp1).trans pp4
            have Q4 : wr.cell? ⟨p2, 3, none⟩ = some (.slice B4 y.al.length d4) := (HB.out.cell (p := ⟨p2, 3, none⟩) hp2).trans qq4
            have P5 : wr.cell? ⟨p1, 4, none⟩ = some (.slice A5 x.hd.length c5) := (HB.out.cell (p := ⟨p1, 4, none⟩) hp1).trans pp5
            have Q5 : wr.cell? ⟨p2, 4, none⟩ = some (.slice B5 y.hd.length d5) := (HB.out.cell (p := ⟨p2, 4, none⟩) hp2).trans qq5
            have hws := HB.out.size
            have hpw1 : p1 < wr.heap.size := Nat.lt_of_lt_of_le hp1 hws
            have hpw2 : p2 < wr.heap.size := Nat.lt_of_lt_of_le hp2 hws
            have HDN := Lib.hid (fun n => HB.out.trans (below_drewN wr w.heap.size n))
            by_cases hlt : k < x.ms.length
            · obtain ⟨b1, o1, cs1, u, rfl, hb1, hR1, hu, hc1⟩ := (H3.out.keep (SameOn.of_below HB.out hS1)).at_ (k := k) hlt
              obtain ⟨b2, o2, cs2, v, rfl, hb2, hR2, hv, hc2⟩ := (G3.out.keep (SameOn.of_below HB.out hS2)).at_ (k := k) (by rw [← LL3.out]; exact hlt)
              have hlt2 : k < y.ms.length := by rw [← LL3.out]; exact hlt
              obtain ⟨rfl, hz10, hz11, hz12⟩ := hR1
              obtain ⟨rfl, hz20, hz21, hz22⟩ := hR2
              have s0 : wr.cell? ⟨b1, o1 + k * 3, none⟩ = some (.string u.l) := hc1 0 _ rfl
              have s1 : wr.cell? ⟨b1, o1 + k * 3 + 1, none⟩ = some (.string u.r) := hc1 1 _ rfl
              have s2 : wr.cell? ⟨b1, o1 + k * 3 + 2, none⟩ = some (.string u.s) := hc1 2 _ rfl
              have t0 : wr.cell? ⟨b2, o2 + k * 3, none⟩ = some (.string v.l) := hc2 0 _ rfl
              have t1 : wr.cell? ⟨b2, o2 + k * 3 + 1, none⟩ = some (.string v.r) := hc2 1 _ rfl
              have t2 : wr.cell? ⟨b2, o2 + k * 3 + 2, none⟩ = some (.string v.s) := hc2 2 _ rfl
              clear hc1 hc2 hz10 hz11 hz12 hz20 hz21 hz22
              have HN := fun W => neqMt u v W
              rcases r0 : mtE u v with _ | _
              · have HF := Lib.hid (show syE x y = false by unfold syE; rw [HE1.out, HE2.out, eqL_no HE.out hu.out hv.out r0]; simp)
                rw [r0] at HN
                clear r0
                go_wp2
                go_quiet (fail)
                go_wp2
                go_ret
                exact ⟨ret_bool HF.out.symm, by first | exact HDN.out _ | exact HB.out⟩
              · have HF := Lib.hid (eqL_next HE.out hu.out hv.out r0)
                rw [r0] at HN
                clear r0
                go_wp2
                go_quiet (fail)
                go_wp2
                go_roundw
                case rel => exact ⟨k + 1, by omega, by go_num, Lib.hid (by first | exact HDN.out _ | exact HB.out), HF⟩
                case measure => simp [intOf]; omega
            · have HE3 := Lib.hid (show eqL mtE x.ms y.ms = true by rw [HE.out, eqL_end (by omega) (by rw [← LL3.out]; omega)])
              have HS := Lib.hid (show syE x y = (eqL txtE x.al y.al && eqL txtE x.hd y.hd) by unfold syE; rw [HE1.out, HE2.out, HE3.out]; rfl)
              have CA := fun n => l11Texts_any A4 B4 x.al.length y.al.length c4 d4 x.al y.al (wr.drewN n) S1 S2 ((H4.out.keep (SameOn.of_below HB.out hS1)).keep (SameOn.drewN S1 wr n)) ((G4.out.keep (SameOn.of_below HB.out hS2)).keep (SameOn.drewN S2 wr n)) rfl rfl m4
              have CD := fun n => l11Texts_any A5 B5 x.hd.length y.hd.length c5 d5 x.hd y.hd (wr.drewN n) S1 S2 ((H5.out.keep (SameOn.of_below HB.out hS1)).keep (SameOn.drewN S1 wr n)) ((G5.out.keep (SameOn.of_below HB.out hS2)).keep (SameOn.drewN S2 wr n)) rfl rfl m5
              clear HE HE1 HE2 HE3
              rcases r1 : eqL txtE x.al y.al with _ | _
              · have HF := Lib.hid (show syE x y = false by rw [HS.out, r1]; rfl)
                rw [r1] at CA
                have C1 := Lib.hid CA
                clear CA CD r1 HS
                go_wp2
                go_quiet ((go_at_call 33; exact quiet_drawn (C1.out _)))
                go_wp2
                go_ret
                exact ⟨ret_bool HF.out.symm, by first | exact HDN.out _ | exact HB.out⟩
              · have HF := Lib.hid (show syE x y = eqL txtE x.hd y.hd by rw [HS.out, r1]; rfl)
                rw [r1] at CA
                have C1 := Lib.hid CA
                have C2 := Lib.hid CD
                clear CA CD r1 HS
                go_wp2
                go_quiet ((go_at_call 33; first | (with_reducible exact quiet_drawn (C1.out _)) | (with_reducible exact quiet_drawn (C2.out _))))
                go_wp2
                go_ret
                exact ⟨ret_bool HF.out.symm, by first | exact HDN.out _ | exact HB.out⟩
end Go.Proofs.Ytnlpfomgicdbmaa
