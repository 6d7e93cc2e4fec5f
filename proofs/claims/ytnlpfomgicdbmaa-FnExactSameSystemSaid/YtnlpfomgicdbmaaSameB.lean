/- Bodies compared: the model's function. -/
import Derived.Test.YtnlpfomgicdbmaaSameF
namespace Go.Proofs.Ytnlpfomgicdbmaa
open Go.RowKit
set_option maxRecDepth 100000 in
set_option maxHeartbeats 8000000 in
theorem l05SameParts_any (A1 A2 : Option Addr) (n1 n2 c1 c2 : Nat) (xs ys : List Pt) (w : World) (S1 S2 : Nat → Prop) (h1 : LRow ptR w S1 A1 xs) (h2 : LRow ptR w S2 A2 ys) (l1 : xs.length = n1) (l2 : ys.length = n2) (m1 : n1 ≤ maxLen) :
    Calls Try.prog 31 #[.slice A1 n1 c1, .slice A2 n2 c2] w fun e w' => e = .returned (.bool (eqL ptE xs ys)) ∧ Drawn w w' := by
  unfold maxLen at m1
  have L1 := Lib.hid l1
  have L2 := Lib.hid l2
  by_cases hl : n1 = n2
  · subst hl
    clear l1 l2
    go_enter Try.func31, Try.ntmps31
    go_wp2
    go_loopw [5] (fun i wr => ∃ k : Nat, k ≤ n1 ∧ i = .int .i64 k ∧ Hid (Drawn w wr) ∧ Hid (eqL ptE xs ys = eqL ptE (xs.drop k) (ys.drop k))) (fun i _ => n1 - (intOf i).toNat)
    case atStart => exact ⟨0, Nat.zero_le _, rfl, Lib.hid (Drawn.refl _), Lib.hid (by rw [List.drop_zero, List.drop_zero])⟩
    case round =>
      obtain ⟨k, hk, rfl, HD, HE⟩ := hrel
      by_cases hlt : k < n1
      · obtain ⟨b1, o1, cs1, x, rfl, hb1, hR1, hx, hc1⟩ := (h1.keep (SameOn.of_drawn HD.out)).at_ (k := k) (by rw [L1.out]; exact hlt)
        obtain ⟨b2, o2, cs2, y, rfl, hb2, hR2, hy, hc2⟩ := (h2.keep (SameOn.of_drawn HD.out)).at_ (k := k) (by rw [L2.out]; exact hlt)
        obtain ⟨B1, d1, rfl, hz1, hlc1, hcm1, hr1⟩ := hR1
        obtain ⟨B2, d2, rfl, hz2, hlc2, hcm2, hr2⟩ := hR2
        have p0 : wr.cell? ⟨b1, o1 + k * 4, none⟩ = some (.int .i64 x.k) := hc1 0 _ rfl
        have p1 : wr.cell? ⟨b1, o1 + k * 4 + 1, none⟩ = some (.int .i64 x.n) := hc1 1 _ rfl
        have p2 : wr.cell? ⟨b1, o1 + k * 4 + 2, none⟩ = some (.string x.nm) := hc1 2 _ rfl
        have p3 : wr.cell? ⟨b1, o1 + k * 4 + 3, none⟩ = some (.slice B1 x.args.length d1) := hc1 3 _ rfl
        have q0 : wr.cell? ⟨b2, o2 + k * 4, none⟩ = some (.int .i64 y.k) := hc2 0 _ rfl
        have q1 : wr.cell? ⟨b2, o2 + k * 4 + 1, none⟩ = some (.int .i64 y.n) := hc2 1 _ rfl
        have q2 : wr.cell? ⟨b2, o2 + k * 4 + 2, none⟩ = some (.string y.nm) := hc2 2 _ rfl
        have q3 : wr.cell? ⟨b2, o2 + k * 4 + 3, none⟩ = some (.slice B2 y.args.length d2) := hc2 3 _ rfl
        clear hc1 hc2 hz1 hz2
        have HDN := Lib.hid (fun n => HD.out.drewN n)
        have HR1 := Lib.hid hr1
        have HR2 := Lib.hid hr2
        clear hr1 hr2
        rcases t0 : (x.k == y.k) with _ | _
        · have HF := Lib.hid (show eqL ptE xs ys = false from eqL_no HE.out hx.out hy.out (by simp [ptE, t0]))
          have t0' : (x.k != y.k) = true := by simp [bne, t0]
          go_wp2
          go_quiet (fail)
          go_wp2
          go_ret
          exact ⟨ret_bool HF.out.symm, HDN.out _⟩
        rcases t1 : (x.n == y.n) with _ | _
        · have HF := Lib.hid (show eqL ptE xs ys = false from eqL_no HE.out hx.out hy.out (by simp [ptE, t0, t1]))
          have t0' : (x.k != y.k) = false := by simp [bne, t0]
          have t1' : (x.n != y.n) = true := by simp [bne, t1]
          go_wp2
          go_quiet (fail)
          go_wp2
          go_ret
          exact ⟨ret_bool HF.out.symm, HDN.out _⟩
        rcases t2 : (x.nm.toList == y.nm.toList) with _ | _
        · have HF := Lib.hid (show eqL ptE xs ys = false from eqL_no HE.out hx.out hy.out (by simp [ptE, txtE, t0, t1, t2]))
          have t0' : (x.k != y.k) = false := by simp [bne, t0]
          have t1' : (x.n != y.n) = false := by simp [bne, t1]
          go_wp2
          go_quiet (fail)
          go_wp2
          go_ret
          exact ⟨ret_bool HF.out.symm, HDN.out _⟩
        have t0' : (x.k != y.k) = false := by simp [bne, t0]
        have t1' : (x.n != y.n) = false := by simp [bne, t1]
        have HP := Lib.hid (show ptE x y = eqL (eqL tmE) x.args y.args by simp [ptE, txtE, t0, t1, t2])
        by_cases t3 : x.args.length = y.args.length
        · obtain ⟨nx, hnx⟩ : ∃ nx, x.args.length = nx := ⟨_, rfl⟩
          have hxm : nx ≤ 9223372036854775807 := by unfold maxLen at hcm1; omega
          have LX := Lib.hid hnx
          have LY := Lib.hid (t3.symm.trans hnx)
          rw [hnx] at p3
          rw [← t3, hnx] at q3
          clear t3 hnx hlc1 hlc2 hcm1 hcm2
          obtain ⟨wo, rfl⟩ : ∃ wo, wo = wr := ⟨_, rfl⟩
          go_wp2
          go_quiet (fail)
          go_wp2
          go_loopw [6] (fun j wv => ∃ m : Nat, m ≤ nx ∧ j = .int .i64 m ∧ Hid (Drawn wo wv) ∧ Hid (eqL (eqL tmE) x.args y.args = eqL (eqL tmE) (x.args.drop m) (y.args.drop m))) (fun j _ => nx - (intOf j).toNat)
          case atStart => exact ⟨0, Nat.zero_le _, rfl, Lib.hid (by first | exact ⟨_, rfl⟩ | exact Drawn.refl _), Lib.hid (by rw [List.drop_zero, List.drop_zero])⟩
          case round =>
            obtain ⟨m, hm, rfl, HV, HG⟩ := hrel
            have hcv : ∀ a, wr.cell? a = wo.cell? a := by
              obtain ⟨q, e⟩ := HV.out
              intro a
              rw [e]
              rfl
            have P3 : wr.cell? ⟨b1, o1 + k * 4 + 3, none⟩ = some (.slice B1 nx d1) := (hcv _).trans p3
            have Q3 : wr.cell? ⟨b2, o2 + k * 4 + 3, none⟩ = some (.slice B2 nx d2) := (hcv _).trans q3
            have P4 : wr.drew.cell? ⟨b1, o1 + k * 4 + 3, none⟩ = some (.slice B1 nx d1) := (hcv _).trans p3
            have Q4 : wr.drew.cell? ⟨b2, o2 + k * 4 + 3, none⟩ = some (.slice B2 nx d2) := (hcv _).trans q3
            clear hcv p0 p1 p2 p3 q0 q1 q2 q3
            by_cases hmt : m < nx
            · obtain ⟨e1, f1, es1, u, rfl, he1, hU1, hu, hd1⟩ := (HR1.out.keep (SameOn.of_drawn HV.out)).at_ (k := m) (by rw [LX.out]; exact hmt)
              obtain ⟨e2, f2, es2, v, rfl, he2, hU2, hv, hd2⟩ := (HR2.out.keep (SameOn.of_drawn HV.out)).at_ (k := m) (by rw [LY.out]; exact hmt)
              obtain ⟨G1, g1, rfl, hlg1, hcg1, hru1⟩ := hU1
              obtain ⟨G2, g2, rfl, hlg2, hcg2, hru2⟩ := hU2
              have d1' : wr.cell? ⟨e1, f1 + m, none⟩ = some (.slice G1 u.length g1) := by have := hd1 0 _ rfl; simpa [listR] using this
              have d2' : wr.cell? ⟨e2, f2 + m, none⟩ = some (.slice G2 v.length g2) := by have := hd2 0 _ rfl; simpa [listR] using this
              have D1 : wr.drew.cell? ⟨e1, f1 + m, none⟩ = some (.slice G1 u.length g1) := d1'
              have D2 : wr.drew.cell? ⟨e2, f2 + m, none⟩ = some (.slice G2 v.length g2) := d2'
              have C := Lib.hid (l03Same_any G1 G2 u.length v.length g1 g2 u v wr.drew S1 S2 hru1 hru2 rfl rfl (Nat.le_trans hlg1 hcg1))
              clear hd1 hd2 hru1 hru2
              have HW := Lib.hid (show Drawn wo wr.drew from HV.out.drew)
              rcases hq : eqL tmE u v with _ | _
              · have HF := Lib.hid (show eqL ptE xs ys = false from eqL_no HE.out hx.out hy.out (by rw [HP.out]; exact eqL_no HG.out hu.out hv.out hq))
                have HQ := Lib.hid hq
                clear hq
                go_wp2
                go_still_tail 16, (by kernel_rfl)
                change wpList _ _ _ _ _ wr.drew
                go_wp2_with (go_at_call 45; refine (C.out).mono ?_; rw [HQ.out]; rintro e w2 ⟨rfl, hd⟩; have HD2 := Lib.hid (HD.out.trans (HW.out.trans hd)); clear hd)
                go_ret
                exact ⟨ret_bool HF.out.symm, HD2.out⟩
              · have HG2 := Lib.hid (eqL_next HG.out hu.out hv.out hq)
                have HQ := Lib.hid hq
                clear hq
                go_wp2
                go_still_tail 16, (by kernel_rfl)
                change wpList _ _ _ _ _ wr.drew
                go_wp2_with (go_at_call 45; refine (C.out).mono ?_; rw [HQ.out]; rintro e w2 ⟨rfl, hd⟩; have HD2 := Lib.hid (HW.out.trans hd); clear hd)
                go_roundw
                case rel => exact ⟨m + 1, by omega, by go_num, HD2, HG2⟩
                case measure => simp [intOf]; omega
            · have HF := Lib.hid (eqL_next HE.out hx.out hy.out (by rw [HP.out, HG.out, eqL_end (by rw [LX.out]; omega) (by rw [LY.out]; omega)]))
              have HD2 := Lib.hid (HD.out.trans HV.out)
              go_wp2
              go_roundw
              case rel => exact ⟨k + 1, by omega, by go_num, HD2, HF⟩
              case measure => simp [intOf]; omega
        · have HF := Lib.hid (show eqL ptE xs ys = false from eqL_no HE.out hx.out hy.out (by rw [HP.out]; exact eqL_len t3))
          have t3' : ((x.args.length : Int) == (y.args.length : Int)) = false := by simp; omega
          have t3'' : ((x.args.length : Int) != (y.args.length : Int)) = true := by simp; omega
          clear t3
          go_wp2
          go_quiet (fail)
          go_wp2
          go_ret
          exact ⟨ret_bool HF.out.symm, HDN.out _⟩
      · have HF := Lib.hid (show eqL ptE xs ys = true by rw [HE.out, eqL_end (by rw [L1.out]; omega) (by rw [L2.out]; omega)])
        go_wp2
        go_ret
        exact ⟨ret_bool HF.out.symm, HD.out⟩
  · have HF := Lib.hid (show eqL ptE xs ys = false from eqL_len (by rw [l1, l2]; exact hl))
    have e1 : ((n1 : Int) == (n2 : Int)) = false := by simp; omega
    have e2 : ((n1 : Int) != (n2 : Int)) = true := by simp; omega
    clear l1 l2
    go_enter Try.func31, Try.ntmps31
    go_wp2
    go_ret
    exact ⟨ret_bool HF.out.symm, Drawn.refl _⟩
end Go.Proofs.Ytnlpfomgicdbmaa
