/- Meetings: the model. -/
import Derived.Test.YtdgcpaeneafejaaGreatDoorSfS
namespace Go.Proofs.YtdgcpaeneafejaaGreatDoor
open Go.RowKit
theorem eqB_symm (a b : ByteArray) : eqB a b = eqB b a := by
  unfold eqB
  rw [Bool.eq_iff_iff, beq_iff_eq, beq_iff_eq]
  exact ⟨Eq.symm, Eq.symm⟩
theorem cmMt_less {p m : Mt} (h : lsB p.l m.l = true) : cmMt p m < 0 := by
  have e : cmS p.l m.l = -1 := by unfold cmS; rw [if_pos h]
  unfold cmMt
  rw [e, if_neg (by decide)]; decide
theorem cmMt_more {p m : Mt} (h : lsB p.l m.l = false) (h2 : lsB m.l p.l = true) : ¬ cmMt p m < 0 := by
  have e : cmS p.l m.l = 1 := by unfold cmS; rw [if_neg (by rw [h]; simp), if_pos h2]
  unfold cmMt
  rw [e, if_neg (by decide)]; decide
theorem cmMt_same {p m : Mt} (h : lsB p.l m.l = false) (h2 : lsB m.l p.l = false) : decide (cmMt p m < 0) = lsB p.r m.r := by
  have e : cmS p.l m.l = 0 := by unfold cmS; rw [if_neg (by rw [h]; simp), if_neg (by rw [h2]; simp)]
  unfold cmMt
  rw [e, if_pos rfl]
  exact cmS_less _ _
theorem msB_false {ms : List Mt} (h : inc cmMt ms = false ∨ ms.all mtA = false ∨ (ms.all fun m => !(jn ms m.s)) = false) : msB ms = false := by
  unfold msB
  rcases h with h | h | h <;> rw [h] <;> simp
set_option maxRecDepth 100000 in
set_option maxHeartbeats 8000000 in
theorem specMeetings_any (A : Option Addr) (n c : Nat) (ms : List Mt) (w : World) (S : Nat → Prop) (h : LRow mtR w S A ms) (l : ms.length = n) (hn : n ≤ 1048576) (hS : ∀ b, S b → b < w.heap.size) :
    Calls Tryz.prog 114 #[.slice A n c] w fun e w' => e = .returned (.bool (msB ms)) ∧ Below w.heap.size w w' := by
  have L := Lib.hid l
  by_cases h6 : 6 < n
  · have HF := Lib.hid (show msB ms = false by unfold msB; rw [decide_eq_false (by omega)]; rfl)
    have h6i : (6 : Int) < (n : Int) := by omega
    clear h l hS
    go_enter Tryz.func114, Tryz.ntmps114
    go_wp2
    go_ret
    exact ⟨ret_bool HF.out.symm, by first | exact Below.refl _ _ | exact (Below.refl _ _).drew⟩
  have h6i : ¬ (6 : Int) < (n : Int) := by omega
  have h6' : ms.length ≤ 6 := by omega
  have HR := Lib.hid h
  have HS := Lib.hid hS
  clear h l hS
  go_enter Tryz.func114, Tryz.ntmps114
  go_wp2
  go_loopw [3] (fun i wr => ∃ k : Nat, k ≤ n ∧ i = .int .i64 k ∧ Hid (Below w.heap.size w wr) ∧ Hid (inc cmMt (ms.take k) = true) ∧ Hid ((ms.take k).all mtA = true) ∧ Hid (((ms.take k).all fun m => !(jn ms m.s)) = true)) (fun i _ => n - (intOf i).toNat)
  case atStart => exact ⟨0, Nat.zero_le _, rfl, Lib.hid (Below.refl _ _), Lib.hid rfl, Lib.hid rfl, Lib.hid rfl⟩
  case round =>
    obtain ⟨k, hk, rfl, HB, HI, HA, HJ⟩ := hrel
    have hsz := HB.out.size
    by_cases hlt : k < n
    · obtain ⟨b, o, cs, m, rfl, hb, hR, hm, hc⟩ := (HR.out.keep (SameOn.of_below HB.out HS.out)).at_ (k := k) (by rw [L.out]; exact hlt)
      obtain ⟨rfl, _⟩ := hR
      have r0 : wr.cell? ⟨b, o + k * 3, none⟩ = some (.string m.l) := hc 0 _ rfl
      have r1 : wr.cell? ⟨b, o + k * 3 + 1, none⟩ = some (.string m.r) := hc 1 _ rfl
      have r2 : wr.cell? ⟨b, o + k * 3 + 2, none⟩ = some (.string m.s) := hc 2 _ rfl
      have hbw := HS.out b hb
      have lb : b < wr.heap.size := by omega
      have CAl := Lib.hid (fun W : World => specAction_any m.l W)
      have CAr := Lib.hid (fun W : World => specAction_any m.r W)
      have CAs := Lib.hid (fun W : World => specAction_any m.s W)
      have HB1 := Lib.hid (show Below w.heap.size w (wr.alloc (.cells #[.string m.l, .string m.r, .string m.s] 122)) from HB.out.alloc hsz _)
      clear hc
      rcases tl : actionB m.l.data.toList with _ | _
      · have HF := Lib.hid (msB_false (.inr (.inl (all_false (p := mtA) hm.out (by unfold mtA; rw [tl]; simp)))))
        have Al := Lib.hid tl
        clear tl CAr CAs
        go_wp2_with (go_at_call 132; with_reducible refine (CAl.out _).mono ?_; rw [Al.out]; rintro e w' ⟨rfl, rfl⟩)
        go_ret
        exact ⟨ret_bool HF.out.symm, by repeat (first | (with_reducible exact HB1.out) | apply Below.drew | exact HB1.out.trans (below_drewN _ _ _))⟩
      rcases tr : actionB m.r.data.toList with _ | _
      · have HF := Lib.hid (msB_false (.inr (.inl (all_false (p := mtA) hm.out (by unfold mtA; rw [tl, tr]; simp)))))
        have Al := Lib.hid tl
        have Ar := Lib.hid tr
        clear tl tr CAs
        go_wp2_with (first | (go_at_call 132; with_reducible refine (CAl.out _).mono ?_; rw [Al.out]; rintro e w' ⟨rfl, rfl⟩) | (go_at_call 132; with_reducible refine (CAr.out _).mono ?_; rw [Ar.out]; rintro e w' ⟨rfl, rfl⟩))
        go_ret
        exact ⟨ret_bool HF.out.symm, by repeat (first | (with_reducible exact HB1.out) | apply Below.drew | exact HB1.out.trans (below_drewN _ _ _))⟩
      rcases ts : actionB m.s.data.toList with _ | _
      · have HF := Lib.hid (msB_false (.inr (.inl (all_false (p := mtA) hm.out (by unfold mtA; rw [tl, tr, ts]; simp)))))
        have Al := Lib.hid tl
        have Ar := Lib.hid tr
        have As := Lib.hid ts
        clear tl tr ts
        go_wp2_with (first | (go_at_call 132; with_reducible refine (CAl.out _).mono ?_; rw [Al.out]; rintro e w' ⟨rfl, rfl⟩) | (go_at_call 132; with_reducible refine (CAr.out _).mono ?_; rw [Ar.out]; rintro e w' ⟨rfl, rfl⟩) | (go_at_call 132; with_reducible refine (CAs.out _).mono ?_; rw [As.out]; rintro e w' ⟨rfl, rfl⟩))
        go_ret
        exact ⟨ret_bool HF.out.symm, by repeat (first | (with_reducible exact HB1.out) | apply Below.drew | exact HB1.out.trans (below_drewN _ _ _))⟩
      rcases tq : lsB m.r m.l with _ | _
      rotate_left
      · have HF := Lib.hid (msB_false (.inr (.inl (all_false (p := mtA) hm.out (by unfold mtA; rw [tl, tr, ts, tq]; simp)))))
        have Al := Lib.hid tl
        have Ar := Lib.hid tr
        have As := Lib.hid ts
        have g1 : Op.bytesLess m.l.toList m.r.toList = false := lsB_asymm tq
        have g2 : (m.l.toList == m.r.toList) = false := by have e := eqB_tri (a := m.l) (b := m.r) (lsB_asymm tq); rw [tq] at e; exact e
        clear tl tr ts tq
        go_wp2_with (first | (go_at_call 132; with_reducible refine (CAl.out _).mono ?_; rw [Al.out]; rintro e w' ⟨rfl, rfl⟩) | (go_at_call 132; with_reducible refine (CAr.out _).mono ?_; rw [Ar.out]; rintro e w' ⟨rfl, rfl⟩) | (go_at_call 132; with_reducible refine (CAs.out _).mono ?_; rw [As.out]; rintro e w' ⟨rfl, rfl⟩))
        go_ret
        exact ⟨ret_bool HF.out.symm, by repeat (first | (with_reducible exact HB1.out) | apply Below.drew | exact HB1.out.trans (below_drewN _ _ _))⟩
      have HA2 := Lib.hid (all_take_next (p := mtA) HA.out hm.out (by unfold mtA; rw [tl, tr, ts, tq]; rfl))
      have g0 : (Op.bytesLess m.l.toList m.r.toList || m.l.toList == m.r.toList) = true := by have e := leq_eq m.l m.r; rw [tq] at e; exact e
      have Al := Lib.hid tl
      have Ar := Lib.hid tr
      have As := Lib.hid ts
      clear tl tr ts tq
      by_cases hk0 : k = 0
      · subst hk0
        simp only [Nat.zero_mul, Nat.add_zero] at r0 r1 r2
        have HI2 := Lib.hid (inc_short cmMt ms)
        go_wp2_with (first | (go_at_call 132; with_reducible refine (CAl.out _).mono ?_; rw [Al.out]; rintro e w' ⟨rfl, rfl⟩) | (go_at_call 132; with_reducible refine (CAr.out _).mono ?_; rw [Ar.out]; rintro e w' ⟨rfl, rfl⟩) | (go_at_call 132; with_reducible refine (CAs.out _).mono ?_; rw [As.out]; rintro e w' ⟨rfl, rfl⟩))
        go_quiet (fail)
        go_wp2
        obtain ⟨wo, rfl⟩ : ∃ wo : World, wo = wr := ⟨_, rfl⟩
        have hs6 : n ≤ 6 := by omega
        go_loopw [5] (fun i2 wr => ∃ q : Nat, q ≤ n ∧ i2 = .int .i64 q ∧ Hid (Below w.heap.size w wr) ∧ wr.cell? ⟨wo.heap.size, 2, none⟩ = some (.string m.s) ∧ Hid (jn (ms.take q) m.s = false)) (fun i2 _ => n - (intOf i2).toNat)
        case atStart => exact ⟨0, Nat.zero_le _, rfl, Lib.hid (by repeat (first | (with_reducible exact HB1.out) | exact HB1.out.trans (below_drewN _ _ _))), by simp [go_sem], Lib.hid rfl⟩
        case round =>
          obtain ⟨q, hq, rfl, HBq, z2, HQ⟩ := hrel
          have hszq := HBq.out.size
          have lz : wo.heap.size < wr.heap.size := World.block_lt_of_cell? wr _ z2
          by_cases hltq : q < n
          · obtain ⟨b2, o2, cs2, x, eA, hb2, hR2, hx, hc2⟩ := (HR.out.keep (SameOn.of_below HBq.out HS.out)).at_ (k := q) (by rw [L.out]; exact hltq)
            obtain ⟨rfl, _⟩ := hR2
            injection eA with eA
            injection eA with e1 e2
            subst e1 e2
            have y0 : wr.cell? ⟨b, o + q * 3, none⟩ = some (.string x.l) := hc2 0 _ rfl
            have y1 : wr.cell? ⟨b, o + q * 3 + 1, none⟩ = some (.string x.r) := hc2 1 _ rfl
            have y2 : wr.cell? ⟨b, o + q * 3 + 2, none⟩ = some (.string x.s) := hc2 2 _ rfl
            clear hc2
            rcases u1 : eqB m.s x.l with _ | _
            rotate_left
            · have HF := Lib.hid (msB_false (ms := ms) (.inr (.inr (all_false (p := fun y => !(jn ms y.s)) hm.out (by rw [show jn ms m.s = true from any_true hx.out (by rw [u1]; rfl)]; rfl)))))
              have v1 : (x.l.toList == m.s.toList) = true := by rw [eqB_symm] at u1; exact u1
              clear u1
              go_wp2
              go_quiet (fail)
              go_wp2
              go_ret
              exact ⟨ret_bool HF.out.symm, by repeat (first | (with_reducible exact HBq.out) | exact HBq.out.trans (below_drewN _ _ _))⟩
            have v1 : (x.l.toList == m.s.toList) = false := by have e := u1; rw [eqB_symm] at e; exact e
            rcases u2 : eqB m.s x.r with _ | _
            rotate_left
            · have HF := Lib.hid (msB_false (ms := ms) (.inr (.inr (all_false (p := fun y => !(jn ms y.s)) hm.out (by rw [show jn ms m.s = true from any_true hx.out (by rw [u2]; simp)]; rfl)))))
              have v2 : (x.r.toList == m.s.toList) = true := by rw [eqB_symm] at u2; exact u2
              clear u1 u2
              go_wp2
              go_quiet (fail)
              go_wp2
              go_ret
              exact ⟨ret_bool HF.out.symm, by repeat (first | (with_reducible exact HBq.out) | exact HBq.out.trans (below_drewN _ _ _))⟩
            have v2 : (x.r.toList == m.s.toList) = false := by have e := u2; rw [eqB_symm] at e; exact e
            have HN := Lib.hid (any_take_next HQ.out hx.out (by show (eqB m.s x.l || eqB m.s x.r) = false; rw [u1, u2]; rfl))
            clear u1 u2
            go_wp2
            go_quiet (fail)
            go_wp2
            go_roundw
            case rel => exact ⟨q + 1, by omega, by go_num, Lib.hid (by repeat (first | (with_reducible exact HBq.out) | exact HBq.out.trans (below_drewN _ _ _))), by simpa [go_sem] using z2, HN⟩
            case measure => simp [intOf]; omega
          · have HN := Lib.hid (show ((ms.take (0 + 1)).all fun y => !(jn ms y.s)) = true from all_take_next (p := fun y => !(jn ms y.s)) HJ.out hm.out (by
              have e := HQ.out
              rw [List.take_of_length_le (by rw [L.out]; omega)] at e
              rw [e]; rfl))
            go_wp2
            go_roundw
            case rel => exact ⟨0 + 1, by omega, by go_num, HBq, HI2, HA2, HN⟩
            case measure => simp [intOf]; omega
      obtain ⟨p0, hp0⟩ : ∃ p0, k = p0 + 1 := ⟨k - 1, by omega⟩
      obtain ⟨b', o', cs', p, eA, hb', hR', hp, hc'⟩ := (HR.out.keep (SameOn.of_below HB.out HS.out)).at_ (k := p0) (by rw [L.out]; omega)
      obtain ⟨rfl, _⟩ := hR'
      injection eA with eA
      injection eA with e1 e2
      subst e1 e2
      have t0 : wr.cell? ⟨b, o + p0 * 3, none⟩ = some (.string p.l) := hc' 0 _ rfl
      have t1 : wr.cell? ⟨b, o + p0 * 3 + 1, none⟩ = some (.string p.r) := hc' 1 _ rfl
      have t2 : wr.cell? ⟨b, o + p0 * 3 + 2, none⟩ = some (.string p.s) := hc' 2 _ rfl
      have hpos : (0 : Int) < (k : Int) := by omega
      have hposn : 0 < k := by omega
      have hwk : IntKind.i64.wrap ((k : Int) - 1) = (p0 : Int) := by (rw [IntKind.wrap_i64]; omega)
      have hpn : p0 < n := by omega
      have hm' := hm.out
      rw [hp0] at hm'
      have HM' := Lib.hid hm'
      have HP0 := Lib.hid hp0
      clear hc' hp0 hm' hk0
      rcases x1 : lsB p.l m.l with _ | _
      rotate_left
      · have HI2 := Lib.hid (show inc cmMt (ms.take (k + 1)) = true by have e := HI.out; rw [HP0.out] at e ⊢; rw [inc_step hp.out HM'.out, e, decide_eq_true (cmMt_less x1)]; rfl)
        have f1 : Op.bytesLess p.l.toList m.l.toList = true := x1
        have f2 : (p.l.toList == m.l.toList) = false := eqB_less x1
        clear x1
        go_wp2_with (first | (go_at_call 132; with_reducible refine (CAl.out _).mono ?_; rw [Al.out]; rintro e w' ⟨rfl, rfl⟩) | (go_at_call 132; with_reducible refine (CAr.out _).mono ?_; rw [Ar.out]; rintro e w' ⟨rfl, rfl⟩) | (go_at_call 132; with_reducible refine (CAs.out _).mono ?_; rw [As.out]; rintro e w' ⟨rfl, rfl⟩))
        go_quiet (fail)
        go_wp2
        obtain ⟨wo, rfl⟩ : ∃ wo : World, wo = wr := ⟨_, rfl⟩
        have hs6 : n ≤ 6 := by omega
        go_loopw [5] (fun i2 wr => ∃ q : Nat, q ≤ n ∧ i2 = .int .i64 q ∧ Hid (Below w.heap.size w wr) ∧ wr.cell? ⟨wo.heap.size, 2, none⟩ = some (.string m.s) ∧ Hid (jn (ms.take q) m.s = false)) (fun i2 _ => n - (intOf i2).toNat)
        case atStart => exact ⟨0, Nat.zero_le _, rfl, Lib.hid (by repeat (first | (with_reducible exact HB1.out) | exact HB1.out.trans (below_drewN _ _ _))), by simp [go_sem], Lib.hid rfl⟩
        case round =>
          obtain ⟨q, hq, rfl, HBq, z2, HQ⟩ := hrel
          have hszq := HBq.out.size
          have lz : wo.heap.size < wr.heap.size := World.block_lt_of_cell? wr _ z2
          by_cases hltq : q < n
          · obtain ⟨b2, o2, cs2, x, eA, hb2, hR2, hx, hc2⟩ := (HR.out.keep (SameOn.of_below HBq.out HS.out)).at_ (k := q) (by rw [L.out]; exact hltq)
            obtain ⟨rfl, _⟩ := hR2
            injection eA with eA
            injection eA with e1 e2
            subst e1 e2
            have y0 : wr.cell? ⟨b, o + q * 3, none⟩ = some (.string x.l) := hc2 0 _ rfl
            have y1 : wr.cell? ⟨b, o + q * 3 + 1, none⟩ = some (.string x.r) := hc2 1 _ rfl
            have y2 : wr.cell? ⟨b, o + q * 3 + 2, none⟩ = some (.string x.s) := hc2 2 _ rfl
            clear hc2
            rcases u1 : eqB m.s x.l with _ | _
            rotate_left
            · have HF := Lib.hid (msB_false (ms := ms) (.inr (.inr (all_false (p := fun y => !(jn ms y.s)) hm.out (by rw [show jn ms m.s = true from any_true hx.out (by rw [u1]; rfl)]; rfl)))))
              have v1 : (x.l.toList == m.s.toList) = true := by rw [eqB_symm] at u1; exact u1
              clear u1
              go_wp2
              go_quiet (fail)
              go_wp2
              go_ret
              exact ⟨ret_bool HF.out.symm, by repeat (first | (with_reducible exact HBq.out) | exact HBq.out.trans (below_drewN _ _ _))⟩
            have v1 : (x.l.toList == m.s.toList) = false := by have e := u1; rw [eqB_symm] at e; exact e
            rcases u2 : eqB m.s x.r with _ | _
            rotate_left
            · have HF := Lib.hid (msB_false (ms := ms) (.inr (.inr (all_false (p := fun y => !(jn ms y.s)) hm.out (by rw [show jn ms m.s = true from any_true hx.out (by rw [u2]; simp)]; rfl)))))
              have v2 : (x.r.toList == m.s.toList) = true := by rw [eqB_symm] at u2; exact u2
              clear u1 u2
              go_wp2
              go_quiet (fail)
              go_wp2
              go_ret
              exact ⟨ret_bool HF.out.symm, by repeat (first | (with_reducible exact HBq.out) | exact HBq.out.trans (below_drewN _ _ _))⟩
            have v2 : (x.r.toList == m.s.toList) = false := by have e := u2; rw [eqB_symm] at e; exact e
            have HN := Lib.hid (any_take_next HQ.out hx.out (by show (eqB m.s x.l || eqB m.s x.r) = false; rw [u1, u2]; rfl))
            clear u1 u2
            go_wp2
            go_quiet (fail)
            go_wp2
            go_roundw
            case rel => exact ⟨q + 1, by omega, by go_num, Lib.hid (by repeat (first | (with_reducible exact HBq.out) | exact HBq.out.trans (below_drewN _ _ _))), by simpa [go_sem] using z2, HN⟩
            case measure => simp [intOf]; omega
          · have HN := Lib.hid (show ((ms.take (k + 1)).all fun y => !(jn ms y.s)) = true from all_take_next (p := fun y => !(jn ms y.s)) HJ.out hm.out (by
              have e := HQ.out
              rw [List.take_of_length_le (by rw [L.out]; omega)] at e
              rw [e]; rfl))
            go_wp2
            go_roundw
            case rel => exact ⟨k + 1, by omega, by go_num, HBq, HI2, HA2, HN⟩
            case measure => simp [intOf]; omega
      have f1 : Op.bytesLess p.l.toList m.l.toList = false := x1
      rcases x2 : lsB m.l p.l with _ | _
      rotate_left
      · have HF := Lib.hid (msB_false (ms := ms) (.inl (inc_bad hp.out HM'.out (cmMt_more x1 x2))))
        have f2 : (p.l.toList == m.l.toList) = false := by have e := eqB_tri x1; rw [x2] at e; exact e
        clear x1 x2
        go_wp2_with (first | (go_at_call 132; with_reducible refine (CAl.out _).mono ?_; rw [Al.out]; rintro e w' ⟨rfl, rfl⟩) | (go_at_call 132; with_reducible refine (CAr.out _).mono ?_; rw [Ar.out]; rintro e w' ⟨rfl, rfl⟩) | (go_at_call 132; with_reducible refine (CAs.out _).mono ?_; rw [As.out]; rintro e w' ⟨rfl, rfl⟩))
        go_quiet (fail)
        go_wp2
        go_ret
        exact ⟨ret_bool HF.out.symm, by repeat (first | (with_reducible exact HB1.out) | apply Below.drew | exact HB1.out.trans (below_drewN _ _ _))⟩
      have f2 : (p.l.toList == m.l.toList) = true := by have e := eqB_tri x1; rw [x2] at e; exact e
      rcases x3 : lsB p.r m.r with _ | _
      · have HF := Lib.hid (msB_false (ms := ms) (.inl (inc_bad hp.out HM'.out (by have e := cmMt_same x1 x2; rw [x3] at e; exact of_decide_eq_false e))))
        have f3 : Op.bytesLess p.r.toList m.r.toList = false := x3
        clear x1 x2 x3
        go_wp2_with (first | (go_at_call 132; with_reducible refine (CAl.out _).mono ?_; rw [Al.out]; rintro e w' ⟨rfl, rfl⟩) | (go_at_call 132; with_reducible refine (CAr.out _).mono ?_; rw [Ar.out]; rintro e w' ⟨rfl, rfl⟩) | (go_at_call 132; with_reducible refine (CAs.out _).mono ?_; rw [As.out]; rintro e w' ⟨rfl, rfl⟩))
        go_quiet (fail)
        go_wp2
        go_ret
        exact ⟨ret_bool HF.out.symm, by repeat (first | (with_reducible exact HB1.out) | apply Below.drew | exact HB1.out.trans (below_drewN _ _ _))⟩
      have HI2 := Lib.hid (show inc cmMt (ms.take (k + 1)) = true by have e := HI.out; rw [HP0.out] at e ⊢; rw [inc_step hp.out HM'.out, e, cmMt_same x1 x2, x3]; rfl)
      have f3 : Op.bytesLess p.r.toList m.r.toList = true := x3
      clear x1 x2 x3
      go_wp2_with (first | (go_at_call 132; with_reducible refine (CAl.out _).mono ?_; rw [Al.out]; rintro e w' ⟨rfl, rfl⟩) | (go_at_call 132; with_reducible refine (CAr.out _).mono ?_; rw [Ar.out]; rintro e w' ⟨rfl, rfl⟩) | (go_at_call 132; with_reducible refine (CAs.out _).mono ?_; rw [As.out]; rintro e w' ⟨rfl, rfl⟩))
      go_quiet (fail)
      go_wp2
      obtain ⟨wo, rfl⟩ : ∃ wo : World, wo = wr := ⟨_, rfl⟩
      have hs6 : n ≤ 6 := by omega
      go_loopw [5] (fun i2 wr => ∃ q : Nat, q ≤ n ∧ i2 = .int .i64 q ∧ Hid (Below w.heap.size w wr) ∧ wr.cell? ⟨wo.heap.size, 2, none⟩ = some (.string m.s) ∧ Hid (jn (ms.take q) m.s = false)) (fun i2 _ => n - (intOf i2).toNat)
      case atStart => exact ⟨0, Nat.zero_le _, rfl, Lib.hid (by repeat (first | (with_reducible exact HB1.out) | exact HB1.out.trans (below_drewN _ _ _))), by simp [go_sem], Lib.hid rfl⟩
      case round =>
        obtain ⟨q, hq, rfl, HBq, z2, HQ⟩ := hrel
        have hszq := HBq.out.size
        have lz : wo.heap.size < wr.heap.size := World.block_lt_of_cell? wr _ z2
        by_cases hltq : q < n
        · obtain ⟨b2, o2, cs2, x, eA, hb2, hR2, hx, hc2⟩ := (HR.out.keep (SameOn.of_below HBq.out HS.out)).at_ (k := q) (by rw [L.out]; exact hltq)
          obtain ⟨rfl, _⟩ := hR2
          injection eA with eA
          injection eA with e1 e2
          subst e1 e2
          have y0 : wr.cell? ⟨b, o + q * 3, none⟩ = some (.string x.l) := hc2 0 _ rfl
          have y1 : wr.cell? ⟨b, o + q * 3 + 1, none⟩ = some (.string x.r) := hc2 1 _ rfl
          have y2 : wr.cell? ⟨b, o + q * 3 + 2, none⟩ = some (.string x.s) := hc2 2 _ rfl
          clear hc2
          rcases u1 : eqB m.s x.l with _ | _
          rotate_left
          · have HF := Lib.hid (msB_false (ms := ms) (.inr (.inr (all_false (p := fun y => !(jn ms y.s)) hm.out (by rw [show jn ms m.s = true from any_true hx.out (by rw [u1]; rfl)]; rfl)))))
            have v1 : (x.l.toList == m.s.toList) = true := by rw [eqB_symm] at u1; exact u1
            clear u1
            go_wp2
            go_quiet (fail)
            go_wp2
            go_ret
            exact ⟨ret_bool HF.out.symm, by repeat (first | (with_reducible exact HBq.out) | exact HBq.out.trans (below_drewN _ _ _))⟩
          have v1 : (x.l.toList == m.s.toList) = false := by have e := u1; rw [eqB_symm] at e; exact e
          rcases u2 : eqB m.s x.r with _ | _
          rotate_left
          · have HF := Lib.hid (msB_false (ms := ms) (.inr (.inr (all_false (p := fun y => !(jn ms y.s)) hm.out (by rw [show jn ms m.s = true from any_true hx.out (by rw [u2]; simp)]; rfl)))))
            have v2 : (x.r.toList == m.s.toList) = true := by rw [eqB_symm] at u2; exact u2
            clear u1 u2
            go_wp2
            go_quiet (fail)
            go_wp2
            go_ret
            exact ⟨ret_bool HF.out.symm, by repeat (first | (with_reducible exact HBq.out) | exact HBq.out.trans (below_drewN _ _ _))⟩
          have v2 : (x.r.toList == m.s.toList) = false := by have e := u2; rw [eqB_symm] at e; exact e
          have HN := Lib.hid (any_take_next HQ.out hx.out (by show (eqB m.s x.l || eqB m.s x.r) = false; rw [u1, u2]; rfl))
          clear u1 u2
          go_wp2
          go_quiet (fail)
          go_wp2
          go_roundw
          case rel => exact ⟨q + 1, by omega, by go_num, Lib.hid (by repeat (first | (with_reducible exact HBq.out) | exact HBq.out.trans (below_drewN _ _ _))), by simpa [go_sem] using z2, HN⟩
          case measure => simp [intOf]; omega
        · have HN := Lib.hid (show ((ms.take (k + 1)).all fun y => !(jn ms y.s)) = true from all_take_next (p := fun y => !(jn ms y.s)) HJ.out hm.out (by
            have e := HQ.out
            rw [List.take_of_length_le (by rw [L.out]; omega)] at e
            rw [e]; rfl))
          go_wp2
          go_roundw
          case rel => exact ⟨k + 1, by omega, by go_num, HBq, HI2, HA2, HN⟩
          case measure => simp [intOf]; omega
    · have HF := Lib.hid (show msB ms = true by
        have e1 := HI.out
        have e2 := HA.out
        have e3 := HJ.out
        rw [List.take_of_length_le (by rw [L.out]; omega)] at e1 e2 e3
        unfold msB
        rw [e1, e2, e3, decide_eq_true h6']; rfl)
      go_wp2
      go_ret
      exact ⟨ret_bool HF.out.symm, HB.out⟩
end Go.Proofs.YtdgcpaeneafejaaGreatDoor
