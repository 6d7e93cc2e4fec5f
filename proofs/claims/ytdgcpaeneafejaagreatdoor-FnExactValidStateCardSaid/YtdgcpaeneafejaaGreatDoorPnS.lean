/- Points: the model. -/
import Derived.BigQuiet
import Derived.Test.YtdgcpaeneafejaaGreatDoorSfLow
import Derived.Test.YtdgcpaeneafejaaGreatDoorEvLow
import Derived.Test.YtdgcpaeneafejaaGreatDoorPxLow
import Derived.Test.YtdgcpaeneafejaaGreatDoorPxWX
namespace Go.Proofs.YtdgcpaeneafejaaGreatDoor
open Go.RowKit
theorem fit_no1 {ls : List Df} {x : Pn} (h : idxB x.d ls.length = false) : fitB ls x = false := by unfold fitB; rw [h]; rfl
theorem fit_at {ls : List Df} {x : Pn} {j : Nat} {d : Df} (hj : x.d = j) (hd : ls[j]? = some d) : fitB ls x = (idxB x.pt d.body.length && (!((anAt ls x.d x.pt).p.k == 5) && (((x.vs.length : Int) == (anAt ls x.d x.pt).s) && dataB x.vs))) := by
  have hjl := (List.getElem?_eq_some_iff.1 hd).1
  unfold fitB
  rw [show idxB x.d ls.length = true by rw [hj]; unfold idxB; simp; exact hjl, Bool.true_and, hj, List.getD_eq_getElem?_getD, Int.toNat_natCast, hd]
  rfl
theorem fit_no2 {ls : List Df} {x : Pn} {j : Nat} {d : Df} (hj : x.d = j) (hd : ls[j]? = some d) (h : idxB x.pt d.body.length = false) : fitB ls x = false := by rw [fit_at hj hd, h]; rfl
theorem fit_part {ls : List Df} {x : Pn} {j i : Nat} {d : Df} {a : An} (hj : x.d = j) (hd : ls[j]? = some d) (hi : x.pt = i) (hil : i < d.body.length) (ha : (annOf d)[i]? = some a) : fitB ls x = (!(a.p.k == 5) && (((x.vs.length : Int) == a.s) && dataB x.vs)) := by
  rw [fit_at hj hd, show idxB x.pt d.body.length = true by rw [hi]; unfold idxB; simp; exact hil, Bool.true_and, hj, hi, anAt_eq hd ha]
set_option maxRecDepth 100000 in
set_option maxHeartbeats 4000000 in
theorem specFitQ_any (p q : Nat) (ls : List Df) (x : Pn) (A : Option Addr) (c : Nat) (V : Option Addr) (cv : Nat) (w : World) (S : Nat → Prop) (h : LRow dfR w S A ls) (g : LRow intR w S V x.vs) (hS : ∀ b, S b → b < w.heap.size) (tv : vdB ls = true) (hv : x.vs.length ≤ 1048576) (z0 : w.cell? ⟨p, q, none⟩ = some (.int .i64 x.d)) (z1 : w.cell? ⟨p, q + 1, none⟩ = some (.int .i64 x.pt)) (z2 : w.cell? ⟨p, q + 2, none⟩ = some (.slice V x.vs.length cv)) :
    Calls Tryz.prog 109 #[.slice A ls.length c, .pointer (some ⟨p, q, none⟩)] w fun e w' => e = .returned (.bool (fitB ls x)) ∧ Below w.heap.size w w' := by
  have hp : p < w.heap.size := World.block_lt_of_cell? w _ z0
  have hl4 : ls.length ≤ 4 := by
    have h := tv
    unfold vdB at h
    rw [Bool.and_eq_true] at h
    exact (of_decide_eq_true h.1).2
  rcases ti : idxB x.d ls.length with _ | _
  · have HF := Lib.hid (fit_no1 ti)
    have hno := idxB_no ti
    have C0 := Lib.hid (fun W : World => l00In_no x.d 0 ((ls.length : Int) - 1) hno W)
    clear ti hno h g hS tv
    go_enter Tryz.func109, Tryz.ntmps109
    go_wp2_with (go_at_call 52; refine (C0.out _).mono ?_; rintro e w3 ⟨rfl, rfl⟩)
    go_ret
    exact ⟨ret_bool HF.out.symm, (by first | exact Below.refl _ _ | exact (Below.refl _ _).alloc (Nat.le_refl _) _ | exact ((Below.refl _ _).alloc (Nat.le_refl _) _).trans (below_drewN _ _ _) | exact (((Below.refl _ _).alloc (Nat.le_refl _) _).trans (below_drewN _ _ _)).trans (below_drewN _ _ _) | exact below_drewN _ _ _ | exact (below_drewN _ _ _).trans (below_drewN _ _ _))⟩
  obtain ⟨j, hxd, hj⟩ := idxB_yes ti
  obtain ⟨b2, o2, cs2, d, rfl, hb2, hR2, hd, hc2⟩ := h.at_ (k := j) hj
  obtain ⟨B, cb, rfl, _, _, _, hrb⟩ := hR2
  have t0 : w.cell? ⟨b2, o2 + j * 3, none⟩ = some (.string d.nm) := hc2 0 _ rfl
  have t1 : w.cell? ⟨b2, o2 + j * 3 + 1, none⟩ = some (.int .i64 d.ps) := hc2 1 _ rfl
  have t2 : w.cell? ⟨b2, o2 + j * 3 + 2, none⟩ = some (.slice B d.body.length cb) := hc2 2 _ rfl
  have lb2 : b2 < w.heap.size := World.block_lt_of_cell? w _ t1
  obtain ⟨_, hp0, hp3, hsh⟩ := vdB_parts tv hd.out
  have h20 := (pxOf_ok hsh).2.2
  rw [← Px.flat_len, (pxOf_ok hsh).1] at h20
  have C1 := Lib.hid (fun W : World => l00In_yes (j : Int) 0 ((ls.length : Int) - 1) ⟨by omega, by omega⟩ W)
  rcases tp : idxB x.pt d.body.length with _ | _
  · have HF := Lib.hid (fit_no2 hxd hd.out tp)
    have hno := idxB_no tp
    have C2 := Lib.hid (fun W : World => l00In_no x.pt 0 ((d.body.length : Int) - 1) hno W)
    rw [hxd] at z0
    clear ti hno h g hS tv hc2 hd hrb hsh tp hxd
    go_enter Tryz.func109, Tryz.ntmps109
    go_wp2_with (go_at_call 52; (with_reducible refine (C1.out _).mono ?_); rintro e w3 ⟨rfl, rfl⟩)
    go_quiet ((go_at_call 52; exact quiet_same (C2.out _)))
    go_wp2
    go_ret
    exact ⟨ret_bool HF.out.symm, (by first | exact Below.refl _ _ | exact (Below.refl _ _).alloc (Nat.le_refl _) _ | exact ((Below.refl _ _).alloc (Nat.le_refl _) _).trans (below_drewN _ _ _) | exact (((Below.refl _ _).alloc (Nat.le_refl _) _).trans (below_drewN _ _ _)).trans (below_drewN _ _ _) | exact below_drewN _ _ _ | exact (below_drewN _ _ _).trans (below_drewN _ _ _))⟩
  obtain ⟨i, hxp, hi⟩ := idxB_yes tp
  obtain ⟨a, ha⟩ : ∃ a, (annOf d)[i]? = some a := ⟨_, List.getElem?_eq_getElem (by rw [annOf_len hsh]; exact hi)⟩
  have HFP := Lib.hid (fit_part hxd hd.out hxp hi ha)
  have hpa := annOf_part hsh ha
  have C2 := Lib.hid (fun W : World => l00In_yes (i : Int) 0 ((d.body.length : Int) - 1) ⟨by omega, by omega⟩ W)
  obtain ⟨b3, o3, cs3, pa, rfl, hb3, hR3, hq3, hc3⟩ := hrb.at_ (k := i) hi
  obtain rfl : pa = a.p := by have := hq3.out.symm.trans hpa; injection this
  obtain ⟨E3, ce, rfl, _, _, _, _⟩ := hR3
  have q0 : w.cell? ⟨b3, o3 + i * 4, none⟩ = some (.int .i64 a.p.k) := hc3 0 _ rfl
  have lb3 : b3 < w.heap.size := World.block_lt_of_cell? w _ q0
  have CS := Lib.hid (fun (W : World) (hW : Below w.heap.size w W) k1 k2 => specScope_any w.heap.size 0 d (some ⟨b3, o3, none⟩) cb i a W S k1 k2 (hrb.keep (SameOn.of_below hW hS)) hsh hp0 hp3 ha)
  have CD := Lib.hid (fun (W : World) (hW : Below w.heap.size w W) => l03Data_any V x.vs.length cv x.vs W W.heap.size ((g.keep (SameOn.of_below hW hS)).irow fun b h => Nat.lt_of_lt_of_le (hS b h) hW.size) rfl (by omega))
  rw [hxd] at z0
  rw [hxp] at z1
  clear ti h g hS tv hc2 hd hrb hsh tp hxd hxp hc3 hq3 hpa ha
  rcases t5 : (a.p.k == 5) with _ | _
  rotate_left
  · have HF := Lib.hid (show fitB ls x = false by rw [HFP.out, t5]; rfl)
    have t6 : decide (a.p.k = 5) = true := by simpa using t5
    go_enter Tryz.func109, Tryz.ntmps109
    go_wp2_with (go_at_call 52; (with_reducible refine (C1.out _).mono ?_); rintro e w3 ⟨rfl, rfl⟩)
    go_quiet ((go_at_call 52; exact quiet_same (C2.out _)))
    go_wp2
    go_ret
    exact ⟨ret_bool HF.out.symm, (by first | exact Below.refl _ _ | exact (Below.refl _ _).alloc (Nat.le_refl _) _ | exact ((Below.refl _ _).alloc (Nat.le_refl _) _).trans (below_drewN _ _ _) | exact (((Below.refl _ _).alloc (Nat.le_refl _) _).trans (below_drewN _ _ _)).trans (below_drewN _ _ _) | exact below_drewN _ _ _ | exact (below_drewN _ _ _).trans (below_drewN _ _ _))⟩
  have t6 : decide (a.p.k = 5) = false := by simpa using t5
  have HFP2 := Lib.hid (show fitB ls x = (((x.vs.length : Int) == a.s) && dataB x.vs) by rw [HFP.out, t5]; rfl)
  clear HFP
  rcases ts : ((x.vs.length : Int) == a.s) with _ | _
  · have HF := Lib.hid (show fitB ls x = false by rw [HFP2.out, ts]; rfl)
    have ts2 : decide ((x.vs.length : Int) = a.s) = false := by simpa using ts
    go_enter Tryz.func109, Tryz.ntmps109
    go_wp2_with (go_at_call 52; (with_reducible refine (C1.out _).mono ?_); rintro e w3 ⟨rfl, rfl⟩)
    go_quiet ((go_at_call 52; exact quiet_same (C2.out _)))
    go_wp2
    go_quiet (first | (go_at_call 128; exact quiet_drawn (CS.out _ (by repeat (first | exact Below.refl _ _ | refine Below.setCell ?_ (by simp) _ | refine Below.alloc ?_ (by simp <;> omega) _ | exact Below.trans (b := w.alloc _) ((Below.refl _ _).alloc (Nat.le_refl _) _) (below_drewN _ _ _) | exact Below.trans (b := w.alloc _) ((Below.refl _ _).alloc (Nat.le_refl _) _) (Below.trans (below_drewN _ _ _) (below_drewN _ _ _)))) (by simp [go_sem]) (by simp [go_sem]))) | (go_at_call 128; exact quiet_drawn2 (CS.out _ (by repeat (first | exact Below.refl _ _ | refine Below.setCell ?_ (by simp) _ | refine Below.alloc ?_ (by simp <;> omega) _ | exact Below.trans (b := w.alloc _) ((Below.refl _ _).alloc (Nat.le_refl _) _) (below_drewN _ _ _) | exact Below.trans (b := w.alloc _) ((Below.refl _ _).alloc (Nat.le_refl _) _) (Below.trans (below_drewN _ _ _) (below_drewN _ _ _)))) (by simp [go_sem]) (by simp [go_sem]))) | (go_at_call 92; exact quiet_same (CD.out _ (by repeat (first | exact Below.refl _ _ | refine Below.setCell ?_ (by simp) _ | refine Below.alloc ?_ (by simp <;> omega) _ | exact Below.trans (b := w.alloc _) ((Below.refl _ _).alloc (Nat.le_refl _) _) (below_drewN _ _ _) | exact Below.trans (b := w.alloc _) ((Below.refl _ _).alloc (Nat.le_refl _) _) (Below.trans (below_drewN _ _ _) (below_drewN _ _ _)))))) | (go_at_call 92; exact quiet_same2 (CD.out _ (by repeat (first | exact Below.refl _ _ | refine Below.setCell ?_ (by simp) _ | refine Below.alloc ?_ (by simp <;> omega) _ | exact Below.trans (b := w.alloc _) ((Below.refl _ _).alloc (Nat.le_refl _) _) (below_drewN _ _ _) | exact Below.trans (b := w.alloc _) ((Below.refl _ _).alloc (Nat.le_refl _) _) (Below.trans (below_drewN _ _ _) (below_drewN _ _ _)))))))
    go_wp2
    go_ret
    exact ⟨ret_bool HF.out.symm, (by first | exact Below.refl _ _ | exact (Below.refl _ _).alloc (Nat.le_refl _) _ | exact ((Below.refl _ _).alloc (Nat.le_refl _) _).trans (below_drewN _ _ _) | exact (((Below.refl _ _).alloc (Nat.le_refl _) _).trans (below_drewN _ _ _)).trans (below_drewN _ _ _) | exact below_drewN _ _ _ | exact (below_drewN _ _ _).trans (below_drewN _ _ _))⟩
  have ts2 : decide ((x.vs.length : Int) = a.s) = true := by simpa using ts
  rcases td : dataB x.vs with _ | _
  · have HF := Lib.hid (show fitB ls x = false by rw [HFP2.out, ts, td]; rfl)
    rw [td] at CD
    clear td
    go_enter Tryz.func109, Tryz.ntmps109
    go_wp2_with (go_at_call 52; (with_reducible refine (C1.out _).mono ?_); rintro e w3 ⟨rfl, rfl⟩)
    go_quiet ((go_at_call 52; exact quiet_same (C2.out _)))
    go_wp2
    go_quiet (first | (go_at_call 128; exact quiet_drawn (CS.out _ (by repeat (first | exact Below.refl _ _ | refine Below.setCell ?_ (by simp) _ | refine Below.alloc ?_ (by simp <;> omega) _ | exact Below.trans (b := w.alloc _) ((Below.refl _ _).alloc (Nat.le_refl _) _) (below_drewN _ _ _) | exact Below.trans (b := w.alloc _) ((Below.refl _ _).alloc (Nat.le_refl _) _) (Below.trans (below_drewN _ _ _) (below_drewN _ _ _)))) (by simp [go_sem]) (by simp [go_sem]))) | (go_at_call 128; exact quiet_drawn2 (CS.out _ (by repeat (first | exact Below.refl _ _ | refine Below.setCell ?_ (by simp) _ | refine Below.alloc ?_ (by simp <;> omega) _ | exact Below.trans (b := w.alloc _) ((Below.refl _ _).alloc (Nat.le_refl _) _) (below_drewN _ _ _) | exact Below.trans (b := w.alloc _) ((Below.refl _ _).alloc (Nat.le_refl _) _) (Below.trans (below_drewN _ _ _) (below_drewN _ _ _)))) (by simp [go_sem]) (by simp [go_sem]))) | (go_at_call 92; exact quiet_same (CD.out _ (by repeat (first | exact Below.refl _ _ | refine Below.setCell ?_ (by simp) _ | refine Below.alloc ?_ (by simp <;> omega) _ | exact Below.trans (b := w.alloc _) ((Below.refl _ _).alloc (Nat.le_refl _) _) (below_drewN _ _ _) | exact Below.trans (b := w.alloc _) ((Below.refl _ _).alloc (Nat.le_refl _) _) (Below.trans (below_drewN _ _ _) (below_drewN _ _ _)))))) | (go_at_call 92; exact quiet_same2 (CD.out _ (by repeat (first | exact Below.refl _ _ | refine Below.setCell ?_ (by simp) _ | refine Below.alloc ?_ (by simp <;> omega) _ | exact Below.trans (b := w.alloc _) ((Below.refl _ _).alloc (Nat.le_refl _) _) (below_drewN _ _ _) | exact Below.trans (b := w.alloc _) ((Below.refl _ _).alloc (Nat.le_refl _) _) (Below.trans (below_drewN _ _ _) (below_drewN _ _ _)))))))
    go_wp2
    go_ret
    exact ⟨ret_bool HF.out.symm, (by first | exact Below.refl _ _ | exact (Below.refl _ _).alloc (Nat.le_refl _) _ | exact ((Below.refl _ _).alloc (Nat.le_refl _) _).trans (below_drewN _ _ _) | exact (((Below.refl _ _).alloc (Nat.le_refl _) _).trans (below_drewN _ _ _)).trans (below_drewN _ _ _) | exact below_drewN _ _ _ | exact (below_drewN _ _ _).trans (below_drewN _ _ _))⟩
  · have HF := Lib.hid (show fitB ls x = true by rw [HFP2.out, ts, td]; rfl)
    rw [td] at CD
    clear td
    go_enter Tryz.func109, Tryz.ntmps109
    go_wp2_with (go_at_call 52; (with_reducible refine (C1.out _).mono ?_); rintro e w3 ⟨rfl, rfl⟩)
    go_quiet ((go_at_call 52; exact quiet_same (C2.out _)))
    go_wp2
    go_quiet (first | (go_at_call 128; exact quiet_drawn (CS.out _ (by repeat (first | exact Below.refl _ _ | refine Below.setCell ?_ (by simp) _ | refine Below.alloc ?_ (by simp <;> omega) _ | exact Below.trans (b := w.alloc _) ((Below.refl _ _).alloc (Nat.le_refl _) _) (below_drewN _ _ _) | exact Below.trans (b := w.alloc _) ((Below.refl _ _).alloc (Nat.le_refl _) _) (Below.trans (below_drewN _ _ _) (below_drewN _ _ _)))) (by simp [go_sem]) (by simp [go_sem]))) | (go_at_call 128; exact quiet_drawn2 (CS.out _ (by repeat (first | exact Below.refl _ _ | refine Below.setCell ?_ (by simp) _ | refine Below.alloc ?_ (by simp <;> omega) _ | exact Below.trans (b := w.alloc _) ((Below.refl _ _).alloc (Nat.le_refl _) _) (below_drewN _ _ _) | exact Below.trans (b := w.alloc _) ((Below.refl _ _).alloc (Nat.le_refl _) _) (Below.trans (below_drewN _ _ _) (below_drewN _ _ _)))) (by simp [go_sem]) (by simp [go_sem]))) | (go_at_call 92; exact quiet_same (CD.out _ (by repeat (first | exact Below.refl _ _ | refine Below.setCell ?_ (by simp) _ | refine Below.alloc ?_ (by simp <;> omega) _ | exact Below.trans (b := w.alloc _) ((Below.refl _ _).alloc (Nat.le_refl _) _) (below_drewN _ _ _) | exact Below.trans (b := w.alloc _) ((Below.refl _ _).alloc (Nat.le_refl _) _) (Below.trans (below_drewN _ _ _) (below_drewN _ _ _)))))) | (go_at_call 92; exact quiet_same2 (CD.out _ (by repeat (first | exact Below.refl _ _ | refine Below.setCell ?_ (by simp) _ | refine Below.alloc ?_ (by simp <;> omega) _ | exact Below.trans (b := w.alloc _) ((Below.refl _ _).alloc (Nat.le_refl _) _) (below_drewN _ _ _) | exact Below.trans (b := w.alloc _) ((Below.refl _ _).alloc (Nat.le_refl _) _) (Below.trans (below_drewN _ _ _) (below_drewN _ _ _)))))))
    go_wp2
    go_ret
    exact ⟨ret_bool HF.out.symm, (by first | exact Below.refl _ _ | exact (Below.refl _ _).alloc (Nat.le_refl _) _ | exact ((Below.refl _ _).alloc (Nat.le_refl _) _).trans (below_drewN _ _ _) | exact (((Below.refl _ _).alloc (Nat.le_refl _) _).trans (below_drewN _ _ _)).trans (below_drewN _ _ _) | exact below_drewN _ _ _ | exact (below_drewN _ _ _).trans (below_drewN _ _ _))⟩
theorem specFit_any (p : Nat) (ls : List Df) (x : Pn) (A : Option Addr) (c : Nat) (V : Option Addr) (cv : Nat) (w : World) (S : Nat → Prop) (h : LRow dfR w S A ls) (g : LRow intR w S V x.vs) (hS : ∀ b, S b → b < w.heap.size) (tv : vdB ls = true) (hv : x.vs.length ≤ 1048576) (z0 : w.cell? ⟨p, 0, none⟩ = some (.int .i64 x.d)) (z1 : w.cell? ⟨p, 1, none⟩ = some (.int .i64 x.pt)) (z2 : w.cell? ⟨p, 2, none⟩ = some (.slice V x.vs.length cv)) :
    Calls Tryz.prog 109 #[.slice A ls.length c, .pointer (some ⟨p, 0, none⟩)] w fun e w' => e = .returned (.bool (fitB ls x)) ∧ Below w.heap.size w w' := 
  specFitQ_any p 0 ls x A c V cv w S h g hS tv hv z0 (by simpa using z1) (by simpa using z2)
end Go.Proofs.YtdgcpaeneafejaaGreatDoor
