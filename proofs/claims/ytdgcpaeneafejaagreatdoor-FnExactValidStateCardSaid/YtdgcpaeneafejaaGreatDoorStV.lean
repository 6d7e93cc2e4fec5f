/- ValidState, both sides. -/
import Derived.StillTailTactics
import Derived.BigQuiet
import Derived.Test.YtdgcpaeneafejaaGreatDoorPnS
import Derived.Test.YtdgcpaeneafejaaGreatDoorPnI
import Derived.Test.YtdgcpaeneafejaaGreatDoorPnC
import Derived.Test.YtdgcpaeneafejaaGreatDoorSfU
import Derived.Test.YtdgcpaeneafejaaGreatDoorSfL
namespace Go.Proofs.YtdgcpaeneafejaaGreatDoor
open Go.RowKit
noncomputable def stB (s : Sy) (st : List Pn) : Bool := decide (st.length = s.cs.length) && st.all (fitB s.ds)
noncomputable def vstB (s : Sy) (st : List Pn) : Bool := vsB s && stB s st
theorem vs_ds {s : Sy} (h : vsB s = true) : vdB s.ds = true := by
  unfold vsB sfC at h
  rcases t1 : vdB s.ds with _ | _
  · rw [t1] at h; simp at h
  rfl
theorem stB_ne {s : Sy} {st : List Pn} (h : ¬ st.length = s.cs.length) : stB s st = false := by unfold stB; rw [decide_eq_false h]; rfl
theorem stB_no {s : Sy} {st : List Pn} {k : Nat} {x : Pn} (hx : st[k]? = some x) (h : fitB s.ds x = false) : stB s st = false := by unfold stB; rw [all_false hx h]; simp
set_option maxRecDepth 100000 in
set_option maxHeartbeats 1000000 in
theorem specState_any (p : Nat) (s : Sy) (st : List Pn) (A1 A2 B : Option Addr) (c1 c2 c : Nat) (w : World) (S : Nat → Prop) (h : LRow dfR w S A1 s.ds) (g : LRow pnR w S B st) (hS : ∀ b, S b → b < w.heap.size) (tv : vdB s.ds = true) (hm : okList okPn st) (_hcl : s.cs.length ≤ 1048576) (z0 : w.cell? ⟨p, 0, none⟩ = some (.slice A1 s.ds.length c1)) (z1 : w.cell? ⟨p, 1, none⟩ = some (.slice A2 s.cs.length c2)) :
    Calls Tryz.prog 76 #[.pointer (some ⟨p, 0, none⟩), .slice B st.length c] w fun e w' => e = .returned (.bool (stB s st)) ∧ Below w.heap.size w w' := by
  have hp : p < w.heap.size := World.block_lt_of_cell? w _ z0
  have hml := hm.1
  by_cases hc0 : st.length = s.cs.length
  rotate_left
  · have HF := Lib.hid (stB_ne hc0)
    have e0 : ((st.length : Int) == (s.cs.length : Int)) = false := ib_ne (by omega)
    clear h g hS hm tv hc0
    go_enter Tryz.func76, Tryz.ntmps76
    go_wp2
    go_ret
    exact ⟨ret_bool HF.out.symm, by first | exact Below.refl _ _ | exact (Below.refl _ _).drew⟩
  have HV := Lib.hid (show stB s st = st.all (fitB s.ds) by unfold stB; rw [decide_eq_true hc0]; rfl)
  have H1 := Lib.hid h
  have H2 := Lib.hid g
  have HS := Lib.hid hS
  have HM := Lib.hid hm
  have Z0 := Lib.hid z0
  rw [← hc0] at z1
  clear h g hS hm hc0
  go_enter Tryz.func76, Tryz.ntmps76
  go_wp2
  clear z0 z1
  go_loopw [5] (fun i wr => ∃ k : Nat, k ≤ st.length ∧ i = .int .i64 k ∧ Hid (Below w.heap.size w wr) ∧ wr.cell? ⟨p, 0, none⟩ = some (.slice A1 s.ds.length c1) ∧ Hid ((st.take k).all (fitB s.ds) = true)) (fun i _ => st.length - (intOf i).toNat)
  case atStart => exact ⟨0, Nat.zero_le _, rfl, Lib.hid (Below.refl _ _), Z0.out, Lib.hid rfl⟩
  case round =>
    obtain ⟨k, hk, rfl, HB, y0, HT⟩ := hrel
    have hsz := HB.out.size
    have hpr : p < wr.heap.size := by omega
    by_cases hlt : k < st.length
    · obtain ⟨b, o, cs0, x, rfl, hb, hR, hx, hc⟩ := (H2.out.keep (SameOn.of_below HB.out HS.out)).at_ (k := k) hlt
      obtain ⟨V, cv, rfl, hlv, hcv, hrv⟩ := hR
      have r0 : wr.cell? ⟨b, o + k * 3, none⟩ = some (.int .i64 x.d) := hc 0 _ rfl
      have r1 : wr.cell? ⟨b, o + k * 3 + 1, none⟩ = some (.int .i64 x.pt) := hc 1 _ rfl
      have r2 : wr.cell? ⟨b, o + k * 3 + 2, none⟩ = some (.slice V x.vs.length cv) := hc 2 _ rfl
      have lb : b < wr.heap.size := World.block_lt_of_cell? wr _ r0
      have hxv := (HM.out.2 x (List.mem_of_getElem? hx.out)).1
      have CF := Lib.hid (fun (W : World) (hW : Below wr.heap.size wr W) => Calls.mono (specFitQ_any b (o + k * 3) s.ds x A1 c1 V cv W S (H1.out.keep (SameOn.of_below (HB.out.trans (hW.mono hsz)) HS.out)) (hrv.keep (SameOn.of_below hW fun b h => Nat.lt_of_lt_of_le (HS.out b h) hsz)) (fun b h => Nat.lt_of_lt_of_le (HS.out b h) (Nat.le_trans hsz hW.size)) tv hxv ((hW.cell (p := ⟨b, o + k * 3, none⟩) lb).trans r0) ((hW.cell (p := ⟨b, o + k * 3 + 1, none⟩) lb).trans r1) ((hW.cell (p := ⟨b, o + k * 3 + 2, none⟩) lb).trans r2)) (fun e w' ⟨he, hb⟩ => (⟨he, hW.trans (Below.mono hb hW.size), (hW.cell (p := ⟨p, 0, none⟩) hpr).trans y0, hb⟩ : e = Ending.returned (.bool (fitB s.ds x)) ∧ Below wr.heap.size wr w' ∧ W.cell? ⟨p, 0, none⟩ = some (Value.slice A1 s.ds.length c1) ∧ Below W.heap.size W w')))
      clear hc hrv
      rcases tf : fitB s.ds x with _ | _
      · have HF := Lib.hid (stB_no hx.out tf)
        have TF := Lib.hid tf
        clear tf
        have y0' : wr.drew.cell? ⟨p, 0, none⟩ = some (.slice A1 s.ds.length c1) := y0
        go_wp2
        go_still_tail 7, (by kernel_rfl)
        change wpList _ _ _ _ _ wr.drew
        go_wp2_with (go_at_call 109; refine (CF.out _ (by first | exact Below.refl _ _ | exact (Below.refl _ _).drew)).mono ?_; rw [TF.out]; rintro e w3 ⟨rfl, hb, hb', hb2⟩; have HB3 := Lib.hid (HB.out.trans (hb.mono hsz)); clear hb hb' hb2)
        go_ret
        exact ⟨ret_bool HF.out.symm, HB3.out⟩
      · have HN := Lib.hid (all_take_next (p := fitB s.ds) HT.out hx.out tf)
        have TF := Lib.hid tf
        clear tf
        have y0' : wr.drew.cell? ⟨p, 0, none⟩ = some (.slice A1 s.ds.length c1) := y0
        go_wp2
        go_still_tail 7, (by kernel_rfl)
        change wpList _ _ _ _ _ wr.drew
        go_wp2_with (go_at_call 109; refine (CF.out _ (by first | exact Below.refl _ _ | exact (Below.refl _ _).drew)).mono ?_; rw [TF.out]; rintro e w3 ⟨rfl, hb, _, _⟩; have y3 : w3.cell? ⟨p, 0, none⟩ = some (.slice A1 s.ds.length c1) := (hb.cell (p := ⟨p, 0, none⟩) hpr).trans y0; have HB3 := Lib.hid (HB.out.trans (hb.mono hsz)); clear hb)
        go_roundw
        case rel => exact ⟨k + 1, by omega, by go_num, HB3, y3, HN⟩
        case measure => simp [intOf]; omega
    · have HF := Lib.hid (show stB s st = true by
        have ht := HT.out
        rw [List.take_of_length_le (by omega)] at ht
        rw [HV.out, ht])
      go_wp2
      go_ret
      exact ⟨ret_bool HF.out.symm, HB.out⟩
set_option maxRecDepth 100000 in
set_option maxHeartbeats 1000000 in
theorem implState_any (s : Sy) (st : List Pn) (A1 A2 A3 A4 A5 B : Option Addr) (c1 c2 c3 c4 c5 c : Nat) (w : World) (S : Nat → Prop) (h : LRow dfR w S A1 s.ds) (g : LRow pnR w S B st) (hS : ∀ b, S b → b < w.heap.size) (tv : vdB s.ds = true) (hm : okList okPn st) (_hcl : s.cs.length ≤ 1048576) (ht : FormTab w) :
    Calls Tryz.prog 78 #[.agg #[.slice A1 s.ds.length c1, .slice A2 s.cs.length c2, .slice A3 s.ms.length c3, .slice A4 s.al.length c4, .slice A5 s.hd.length c5], .slice B st.length c] w fun e w' => e = .returned (.bool (stB s st)) ∧ Below w.heap.size w w' := by
  have hml := hm.1
  by_cases hc0 : st.length = s.cs.length
  rotate_left
  · have HF := Lib.hid (stB_ne hc0)
    have e0 : ((st.length : Int) == (s.cs.length : Int)) = false := ib_ne (by omega)
    clear h g hS hm tv hc0
    go_enter Tryz.func78, Tryz.ntmps78
    go_wp2
    go_ret
    exact ⟨ret_bool HF.out.symm, (by repeat (first | exact Below.refl _ _ | refine Below.setCell ?_ (by simp) _ | refine Below.alloc ?_ (by simp <;> omega) _))⟩
  have HV := Lib.hid (show stB s st = st.all (fitB s.ds) by unfold stB; rw [decide_eq_true hc0]; rfl)
  have H1 := Lib.hid h
  have H2 := Lib.hid g
  have HS := Lib.hid hS
  have HM := Lib.hid hm
  have HTB := Lib.hid ht
  rw [← hc0]
  clear h g hS hm hc0 ht
  go_enter Tryz.func78, Tryz.ntmps78
  go_wp2
  go_loopw [15] (fun i wr => ∃ k : Nat, k ≤ st.length ∧ i = .int .i64 k ∧ Hid (Below w.heap.size w wr) ∧ wr.cell? ⟨w.heap.size, 0, none⟩ = some (.slice A1 s.ds.length c1) ∧ Hid ((st.take k).all (fitB s.ds) = true)) (fun i _ => st.length - (intOf i).toNat)
  case atStart => exact ⟨0, Nat.zero_le _, rfl, Lib.hid (by repeat (first | exact Below.refl _ _ | refine Below.setCell ?_ (by simp) _ | refine Below.alloc ?_ (by simp <;> omega) _)), by simp [go_sem], Lib.hid rfl⟩
  case round =>
    obtain ⟨k, hk, rfl, HB, y0, HT⟩ := hrel
    have hsz := HB.out.size
    have hpr : w.heap.size < wr.heap.size := World.block_lt_of_cell? wr _ y0
    by_cases hlt : k < st.length
    · obtain ⟨b, o, cs0, x, rfl, hb, hR, hx, hc⟩ := (H2.out.keep (SameOn.of_below HB.out HS.out)).at_ (k := k) hlt
      obtain ⟨V, cv, rfl, hlv, hcv, hrv⟩ := hR
      have r0 : wr.cell? ⟨b, o + k * 3, none⟩ = some (.int .i64 x.d) := hc 0 _ rfl
      have r1 : wr.cell? ⟨b, o + k * 3 + 1, none⟩ = some (.int .i64 x.pt) := hc 1 _ rfl
      have r2 : wr.cell? ⟨b, o + k * 3 + 2, none⟩ = some (.slice V x.vs.length cv) := hc 2 _ rfl
      have lb : b < wr.heap.size := World.block_lt_of_cell? wr _ r0
      have hxv := (HM.out.2 x (List.mem_of_getElem? hx.out)).1
      have CF := Lib.hid (fun (W : World) (hW : Below wr.heap.size wr W) => Calls.mono (fitsP_any s.ds x A1 c1 V cv W S (H1.out.keep (SameOn.of_below (HB.out.trans (hW.mono hsz)) HS.out)) (hrv.keep (SameOn.of_below hW fun b h => Nat.lt_of_lt_of_le (HS.out b h) hsz)) (fun b h => Nat.lt_of_lt_of_le (HS.out b h) (Nat.le_trans hsz hW.size)) tv hxv (HTB.out.below (HB.out.trans (hW.mono hsz)))) (fun e w' ⟨he, hb⟩ => (⟨he, hW.trans (Below.mono hb hW.size), hb⟩ : e = Ending.returned (.bool (fitB s.ds x)) ∧ Below wr.heap.size wr w' ∧ Below W.heap.size W w')))
      clear hc hrv
      rcases tf : fitB s.ds x with _ | _
      · have HF := Lib.hid (stB_no hx.out tf)
        have TF := Lib.hid tf
        clear tf
        go_wp2_with (go_at_call 110; refine (CF.out _ (by repeat (first | exact Below.refl _ _ | refine Below.alloc ?_ (by simp <;> omega) _))).mono ?_; rw [TF.out]; rintro e w3 ⟨rfl, hb, hb'⟩; have HB3 := Lib.hid (HB.out.trans (hb.mono hsz)); clear hb hb')
        go_ret
        exact ⟨ret_bool HF.out.symm, HB3.out⟩
      · have HN := Lib.hid (all_take_next (p := fitB s.ds) HT.out hx.out tf)
        have TF := Lib.hid tf
        clear tf
        go_wp2_with (go_at_call 110; refine (CF.out _ (by repeat (first | exact Below.refl _ _ | refine Below.alloc ?_ (by simp <;> omega) _))).mono ?_; rw [TF.out]; rintro e w3 ⟨rfl, hb, hb'⟩; have y3 : w3.cell? ⟨w.heap.size, 0, none⟩ = some (.slice A1 s.ds.length c1) := (hb.cell (p := ⟨w.heap.size, 0, none⟩) hpr).trans y0; have HB3 := Lib.hid (HB.out.trans (hb.mono hsz)); clear hb hb')
        go_roundw
        case rel => exact ⟨k + 1, by omega, by go_num, HB3, y3, HN⟩
        case measure => simp [intOf]; omega
    · have HF := Lib.hid (show stB s st = true by
        have ht := HT.out
        rw [List.take_of_length_le (by omega)] at ht
        rw [HV.out, ht])
      go_wp2
      go_ret
      exact ⟨ret_bool HF.out.symm, HB.out⟩
set_option maxRecDepth 100000 in
set_option maxHeartbeats 1000000 in
theorem specVState_any (s : Sy) (st : List Pn) (A1 A2 A3 A4 A5 B : Option Addr) (c1 c2 c3 c4 c5 c : Nat) (w : World) (S : Nat → Prop) (h1 : LRow dfR w S A1 s.ds) (h2 : LRow cpR w S A2 s.cs) (h3 : LRow mtR w S A3 s.ms) (h4 : LRow txtR w S A4 s.al) (h5 : LRow txtR w S A5 s.hd) (g : LRow pnR w S B st) (hS : ∀ b, S b → b < w.heap.size) (ok : okSy s) (hm : okList okPn st) :
    Calls Tryz.prog 27 #[.agg #[.slice A1 s.ds.length c1, .slice A2 s.cs.length c2, .slice A3 s.ms.length c3, .slice A4 s.al.length c4, .slice A5 s.hd.length c5], .slice B st.length c] w fun e w' => e = .returned (.bool (vstB s st)) ∧ Below w.heap.size w w' := by
  have C1 := Lib.hid (fun (W : World) (hW : Below w.heap.size w W) (p : Nat) z0 z1 z2 z3 z4 => (Calls.mono (specIs_any p s A1 A2 A3 A4 A5 c1 c2 c3 c4 c5 W S (h1.keep (SameOn.of_below hW hS)) (h2.keep (SameOn.of_below hW hS)) (h3.keep (SameOn.of_below hW hS)) (h4.keep (SameOn.of_below hW hS)) (h5.keep (SameOn.of_below hW hS)) (fun b hb => Nat.lt_of_lt_of_le (hS b hb) hW.size) ok z0 z1 z2 z3 z4) (fun e w' ⟨he, hb⟩ => (⟨he, hW.trans (Below.mono hb hW.size), hb⟩ : e = Ending.returned (.bool (vsB s)) ∧ Below w.heap.size w w' ∧ Below W.heap.size W w'))))
  rcases tv : vsB s with _ | _
  · have HF := Lib.hid (show vstB s st = false by unfold vstB; rw [tv]; rfl)
    rw [tv] at C1
    clear tv h1 h2 h3 h4 h5 g hS ok hm
    go_enter Tryz.func27, Tryz.ntmps27
    go_wp2_with fail
    refine (C1.out _ (by repeat (first | exact Below.refl _ _ | refine Below.setCell ?_ (by simp) _ | refine Below.alloc ?_ (by simp <;> omega) _)) _ (by simp [go_sem]) (by simp [go_sem]) (by simp [go_sem]) (by simp [go_sem]) (by simp [go_sem])).mono ?_
    rintro e w1 ⟨rfl, b2, b3⟩
    have B2 := Lib.hid b2
    clear b2 b3
    go_wp2
    go_ret
    exact ⟨ret_bool HF.out.symm, B2.out⟩
  have HF := Lib.hid (show vstB s st = stB s st by unfold vstB; rw [tv]; rfl)
  have C2 := Lib.hid (fun (W : World) (hW : Below w.heap.size w W) (p : Nat) z0 z1 => (Calls.mono (specState_any p s st A1 A2 B c1 c2 c W S (h1.keep (SameOn.of_below hW hS)) (g.keep (SameOn.of_below hW hS)) (fun b hb => Nat.lt_of_lt_of_le (hS b hb) hW.size) (vs_ds tv) hm ok.2.1.1 z0 z1) (fun e w' ⟨he, hb⟩ => (⟨he, hW.trans (Below.mono hb hW.size)⟩ : e = Ending.returned (.bool (stB s st)) ∧ Below w.heap.size w w'))))
  rw [tv] at C1
  clear tv h1 h2 h3 h4 h5 g hS ok hm
  go_enter Tryz.func27, Tryz.ntmps27
  go_wp2_with fail
  refine (C1.out _ (by repeat (first | exact Below.refl _ _ | refine Below.setCell ?_ (by simp) _ | refine Below.alloc ?_ (by simp <;> omega) _)) _ (by simp [go_sem]) (by simp [go_sem]) (by simp [go_sem]) (by simp [go_sem]) (by simp [go_sem])).mono ?_
  rintro e w1 ⟨rfl, b2, b3⟩
  have BX := Lib.hid ((Bx.of (b := w.heap.size) (v0 := .slice A1 s.ds.length c1) (v1 := .slice A2 s.cs.length c2) (v2 := .slice A3 s.ms.length c3) (v3 := .slice A4 s.al.length c4) (v4 := .slice A5 s.hd.length c5) (by simp <;> omega) (by simp [go_sem]) (by simp [go_sem]) (by simp [go_sem]) (by simp [go_sem]) (by simp [go_sem])).next b3)
  have B2 := Lib.hid b2
  clear b2 b3
  obtain ⟨a0, a1, a2, a3, a4⟩ := BX.out.five
  have hp : w.heap.size < w1.heap.size := BX.out.1
  go_wp2_with fail
  refine (C2.out _ B2.out _ a0 a1).mono ?_
  rintro e w2 ⟨rfl, b2⟩
  have B3 := Lib.hid b2
  clear b2
  go_wp2
  go_ret
  exact ⟨ret_bool HF.out.symm, B3.out⟩
set_option maxRecDepth 100000 in
set_option maxHeartbeats 1000000 in
theorem implVState_any (s : Sy) (st : List Pn) (A1 A2 A3 A4 A5 B : Option Addr) (c1 c2 c3 c4 c5 c : Nat) (w : World) (S : Nat → Prop) (h1 : LRow dfR w S A1 s.ds) (h2 : LRow cpR w S A2 s.cs) (h3 : LRow mtR w S A3 s.ms) (h4 : LRow txtR w S A4 s.al) (h5 : LRow txtR w S A5 s.hd) (g : LRow pnR w S B st) (hS : ∀ b, S b → b < w.heap.size) (ok : okSy s) (hm : okList okPn st) (ht : FormTab w) :
    Calls Tryz.prog 29 #[.agg #[.slice A1 s.ds.length c1, .slice A2 s.cs.length c2, .slice A3 s.ms.length c3, .slice A4 s.al.length c4, .slice A5 s.hd.length c5], .slice B st.length c] w fun e w' => e = .returned (.bool (vstB s st)) ∧ Below w.heap.size w w' := by
  have C1 := Lib.hid (fun (W : World) (hW : Below w.heap.size w W) => (Calls.mono (implValidSys_any s A1 A2 A3 A4 A5 c1 c2 c3 c4 c5 W S (h1.keep (SameOn.of_below hW hS)) (h2.keep (SameOn.of_below hW hS)) (h3.keep (SameOn.of_below hW hS)) (h4.keep (SameOn.of_below hW hS)) (h5.keep (SameOn.of_below hW hS)) (fun b hb => Nat.lt_of_lt_of_le (hS b hb) hW.size) ok (ht.below hW)) (fun e w' ⟨he, hb⟩ => (⟨he, hW.trans (Below.mono hb hW.size), hb⟩ : e = Ending.returned (.bool (vsB s)) ∧ Below w.heap.size w w' ∧ Below W.heap.size W w'))))
  rcases tv : vsB s with _ | _
  · have HF := Lib.hid (show vstB s st = false by unfold vstB; rw [tv]; rfl)
    rw [tv] at C1
    clear tv h1 h2 h3 h4 h5 g hS ok hm ht
    go_enter Tryz.func29, Tryz.ntmps29
    go_wp2_with fail
    refine (C1.out _ (by repeat (first | exact Below.refl _ _ | refine Below.setCell ?_ (by simp) _ | refine Below.alloc ?_ (by simp <;> omega) _))).mono ?_
    rintro e w1 ⟨rfl, b2, b3⟩
    have B2 := Lib.hid b2
    clear b2 b3
    go_wp2
    go_ret
    exact ⟨ret_bool HF.out.symm, B2.out⟩
  have HF := Lib.hid (show vstB s st = stB s st by unfold vstB; rw [tv]; rfl)
  have C2 := Lib.hid (fun (W : World) (hW : Below w.heap.size w W) => (Calls.mono (implState_any s st A1 A2 A3 A4 A5 B c1 c2 c3 c4 c5 c W S (h1.keep (SameOn.of_below hW hS)) (g.keep (SameOn.of_below hW hS)) (fun b hb => Nat.lt_of_lt_of_le (hS b hb) hW.size) (vs_ds tv) hm ok.2.1.1 (ht.below hW)) (fun e w' ⟨he, hb⟩ => (⟨he, hW.trans (Below.mono hb hW.size)⟩ : e = Ending.returned (.bool (stB s st)) ∧ Below w.heap.size w w'))))
  rw [tv] at C1
  clear tv h1 h2 h3 h4 h5 g hS ok hm ht
  go_enter Tryz.func29, Tryz.ntmps29
  go_wp2_with fail
  refine (C1.out _ (by repeat (first | exact Below.refl _ _ | refine Below.setCell ?_ (by simp) _ | refine Below.alloc ?_ (by simp <;> omega) _))).mono ?_
  rintro e w1 ⟨rfl, b2, b3⟩
  have BX := Lib.hid ((Bx.of (b := w.heap.size) (v0 := .slice A1 s.ds.length c1) (v1 := .slice A2 s.cs.length c2) (v2 := .slice A3 s.ms.length c3) (v3 := .slice A4 s.al.length c4) (v4 := .slice A5 s.hd.length c5) (by simp <;> omega) (by simp [go_sem]) (by simp [go_sem]) (by simp [go_sem]) (by simp [go_sem]) (by simp [go_sem])).next b3)
  have B2 := Lib.hid b2
  clear b2 b3
  obtain ⟨a0, a1, a2, a3, a4⟩ := BX.out.five
  have hp : w.heap.size < w1.heap.size := BX.out.1
  go_wp2_with fail
  refine (C2.out _ B2.out).mono ?_
  rintro e w2 ⟨rfl, b2⟩
  have B3 := Lib.hid b2
  clear b2
  go_wp2
  go_ret
  exact ⟨ret_bool HF.out.symm, B3.out⟩
theorem sVStateR {x : Sy} {cs : List Value} {st : List Pn} {B : Option Addr} {c : Nat} {w : World} {S1 S2 : Nat → Prop} (h : syR.R w S1 x cs) (g : LRow pnR w S2 B st) (hS1 : ∀ b, S1 b → b < w.heap.size) (hS2 : ∀ b, S2 b → b < w.heap.size) (ok : okSy x) (hm : okList okPn st) :
    Calls Tryz.prog 27 #[.agg cs.toArray, .slice B st.length c] w fun e w' => e = .returned (.bool (vstB x st)) ∧ Below w.heap.size w w' := by
  obtain ⟨A1, c1, A2, c2, A3, c3, A4, c4, A5, c5, rfl, ⟨p1, q1, r1⟩, ⟨p2, q2, r2⟩, ⟨p3, q3, r3⟩, ⟨p4, q4, r4⟩, ⟨p5, q5, r5⟩⟩ := h
  exact specVState_any x st A1 A2 A3 A4 A5 B c1 c2 c3 c4 c5 c w (fun b => S1 b ∨ S2 b) (r1.more fun _ h => Or.inl h) (r2.more fun _ h => Or.inl h) (r3.more fun _ h => Or.inl h) (r4.more fun _ h => Or.inl h) (r5.more fun _ h => Or.inl h) (g.more fun _ h => Or.inr h) (fun b h => h.elim (hS1 b) (hS2 b)) ok hm
theorem iVStateR {x : Sy} {cs : List Value} {st : List Pn} {B : Option Addr} {c : Nat} {w : World} {S1 S2 : Nat → Prop} (h : syR.R w S1 x cs) (g : LRow pnR w S2 B st) (hS1 : ∀ b, S1 b → b < w.heap.size) (hS2 : ∀ b, S2 b → b < w.heap.size) (ok : okSy x) (hm : okList okPn st) (ht : FormTab w) :
    Calls Tryz.prog 29 #[.agg cs.toArray, .slice B st.length c] w fun e w' => e = .returned (.bool (vstB x st)) ∧ Below w.heap.size w w' := by
  obtain ⟨A1, c1, A2, c2, A3, c3, A4, c4, A5, c5, rfl, ⟨p1, q1, r1⟩, ⟨p2, q2, r2⟩, ⟨p3, q3, r3⟩, ⟨p4, q4, r4⟩, ⟨p5, q5, r5⟩⟩ := h
  exact implVState_any x st A1 A2 A3 A4 A5 B c1 c2 c3 c4 c5 c w (fun b => S1 b ∨ S2 b) (r1.more fun _ h => Or.inl h) (r2.more fun _ h => Or.inl h) (r3.more fun _ h => Or.inl h) (r4.more fun _ h => Or.inl h) (r5.more fun _ h => Or.inl h) (g.more fun _ h => Or.inr h) (fun b h => h.elim (hS1 b) (hS2 b)) ok hm ht
end Go.Proofs.YtdgcpaeneafejaaGreatDoor
