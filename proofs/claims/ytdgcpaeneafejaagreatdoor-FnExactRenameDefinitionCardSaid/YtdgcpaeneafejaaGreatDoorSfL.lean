/- Components and systems: the program. -/
import Derived.BigQuiet
import Derived.Test.YtdgcpaeneafejaaGreatDoorSfK
import Derived.Test.YtdgcpaeneafejaaGreatDoorSfU
namespace Go.Proofs.YtdgcpaeneafejaaGreatDoor
open Go.RowKit
theorem indexQ_any (k : Int) (n : Nat) (w : World) (_hn : n ≤ 1048576) :
    Calls Tryz.prog 70 #[.int .i64 k, .int .i64 n] w fun e w' => e = .returned (.bool (idxB k n)) ∧ w = w' := by
  by_cases h0 : 0 ≤ k
  · by_cases h1 : k < n
    · have HF := Lib.hid (show idxB k n = true by unfold idxB; simp [h0, h1])
      go_enter Tryz.func70, Tryz.ntmps70
      go_wp2
      go_ret
      exact ⟨by rw [HF.out]; rfl, rfl⟩
    · have HF := Lib.hid (show idxB k n = false by unfold idxB; simp [h1])
      go_enter Tryz.func70, Tryz.ntmps70
      go_wp2
      go_ret
      exact ⟨by rw [HF.out]; rfl, rfl⟩
  · have HF := Lib.hid (show idxB k n = false by unfold idxB; simp [h0])
    go_enter Tryz.func70, Tryz.ntmps70
    go_wp2
    go_ret
    exact ⟨by rw [HF.out]; rfl, rfl⟩
set_option maxRecDepth 100000 in
set_option maxHeartbeats 4000000 in
theorem fits_any (x : Cp) (V : Option Addr) (cv : Nat) (A : Option Addr) (c : Nat) (ls : List Df) (w : World) (S : Nat → Prop) (h : LRow dfR w S A ls) (g : LRow intR w S V x.vs) (hS : ∀ b, S b → b < w.heap.size) (hn : ls.length ≤ 4) (hv : x.vs.length ≤ 1048576) :
    Calls Tryz.prog 57 #[.agg #[.int .i64 x.d, .slice V x.vs.length cv], .slice A ls.length c] w fun e w' => e = .returned (.bool (cpB ls x)) ∧ Below w.heap.size w w' := by
  have CX := Lib.hid (fun W : World => indexQ_any x.d ls.length W (by omega))
  rcases ti : idxB x.d ls.length with _ | _
  · have HF := Lib.hid (show cpB ls x = false by unfold cpB; rw [ti]; rfl)
    rw [ti] at CX
    clear h g hS ti
    go_enter Tryz.func57, Tryz.ntmps57
    go_wp2
    go_quiet ((go_at_call 70; exact quiet_same (CX.out _)))
    go_wp2
    go_ret
    exact ⟨ret_bool HF.out.symm, (by first | exact (Below.refl _ _).alloc (Nat.le_refl _) _ | exact ((Below.refl _ _).alloc (Nat.le_refl _) _).trans (below_drewN _ _ _) | exact (((Below.refl _ _).alloc (Nat.le_refl _) _).trans (below_drewN _ _ _)).trans (below_drewN _ _ _))⟩
  obtain ⟨j, hxd, hj⟩ := idxB_yes ti
  obtain ⟨b2, o2, cs2, d, rfl, hb2, hR2, hd, hc2⟩ := h.at_ (k := j) hj
  obtain ⟨B, cb, rfl, _, _, _, _⟩ := hR2
  have t1 : w.cell? ⟨b2, o2 + j * 3 + 1, none⟩ = some (.int .i64 d.ps) := hc2 1 _ rfl
  have lb2 : b2 < w.heap.size := World.block_lt_of_cell? w _ t1
  have HGD := Lib.hid (show (ls.getD x.d.toNat default) = d by rw [hxd, List.getD_eq_getElem?_getD, Int.toNat_natCast, hd.out]; rfl)
  have CD := Lib.hid (fun (W : World) (hW : Below w.heap.size w W) => containsF_any V x.vs.length cv x.vs W W.heap.size ((g.keep (SameOn.of_below hW hS)).irow fun b h => Nat.lt_of_lt_of_le (hS b h) hW.size) rfl (by omega))
  have TI := Lib.hid ti
  rw [ti, hxd] at CX
  clear hc2 ti h g hS
  obtain ⟨xd, hq⟩ : ∃ q : Int, q = x.d := ⟨_, rfl⟩
  rw [← hq] at hxd
  have HQ := Lib.hid hq
  have hgoal : cpB ls x = ((((x.vs.length : Int) == d.ps)) && dataB x.vs) := by unfold cpB; rw [TI.out, HGD.out]; rfl
  have HV := Lib.hid hgoal
  clear hgoal
  rw [← hq, hxd]
  clear hq
  rcases tp : ((x.vs.length : Int) == d.ps) with _ | _
  · have HF := Lib.hid (show cpB ls x = false by rw [HV.out, tp]; rfl)
    go_enter Tryz.func57, Tryz.ntmps57
    go_wp2
    go_quiet ((go_at_call 70; exact quiet_same (CX.out _)))
    go_wp2
    go_ret
    exact ⟨ret_bool HF.out.symm, (by first | exact (Below.refl _ _).alloc (Nat.le_refl _) _ | exact ((Below.refl _ _).alloc (Nat.le_refl _) _).trans (below_drewN _ _ _) | exact (((Below.refl _ _).alloc (Nat.le_refl _) _).trans (below_drewN _ _ _)).trans (below_drewN _ _ _))⟩
  rcases td : dataB x.vs with _ | _
  · have HF := Lib.hid (show cpB ls x = false by rw [HV.out, tp, td]; rfl)
    rw [td] at CD
    clear td
    go_enter Tryz.func57, Tryz.ntmps57
    go_wp2
    go_quiet (first | (go_at_call 70; exact quiet_same (CX.out _)) | (go_at_call 94; exact quiet_same (CD.out _ (by first | exact ((Below.refl _ _).alloc (Nat.le_refl _) _).trans (below_drewN _ _ _) | exact (Below.refl _ _).alloc (Nat.le_refl _) _))))
    go_wp2
    go_ret
    exact ⟨ret_bool HF.out.symm, (by first | exact (Below.refl _ _).alloc (Nat.le_refl _) _ | exact ((Below.refl _ _).alloc (Nat.le_refl _) _).trans (below_drewN _ _ _) | exact (((Below.refl _ _).alloc (Nat.le_refl _) _).trans (below_drewN _ _ _)).trans (below_drewN _ _ _))⟩
  · have HF := Lib.hid (show cpB ls x = true by rw [HV.out, tp, td]; rfl)
    rw [td] at CD
    clear td
    go_enter Tryz.func57, Tryz.ntmps57
    go_wp2
    go_quiet (first | (go_at_call 70; exact quiet_same (CX.out _)) | (go_at_call 94; exact quiet_same (CD.out _ (by first | exact ((Below.refl _ _).alloc (Nat.le_refl _) _).trans (below_drewN _ _ _) | exact (Below.refl _ _).alloc (Nat.le_refl _) _))))
    go_wp2
    go_ret
    exact ⟨ret_bool HF.out.symm, (by first | exact (Below.refl _ _).alloc (Nat.le_refl _) _ | exact ((Below.refl _ _).alloc (Nat.le_refl _) _).trans (below_drewN _ _ _) | exact (((Below.refl _ _).alloc (Nat.le_refl _) _).trans (below_drewN _ _ _)).trans (below_drewN _ _ _))⟩
set_option maxRecDepth 100000 in
set_option maxHeartbeats 4000000 in
theorem implComps_any (ls : List Df) (cs : List Cp) (A1 A2 : Option Addr) (c1 c2 : Nat) (w : World) (S : Nat → Prop) (h1 : LRow dfR w S A1 ls) (h2 : LRow cpR w S A2 cs) (hS : ∀ b, S b → b < w.heap.size) (hn : ls.length ≤ 4) (hm : okList okCp cs) :
    Calls Tryz.prog 118 #[.slice A2 cs.length c2, .slice A1 ls.length c1] w fun e w' => e = .returned (.bool (csB ls cs)) ∧ Below w.heap.size w w' := by
  have hmm := hm.1
  by_cases hc0 : cs.length = 0
  · have HF := Lib.hid (show csB ls cs = false by unfold csB; rw [decide_eq_false (by omega)]; rfl)
    have e0 : (cs.length : Int) < 1 := by omega
    clear h1 h2 hS hm hc0
    go_enter Tryz.func118, Tryz.ntmps118
    go_wp2
    go_ret
    exact ⟨ret_bool HF.out.symm, by first | exact Below.refl _ _ | exact (Below.refl _ _).drew⟩
  have e0 : ¬ (cs.length : Int) < 1 := by omega
  by_cases hc3 : 3 < cs.length
  · have HF := Lib.hid (show csB ls cs = false by unfold csB; rw [decide_eq_false (show ¬ cs.length ≤ 3 by omega)]; simp)
    have e3 : (3 : Int) < (cs.length : Int) := by omega
    clear h1 h2 hS hm hc0
    go_enter Tryz.func118, Tryz.ntmps118
    go_wp2
    go_ret
    exact ⟨ret_bool HF.out.symm, by first | exact Below.refl _ _ | exact (Below.refl _ _).drew⟩
  have e3 : ¬ (3 : Int) < (cs.length : Int) := by omega
  have HV := Lib.hid (show csB ls cs = cs.all (cpB ls) by unfold csB; rw [decide_eq_true (by omega), decide_eq_true (by omega)]; rfl)
  have H1 := Lib.hid h1
  have H2 := Lib.hid h2
  have HS := Lib.hid hS
  have HM := Lib.hid hm
  clear h1 h2 hS hm hc0
  go_enter Tryz.func118, Tryz.ntmps118
  go_wp2
  go_loopw [17] (fun i wr => ∃ k : Nat, k ≤ cs.length ∧ i = .int .i64 k ∧ Hid (Below w.heap.size w wr) ∧ Hid ((cs.take k).all (cpB ls) = true)) (fun i _ => cs.length - (intOf i).toNat)
  case atStart => exact ⟨0, Nat.zero_le _, rfl, Lib.hid (Below.refl _ _), Lib.hid rfl⟩
  case round =>
    obtain ⟨k, hk, rfl, HB, HT⟩ := hrel
    have hsz := HB.out.size
    by_cases hlt : k < cs.length
    · obtain ⟨b, o, cs0, x, rfl, hb, hR, hx, hc⟩ := (H2.out.keep (SameOn.of_below HB.out HS.out)).at_ (k := k) hlt
      obtain ⟨V, cv, rfl, hlv, hcv, hrv⟩ := hR
      have r0 : wr.cell? ⟨b, o + k * 2, none⟩ = some (.int .i64 x.d) := hc 0 _ rfl
      have r1 : wr.cell? ⟨b, o + k * 2 + 1, none⟩ = some (.slice V x.vs.length cv) := hc 1 _ rfl
      have lb : b < wr.heap.size := World.block_lt_of_cell? wr _ r0
      have hxv := (HM.out.2 x (List.mem_of_getElem? hx.out)).1
      have CF := Lib.hid (fun (W : World) (hW : Below wr.heap.size wr W) => Calls.mono (fits_any x V cv A1 c1 ls W S (H1.out.keep (SameOn.of_below (HB.out.trans (hW.mono hsz)) HS.out)) (hrv.keep (SameOn.of_below hW fun b h => Nat.lt_of_lt_of_le (HS.out b h) hsz)) (fun b h => Nat.lt_of_lt_of_le (HS.out b h) (Nat.le_trans hsz hW.size)) hn hxv) (fun e w' ⟨he, hb⟩ => (⟨he, hW.trans (Below.mono hb hW.size), hb⟩ : e = Ending.returned (.bool (cpB ls x)) ∧ Below wr.heap.size wr w' ∧ Below W.heap.size W w')))
      clear hc hrv
      rcases tf : cpB ls x with _ | _
      · have HF := Lib.hid (csB_false hx.out tf)
        have TF := Lib.hid tf
        clear tf
        go_wp2_with (go_at_call 57; refine (CF.out _ (by repeat (first | exact Below.refl _ _ | refine Below.alloc ?_ (by simp <;> omega) _))).mono ?_; rw [TF.out]; rintro e w3 ⟨rfl, hb, hb'⟩; have HB3 := Lib.hid (HB.out.trans (hb.mono hsz)); clear hb hb')
        go_ret
        exact ⟨ret_bool HF.out.symm, HB3.out⟩
      · have HN := Lib.hid (all_take_next (p := cpB ls) HT.out hx.out tf)
        have TF := Lib.hid tf
        clear tf
        go_wp2_with (go_at_call 57; refine (CF.out _ (by repeat (first | exact Below.refl _ _ | refine Below.alloc ?_ (by simp <;> omega) _))).mono ?_; rw [TF.out]; rintro e w3 ⟨rfl, hb, hb'⟩; have HB3 := Lib.hid (HB.out.trans (hb.mono hsz)); clear hb hb')
        go_roundw
        case rel => exact ⟨k + 1, by omega, by go_num, HB3, HN⟩
        case measure => simp [intOf]; omega
    · have HF := Lib.hid (show csB ls cs = true by
        have ht := HT.out
        rw [List.take_of_length_le (by omega)] at ht
        rw [HV.out, ht])
      go_wp2
      go_ret
      exact ⟨ret_bool HF.out.symm, HB.out⟩
set_option maxRecDepth 100000 in
set_option maxHeartbeats 8000000 in
theorem implSystemFault_any (s : Sy) (A1 A2 A3 A4 A5 : Option Addr) (c1 c2 c3 c4 c5 : Nat) (w : World) (S : Nat → Prop) (h1 : LRow dfR w S A1 s.ds) (h2 : LRow cpR w S A2 s.cs) (h3 : LRow mtR w S A3 s.ms) (h4 : LRow txtR w S A4 s.al) (h5 : LRow txtR w S A5 s.hd) (hS : ∀ b, S b → b < w.heap.size) (ok : okSy s) (ht : FormTab w) :
    Calls Tryz.prog 89 #[.agg #[.slice A1 s.ds.length c1, .slice A2 s.cs.length c2, .slice A3 s.ms.length c3, .slice A4 s.al.length c4, .slice A5 s.hd.length c5]] w fun e w' => e = .returned (.int .i64 (sfC s)) ∧ Below w.heap.size w w' := by
  have C0 := Lib.hid (fun (W : World) (hW : Below w.heap.size w W) => (Calls.mono (implDefs_any A1 c1 s.ds W S (h1.keep (SameOn.of_below hW hS)) (fun b hb => Nat.lt_of_lt_of_le (hS b hb) hW.size) ok.1 (ht.below hW)) (fun e w' ⟨he, hb⟩ => (⟨he, hW.trans (Below.mono hb hW.size), hb⟩ : e = Ending.returned (.bool (vdB s.ds)) ∧ Below w.heap.size w w' ∧ Below W.heap.size W w'))))
  have C1 := Lib.hid (fun (W : World) (hW : Below w.heap.size w W) (hn4 : s.ds.length ≤ 4) => (Calls.mono (implComps_any s.ds s.cs A1 A2 c1 c2 W S (h1.keep (SameOn.of_below hW hS)) (h2.keep (SameOn.of_below hW hS)) (fun b hb => Nat.lt_of_lt_of_le (hS b hb) hW.size) hn4 ok.2.1) (fun e w' ⟨he, hb⟩ => (⟨he, hW.trans (Below.mono hb hW.size), hb⟩ : e = Ending.returned (.bool (csB s.ds s.cs)) ∧ Below w.heap.size w w' ∧ Below W.heap.size W w'))))
  have C2 := Lib.hid (fun (W : World) (hW : Below w.heap.size w W) => (Calls.mono (implMeetings_any A3 _ c3 s.ms W S (h3.keep (SameOn.of_below hW hS)) rfl ok.2.2.1.1 (fun b hb => Nat.lt_of_lt_of_le (hS b hb) hW.size)) (fun e w' ⟨he, hb⟩ => (⟨he, hW.trans (Below.mono hb hW.size), hb⟩ : e = Ending.returned (.bool (msB s.ms)) ∧ Below w.heap.size w w' ∧ Below W.heap.size W w'))))
  have C3 := Lib.hid (fun (W : World) (hW : Below w.heap.size w W) => (Calls.mono (implNames_any A4 _ c4 s.al W S (h4.keep (SameOn.of_below hW hS)) rfl ok.2.2.2.1.1 (fun b hb => Nat.lt_of_lt_of_le (hS b hb) hW.size)) (fun e w' ⟨he, hb⟩ => (⟨he, hW.trans (Below.mono hb hW.size), hb⟩ : e = Ending.returned (.bool (nmsB s.al)) ∧ Below w.heap.size w w' ∧ Below W.heap.size W w'))))
  have C4 := Lib.hid (fun (W : World) (hW : Below w.heap.size w W) => (Calls.mono (implNames_any A5 _ c5 s.hd W S (h5.keep (SameOn.of_below hW hS)) rfl ok.2.2.2.2.1 (fun b hb => Nat.lt_of_lt_of_le (hS b hb) hW.size)) (fun e w' ⟨he, hb⟩ => (⟨he, hW.trans (Below.mono hb hW.size), hb⟩ : e = Ending.returned (.bool (nmsB s.hd)) ∧ Below w.heap.size w w' ∧ Below W.heap.size W w'))))
  clear h1 h2 h3 h4 h5 hS ok ht
  rcases t0 : vdB s.ds with _ | _
  · have HF := Lib.hid (show sfC s = 1 by unfold sfC; rw [if_pos t0])
    have T0 := Lib.hid t0
    clear t0
    go_enter Tryz.func89, Tryz.ntmps89
    go_wp2_with (first | (go_at_call 117; refine (C0.out _ (by repeat (first | exact Below.refl _ _ | refine Below.alloc ?_ (by simp <;> omega) _))).mono ?_; rw [T0.out]; rintro e v0 ⟨rfl, b, b'⟩; have z0 := (b'.cell (p := ⟨w.heap.size, 0, none⟩) (by simp)).trans (show _ = some (.slice A1 s.ds.length c1) by simp [go_sem]); have z1 := (b'.cell (p := ⟨w.heap.size, 1, none⟩) (by simp)).trans (show _ = some (.slice A2 s.cs.length c2) by simp [go_sem]); have z2 := (b'.cell (p := ⟨w.heap.size, 2, none⟩) (by simp)).trans (show _ = some (.slice A3 s.ms.length c3) by simp [go_sem]); have z3 := (b'.cell (p := ⟨w.heap.size, 3, none⟩) (by simp)).trans (show _ = some (.slice A4 s.al.length c4) by simp [go_sem]); have z4 := (b'.cell (p := ⟨w.heap.size, 4, none⟩) (by simp)).trans (show _ = some (.slice A5 s.hd.length c5) by simp [go_sem]); have hp : w.heap.size < v0.heap.size := World.block_lt_of_cell? v0 _ z0; have HB := Lib.hid b; clear b b'))
    go_ret
    exact ⟨by rw [HF.out]; rfl, HB.out⟩
  have HN4 := Lib.hid (show s.ds.length ≤ 4 by
    have h := t0
    unfold vdB at h
    rw [Bool.and_eq_true] at h
    exact (of_decide_eq_true h.1).2)
  rcases t1 : csB s.ds s.cs with _ | _
  · have HF := Lib.hid (show sfC s = 2 by unfold sfC; rw [if_neg (by rw [t0]; simp), if_pos t1])
    have T0 := Lib.hid t0
    have T1 := Lib.hid t1
    clear t0 t1
    go_enter Tryz.func89, Tryz.ntmps89
    go_wp2_with (first | (go_at_call 117; refine (C0.out _ (by repeat (first | exact Below.refl _ _ | refine Below.alloc ?_ (by simp <;> omega) _))).mono ?_; rw [T0.out]; rintro e v0 ⟨rfl, b, b'⟩; have z0 := (b'.cell (p := ⟨w.heap.size, 0, none⟩) (by simp)).trans (show _ = some (.slice A1 s.ds.length c1) by simp [go_sem]); have z1 := (b'.cell (p := ⟨w.heap.size, 1, none⟩) (by simp)).trans (show _ = some (.slice A2 s.cs.length c2) by simp [go_sem]); have z2 := (b'.cell (p := ⟨w.heap.size, 2, none⟩) (by simp)).trans (show _ = some (.slice A3 s.ms.length c3) by simp [go_sem]); have z3 := (b'.cell (p := ⟨w.heap.size, 3, none⟩) (by simp)).trans (show _ = some (.slice A4 s.al.length c4) by simp [go_sem]); have z4 := (b'.cell (p := ⟨w.heap.size, 4, none⟩) (by simp)).trans (show _ = some (.slice A5 s.hd.length c5) by simp [go_sem]); have hp : w.heap.size < v0.heap.size := World.block_lt_of_cell? v0 _ z0; have HB := Lib.hid b; clear b b') | (go_at_call 118; refine (C1.out _ HB.out HN4.out).mono ?_; rw [T1.out]; rintro e v1 ⟨rfl, b, b'⟩; have z0 := (b'.cell (p := ⟨w.heap.size, 0, none⟩) hp).trans z0; have z1 := (b'.cell (p := ⟨w.heap.size, 1, none⟩) hp).trans z1; have z2 := (b'.cell (p := ⟨w.heap.size, 2, none⟩) hp).trans z2; have z3 := (b'.cell (p := ⟨w.heap.size, 3, none⟩) hp).trans z3; have z4 := (b'.cell (p := ⟨w.heap.size, 4, none⟩) hp).trans z4; have hp : w.heap.size < v1.heap.size := World.block_lt_of_cell? v1 _ z0; have HB := Lib.hid b; clear b b'))
    go_ret
    exact ⟨by rw [HF.out]; rfl, HB.out⟩
  rcases t2 : msB s.ms with _ | _
  · have HF := Lib.hid (show sfC s = 3 by unfold sfC; rw [if_neg (by rw [t0]; simp), if_neg (by rw [t1]; simp), if_pos t2])
    have T0 := Lib.hid t0
    have T1 := Lib.hid t1
    have T2 := Lib.hid t2
    clear t0 t1 t2
    go_enter Tryz.func89, Tryz.ntmps89
    go_wp2_with (first | (go_at_call 117; refine (C0.out _ (by repeat (first | exact Below.refl _ _ | refine Below.alloc ?_ (by simp <;> omega) _))).mono ?_; rw [T0.out]; rintro e v0 ⟨rfl, b, b'⟩; have z0 := (b'.cell (p := ⟨w.heap.size, 0, none⟩) (by simp)).trans (show _ = some (.slice A1 s.ds.length c1) by simp [go_sem]); have z1 := (b'.cell (p := ⟨w.heap.size, 1, none⟩) (by simp)).trans (show _ = some (.slice A2 s.cs.length c2) by simp [go_sem]); have z2 := (b'.cell (p := ⟨w.heap.size, 2, none⟩) (by simp)).trans (show _ = some (.slice A3 s.ms.length c3) by simp [go_sem]); have z3 := (b'.cell (p := ⟨w.heap.size, 3, none⟩) (by simp)).trans (show _ = some (.slice A4 s.al.length c4) by simp [go_sem]); have z4 := (b'.cell (p := ⟨w.heap.size, 4, none⟩) (by simp)).trans (show _ = some (.slice A5 s.hd.length c5) by simp [go_sem]); have hp : w.heap.size < v0.heap.size := World.block_lt_of_cell? v0 _ z0; have HB := Lib.hid b; clear b b') | (go_at_call 118; refine (C1.out _ HB.out HN4.out).mono ?_; rw [T1.out]; rintro e v1 ⟨rfl, b, b'⟩; have z0 := (b'.cell (p := ⟨w.heap.size, 0, none⟩) hp).trans z0; have z1 := (b'.cell (p := ⟨w.heap.size, 1, none⟩) hp).trans z1; have z2 := (b'.cell (p := ⟨w.heap.size, 2, none⟩) hp).trans z2; have z3 := (b'.cell (p := ⟨w.heap.size, 3, none⟩) hp).trans z3; have z4 := (b'.cell (p := ⟨w.heap.size, 4, none⟩) hp).trans z4; have hp : w.heap.size < v1.heap.size := World.block_lt_of_cell? v1 _ z0; have HB := Lib.hid b; clear b b') | (go_at_call 119; refine (C2.out _ HB.out).mono ?_; rw [T2.out]; rintro e v2 ⟨rfl, b, b'⟩; have z0 := (b'.cell (p := ⟨w.heap.size, 0, none⟩) hp).trans z0; have z1 := (b'.cell (p := ⟨w.heap.size, 1, none⟩) hp).trans z1; have z2 := (b'.cell (p := ⟨w.heap.size, 2, none⟩) hp).trans z2; have z3 := (b'.cell (p := ⟨w.heap.size, 3, none⟩) hp).trans z3; have z4 := (b'.cell (p := ⟨w.heap.size, 4, none⟩) hp).trans z4; have hp : w.heap.size < v2.heap.size := World.block_lt_of_cell? v2 _ z0; have HB := Lib.hid b; clear b b'))
    go_ret
    exact ⟨by rw [HF.out]; rfl, HB.out⟩
  rcases t3 : nmsB s.al with _ | _
  · have HF := Lib.hid (show sfC s = 4 by unfold sfC; rw [if_neg (by rw [t0]; simp), if_neg (by rw [t1]; simp), if_neg (by rw [t2]; simp), if_pos t3])
    have T0 := Lib.hid t0
    have T1 := Lib.hid t1
    have T2 := Lib.hid t2
    have T3 := Lib.hid t3
    clear t0 t1 t2 t3
    go_enter Tryz.func89, Tryz.ntmps89
    go_wp2_with (first | (go_at_call 117; refine (C0.out _ (by repeat (first | exact Below.refl _ _ | refine Below.alloc ?_ (by simp <;> omega) _))).mono ?_; rw [T0.out]; rintro e v0 ⟨rfl, b, b'⟩; have z0 := (b'.cell (p := ⟨w.heap.size, 0, none⟩) (by simp)).trans (show _ = some (.slice A1 s.ds.length c1) by simp [go_sem]); have z1 := (b'.cell (p := ⟨w.heap.size, 1, none⟩) (by simp)).trans (show _ = some (.slice A2 s.cs.length c2) by simp [go_sem]); have z2 := (b'.cell (p := ⟨w.heap.size, 2, none⟩) (by simp)).trans (show _ = some (.slice A3 s.ms.length c3) by simp [go_sem]); have z3 := (b'.cell (p := ⟨w.heap.size, 3, none⟩) (by simp)).trans (show _ = some (.slice A4 s.al.length c4) by simp [go_sem]); have z4 := (b'.cell (p := ⟨w.heap.size, 4, none⟩) (by simp)).trans (show _ = some (.slice A5 s.hd.length c5) by simp [go_sem]); have hp : w.heap.size < v0.heap.size := World.block_lt_of_cell? v0 _ z0; have HB := Lib.hid b; clear b b') | (go_at_call 118; refine (C1.out _ HB.out HN4.out).mono ?_; rw [T1.out]; rintro e v1 ⟨rfl, b, b'⟩; have z0 := (b'.cell (p := ⟨w.heap.size, 0, none⟩) hp).trans z0; have z1 := (b'.cell (p := ⟨w.heap.size, 1, none⟩) hp).trans z1; have z2 := (b'.cell (p := ⟨w.heap.size, 2, none⟩) hp).trans z2; have z3 := (b'.cell (p := ⟨w.heap.size, 3, none⟩) hp).trans z3; have z4 := (b'.cell (p := ⟨w.heap.size, 4, none⟩) hp).trans z4; have hp : w.heap.size < v1.heap.size := World.block_lt_of_cell? v1 _ z0; have HB := Lib.hid b; clear b b') | (go_at_call 119; refine (C2.out _ HB.out).mono ?_; rw [T2.out]; rintro e v2 ⟨rfl, b, b'⟩; have z0 := (b'.cell (p := ⟨w.heap.size, 0, none⟩) hp).trans z0; have z1 := (b'.cell (p := ⟨w.heap.size, 1, none⟩) hp).trans z1; have z2 := (b'.cell (p := ⟨w.heap.size, 2, none⟩) hp).trans z2; have z3 := (b'.cell (p := ⟨w.heap.size, 3, none⟩) hp).trans z3; have z4 := (b'.cell (p := ⟨w.heap.size, 4, none⟩) hp).trans z4; have hp : w.heap.size < v2.heap.size := World.block_lt_of_cell? v2 _ z0; have HB := Lib.hid b; clear b b') | (go_at_call 120; with_reducible refine (C3.out _ HB.out).mono ?_; rw [T3.out]; rintro e v3 ⟨rfl, b, b'⟩; have z0 := (b'.cell (p := ⟨w.heap.size, 0, none⟩) hp).trans z0; have z1 := (b'.cell (p := ⟨w.heap.size, 1, none⟩) hp).trans z1; have z2 := (b'.cell (p := ⟨w.heap.size, 2, none⟩) hp).trans z2; have z3 := (b'.cell (p := ⟨w.heap.size, 3, none⟩) hp).trans z3; have z4 := (b'.cell (p := ⟨w.heap.size, 4, none⟩) hp).trans z4; have hp : w.heap.size < v3.heap.size := World.block_lt_of_cell? v3 _ z0; have HB := Lib.hid b; clear b b'))
    go_ret
    exact ⟨by rw [HF.out]; rfl, HB.out⟩
  rcases t4 : nmsB s.hd with _ | _
  · have HF := Lib.hid (show sfC s = 5 by unfold sfC; rw [if_neg (by rw [t0]; simp), if_neg (by rw [t1]; simp), if_neg (by rw [t2]; simp), if_neg (by rw [t3]; simp), if_pos t4])
    have T0 := Lib.hid t0
    have T1 := Lib.hid t1
    have T2 := Lib.hid t2
    have T3 := Lib.hid t3
    have T4 := Lib.hid t4
    clear t0 t1 t2 t3 t4
    go_enter Tryz.func89, Tryz.ntmps89
    go_wp2_with (first | (go_at_call 117; refine (C0.out _ (by repeat (first | exact Below.refl _ _ | refine Below.alloc ?_ (by simp <;> omega) _))).mono ?_; rw [T0.out]; rintro e v0 ⟨rfl, b, b'⟩; have z0 := (b'.cell (p := ⟨w.heap.size, 0, none⟩) (by simp)).trans (show _ = some (.slice A1 s.ds.length c1) by simp [go_sem]); have z1 := (b'.cell (p := ⟨w.heap.size, 1, none⟩) (by simp)).trans (show _ = some (.slice A2 s.cs.length c2) by simp [go_sem]); have z2 := (b'.cell (p := ⟨w.heap.size, 2, none⟩) (by simp)).trans (show _ = some (.slice A3 s.ms.length c3) by simp [go_sem]); have z3 := (b'.cell (p := ⟨w.heap.size, 3, none⟩) (by simp)).trans (show _ = some (.slice A4 s.al.length c4) by simp [go_sem]); have z4 := (b'.cell (p := ⟨w.heap.size, 4, none⟩) (by simp)).trans (show _ = some (.slice A5 s.hd.length c5) by simp [go_sem]); have hp : w.heap.size < v0.heap.size := World.block_lt_of_cell? v0 _ z0; have HB := Lib.hid b; clear b b') | (go_at_call 118; refine (C1.out _ HB.out HN4.out).mono ?_; rw [T1.out]; rintro e v1 ⟨rfl, b, b'⟩; have z0 := (b'.cell (p := ⟨w.heap.size, 0, none⟩) hp).trans z0; have z1 := (b'.cell (p := ⟨w.heap.size, 1, none⟩) hp).trans z1; have z2 := (b'.cell (p := ⟨w.heap.size, 2, none⟩) hp).trans z2; have z3 := (b'.cell (p := ⟨w.heap.size, 3, none⟩) hp).trans z3; have z4 := (b'.cell (p := ⟨w.heap.size, 4, none⟩) hp).trans z4; have hp : w.heap.size < v1.heap.size := World.block_lt_of_cell? v1 _ z0; have HB := Lib.hid b; clear b b') | (go_at_call 119; refine (C2.out _ HB.out).mono ?_; rw [T2.out]; rintro e v2 ⟨rfl, b, b'⟩; have z0 := (b'.cell (p := ⟨w.heap.size, 0, none⟩) hp).trans z0; have z1 := (b'.cell (p := ⟨w.heap.size, 1, none⟩) hp).trans z1; have z2 := (b'.cell (p := ⟨w.heap.size, 2, none⟩) hp).trans z2; have z3 := (b'.cell (p := ⟨w.heap.size, 3, none⟩) hp).trans z3; have z4 := (b'.cell (p := ⟨w.heap.size, 4, none⟩) hp).trans z4; have hp : w.heap.size < v2.heap.size := World.block_lt_of_cell? v2 _ z0; have HB := Lib.hid b; clear b b') | (go_at_call 120; with_reducible refine (C3.out _ HB.out).mono ?_; rw [T3.out]; rintro e v3 ⟨rfl, b, b'⟩; have z0 := (b'.cell (p := ⟨w.heap.size, 0, none⟩) hp).trans z0; have z1 := (b'.cell (p := ⟨w.heap.size, 1, none⟩) hp).trans z1; have z2 := (b'.cell (p := ⟨w.heap.size, 2, none⟩) hp).trans z2; have z3 := (b'.cell (p := ⟨w.heap.size, 3, none⟩) hp).trans z3; have z4 := (b'.cell (p := ⟨w.heap.size, 4, none⟩) hp).trans z4; have hp : w.heap.size < v3.heap.size := World.block_lt_of_cell? v3 _ z0; have HB := Lib.hid b; clear b b') | (go_at_call 120; with_reducible refine (C4.out _ HB.out).mono ?_; rw [T4.out]; rintro e v4 ⟨rfl, b, b'⟩; have z0 := (b'.cell (p := ⟨w.heap.size, 0, none⟩) hp).trans z0; have z1 := (b'.cell (p := ⟨w.heap.size, 1, none⟩) hp).trans z1; have z2 := (b'.cell (p := ⟨w.heap.size, 2, none⟩) hp).trans z2; have z3 := (b'.cell (p := ⟨w.heap.size, 3, none⟩) hp).trans z3; have z4 := (b'.cell (p := ⟨w.heap.size, 4, none⟩) hp).trans z4; have hp : w.heap.size < v4.heap.size := World.block_lt_of_cell? v4 _ z0; have HB := Lib.hid b; clear b b'))
    go_ret
    exact ⟨by rw [HF.out]; rfl, HB.out⟩
  have HF := Lib.hid (show sfC s = 0 by unfold sfC; rw [if_neg (by rw [t0]; simp), if_neg (by rw [t1]; simp), if_neg (by rw [t2]; simp), if_neg (by rw [t3]; simp), if_neg (by rw [t4]; simp)])
  have T0 := Lib.hid t0
  have T1 := Lib.hid t1
  have T2 := Lib.hid t2
  have T3 := Lib.hid t3
  have T4 := Lib.hid t4
  clear t0 t1 t2 t3 t4
  go_enter Tryz.func89, Tryz.ntmps89
  go_wp2_with (first | (go_at_call 117; refine (C0.out _ (by repeat (first | exact Below.refl _ _ | refine Below.alloc ?_ (by simp <;> omega) _))).mono ?_; rw [T0.out]; rintro e v0 ⟨rfl, b, b'⟩; have z0 := (b'.cell (p := ⟨w.heap.size, 0, none⟩) (by simp)).trans (show _ = some (.slice A1 s.ds.length c1) by simp [go_sem]); have z1 := (b'.cell (p := ⟨w.heap.size, 1, none⟩) (by simp)).trans (show _ = some (.slice A2 s.cs.length c2) by simp [go_sem]); have z2 := (b'.cell (p := ⟨w.heap.size, 2, none⟩) (by simp)).trans (show _ = some (.slice A3 s.ms.length c3) by simp [go_sem]); have z3 := (b'.cell (p := ⟨w.heap.size, 3, none⟩) (by simp)).trans (show _ = some (.slice A4 s.al.length c4) by simp [go_sem]); have z4 := (b'.cell (p := ⟨w.heap.size, 4, none⟩) (by simp)).trans (show _ = some (.slice A5 s.hd.length c5) by simp [go_sem]); have hp : w.heap.size < v0.heap.size := World.block_lt_of_cell? v0 _ z0; have HB := Lib.hid b; clear b b') | (go_at_call 118; refine (C1.out _ HB.out HN4.out).mono ?_; rw [T1.out]; rintro e v1 ⟨rfl, b, b'⟩; have z0 := (b'.cell (p := ⟨w.heap.size, 0, none⟩) hp).trans z0; have z1 := (b'.cell (p := ⟨w.heap.size, 1, none⟩) hp).trans z1; have z2 := (b'.cell (p := ⟨w.heap.size, 2, none⟩) hp).trans z2; have z3 := (b'.cell (p := ⟨w.heap.size, 3, none⟩) hp).trans z3; have z4 := (b'.cell (p := ⟨w.heap.size, 4, none⟩) hp).trans z4; have hp : w.heap.size < v1.heap.size := World.block_lt_of_cell? v1 _ z0; have HB := Lib.hid b; clear b b') | (go_at_call 119; refine (C2.out _ HB.out).mono ?_; rw [T2.out]; rintro e v2 ⟨rfl, b, b'⟩; have z0 := (b'.cell (p := ⟨w.heap.size, 0, none⟩) hp).trans z0; have z1 := (b'.cell (p := ⟨w.heap.size, 1, none⟩) hp).trans z1; have z2 := (b'.cell (p := ⟨w.heap.size, 2, none⟩) hp).trans z2; have z3 := (b'.cell (p := ⟨w.heap.size, 3, none⟩) hp).trans z3; have z4 := (b'.cell (p := ⟨w.heap.size, 4, none⟩) hp).trans z4; have hp : w.heap.size < v2.heap.size := World.block_lt_of_cell? v2 _ z0; have HB := Lib.hid b; clear b b') | (go_at_call 120; with_reducible refine (C3.out _ HB.out).mono ?_; rw [T3.out]; rintro e v3 ⟨rfl, b, b'⟩; have z0 := (b'.cell (p := ⟨w.heap.size, 0, none⟩) hp).trans z0; have z1 := (b'.cell (p := ⟨w.heap.size, 1, none⟩) hp).trans z1; have z2 := (b'.cell (p := ⟨w.heap.size, 2, none⟩) hp).trans z2; have z3 := (b'.cell (p := ⟨w.heap.size, 3, none⟩) hp).trans z3; have z4 := (b'.cell (p := ⟨w.heap.size, 4, none⟩) hp).trans z4; have hp : w.heap.size < v3.heap.size := World.block_lt_of_cell? v3 _ z0; have HB := Lib.hid b; clear b b') | (go_at_call 120; with_reducible refine (C4.out _ HB.out).mono ?_; rw [T4.out]; rintro e v4 ⟨rfl, b, b'⟩; have z0 := (b'.cell (p := ⟨w.heap.size, 0, none⟩) hp).trans z0; have z1 := (b'.cell (p := ⟨w.heap.size, 1, none⟩) hp).trans z1; have z2 := (b'.cell (p := ⟨w.heap.size, 2, none⟩) hp).trans z2; have z3 := (b'.cell (p := ⟨w.heap.size, 3, none⟩) hp).trans z3; have z4 := (b'.cell (p := ⟨w.heap.size, 4, none⟩) hp).trans z4; have hp : w.heap.size < v4.heap.size := World.block_lt_of_cell? v4 _ z0; have HB := Lib.hid b; clear b b'))
  go_ret
  exact ⟨by rw [HF.out]; rfl, HB.out⟩
set_option maxRecDepth 100000 in
theorem implValidSys_any (s : Sy) (A1 A2 A3 A4 A5 : Option Addr) (c1 c2 c3 c4 c5 : Nat) (w : World) (S : Nat → Prop) (h1 : LRow dfR w S A1 s.ds) (h2 : LRow cpR w S A2 s.cs) (h3 : LRow mtR w S A3 s.ms) (h4 : LRow txtR w S A4 s.al) (h5 : LRow txtR w S A5 s.hd) (hS : ∀ b, S b → b < w.heap.size) (ok : okSy s) (ht : FormTab w) :
    Calls Tryz.prog 45 #[.agg #[.slice A1 s.ds.length c1, .slice A2 s.cs.length c2, .slice A3 s.ms.length c3, .slice A4 s.al.length c4, .slice A5 s.hd.length c5]] w fun e w' => e = .returned (.bool (vsB s)) ∧ Below w.heap.size w w' := by
  have C := Lib.hid (fun (W : World) (hW : Below w.heap.size w W) => (Calls.mono (implSystemFault_any s A1 A2 A3 A4 A5 c1 c2 c3 c4 c5 W S (h1.keep (SameOn.of_below hW hS)) (h2.keep (SameOn.of_below hW hS)) (h3.keep (SameOn.of_below hW hS)) (h4.keep (SameOn.of_below hW hS)) (h5.keep (SameOn.of_below hW hS)) (fun b hb => Nat.lt_of_lt_of_le (hS b hb) hW.size) ok (ht.below hW)) (fun e w' ⟨he, hb⟩ => (⟨he, hW.trans (Below.mono hb hW.size)⟩ : e = Ending.returned (.int .i64 (sfC s)) ∧ Below w.heap.size w w'))))
  obtain ⟨q, hq⟩ : ∃ q, q = sfC s := ⟨_, rfl⟩
  have HV := Lib.hid (show vsB s = (q == 0) by rw [hq]; rfl)
  rw [← hq] at C
  clear h1 h2 h3 h4 h5 hS ok ht hq
  go_enter Tryz.func45, Tryz.ntmps45
  go_wp2_with (go_at_call 89; refine (C.out _ (by repeat (first | exact Below.refl _ _ | refine Below.setCell ?_ (by simp) _ | refine Below.alloc ?_ (by simp <;> omega) _))).mono ?_; rintro e w2 ⟨rfl, hb⟩; have HB := Lib.hid hb; clear hb)
  go_ret
  exact ⟨by rw [HV.out]; rfl, HB.out⟩
end Go.Proofs.YtdgcpaeneafejaaGreatDoor
