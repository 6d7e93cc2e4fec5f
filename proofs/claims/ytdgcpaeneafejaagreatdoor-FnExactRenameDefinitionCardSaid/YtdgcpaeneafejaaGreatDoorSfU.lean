/- Components, and what is wrong with a system: the model. -/
import Derived.Test.YtdgcpaeneafejaaGreatDoorSfT
import Derived.Test.YtdgcpaeneafejaaGreatDoorPxWX
import Derived.Test.YtdgcpaeneafejaaGreatDoorPxAD
import Derived.Test.YtdgcpaeneafejaaGreatDoorSysIs
namespace Go.Proofs.YtdgcpaeneafejaaGreatDoor
open Go.RowKit
theorem csB_false {ls : List Df} {cs : List Cp} {k : Nat} {x : Cp} (hx : cs[k]? = some x) (h : cpB ls x = false) : csB ls cs = false := by
  unfold csB; rw [all_false hx h]; simp
set_option maxRecDepth 100000 in
set_option maxHeartbeats 4000000 in
theorem specComps_any (p : Nat) (ls : List Df) (cs : List Cp) (A1 A2 : Option Addr) (c1 c2 : Nat) (w : World) (S : Nat → Prop) (z0 : w.cell? ⟨p, 0, none⟩ = some (.slice A1 ls.length c1)) (z1 : w.cell? ⟨p, 1, none⟩ = some (.slice A2 cs.length c2)) (h1 : LRow dfR w S A1 ls) (h2 : LRow cpR w S A2 cs) (hS : ∀ b, S b → b < w.heap.size) (hn : ls.length ≤ 4) (hm : okList okCp cs) :
    Calls Tryz.prog 113 #[.pointer (some ⟨p, 0, none⟩)] w fun e w' => e = .returned (.bool (csB ls cs)) ∧ Below w.heap.size w w' := by
  have hp : p < w.heap.size := World.block_lt_of_cell? w _ z0
  by_cases hc0 : cs.length = 0
  · have HF := Lib.hid (show csB ls cs = false by unfold csB; rw [decide_eq_false (by omega)]; rfl)
    have e0 : ((cs.length : Int) == 0) = true := ib_eq (by omega)
    clear h1 h2 hS hm hc0
    go_enter Tryz.func113, Tryz.ntmps113
    go_wp2
    go_ret
    exact ⟨ret_bool HF.out.symm, by first | exact Below.refl _ _ | exact (Below.refl _ _).drew⟩
  have e0 : ((cs.length : Int) == 0) = false := ib_ne (by omega)
  by_cases hc3 : 3 < cs.length
  · have HF := Lib.hid (show csB ls cs = false by unfold csB; rw [decide_eq_false (show ¬ cs.length ≤ 3 by omega)]; simp)
    have e3 : (3 : Int) < (cs.length : Int) := by omega
    have hmm := hm.1
    clear h1 h2 hS hm hc0
    go_enter Tryz.func113, Tryz.ntmps113
    go_wp2
    go_ret
    exact ⟨ret_bool HF.out.symm, by first | exact Below.refl _ _ | exact (Below.refl _ _).drew⟩
  have e3 : ¬ (3 : Int) < (cs.length : Int) := by omega
  have HV := Lib.hid (show csB ls cs = cs.all (cpB ls) by unfold csB; rw [decide_eq_true (by omega), decide_eq_true (by omega)]; rfl)
  have H1 := Lib.hid h1
  have H2 := Lib.hid h2
  have HS := Lib.hid hS
  have HM := Lib.hid hm
  have Z0 := Lib.hid z0
  have Z1 := Lib.hid z1
  clear h1 h2 hS hm hc0
  go_enter Tryz.func113, Tryz.ntmps113
  go_wp2
  clear z0 z1
  go_loopw [3] (fun i wr => ∃ k : Nat, k ≤ cs.length ∧ i = .int .i64 k ∧ Hid (Below w.heap.size w wr) ∧ wr.cell? ⟨p, 0, none⟩ = some (.slice A1 ls.length c1) ∧ wr.cell? ⟨p, 1, none⟩ = some (.slice A2 cs.length c2) ∧ Hid ((cs.take k).all (cpB ls) = true)) (fun i _ => cs.length - (intOf i).toNat)
  case atStart => exact ⟨0, Nat.zero_le _, rfl, Lib.hid (Below.refl _ _), Z0.out, Z1.out, Lib.hid rfl⟩
  case round =>
    obtain ⟨k, hk, rfl, HB, y0, y1, HT⟩ := hrel
    have hsz := HB.out.size
    have hpr : p < wr.heap.size := by omega
    by_cases hlt : k < cs.length
    · obtain ⟨b, o, cs0, x, rfl, hb, hR, hx, hc⟩ := (H2.out.keep (SameOn.of_below HB.out HS.out)).at_ (k := k) hlt
      obtain ⟨V, cv, rfl, hlv, hcv, hrv⟩ := hR
      have r0 : wr.cell? ⟨b, o + k * 2, none⟩ = some (.int .i64 x.d) := hc 0 _ rfl
      have r1 : wr.cell? ⟨b, o + k * 2 + 1, none⟩ = some (.slice V x.vs.length cv) := hc 1 _ rfl
      have lb : b < wr.heap.size := World.block_lt_of_cell? wr _ r0
      have HB1 := Lib.hid (show Below w.heap.size w (wr.alloc (.cells #[.int .i64 x.d, .slice V x.vs.length cv] 45)) from HB.out.alloc hsz _)
      have hxv := (HM.out.2 x (List.mem_of_getElem? hx.out)).1
      clear hc
      rcases ti : idxB x.d ls.length with _ | _
      · have HF := Lib.hid (csB_false hx.out (show cpB ls x = false by unfold cpB; rw [ti]; rfl))
        have hno := idxB_no ti
        have C0 := Lib.hid (fun W : World => l00In_no x.d 0 ((ls.length : Int) - 1) hno W)
        clear ti hno
        go_wp2
        go_quiet ((go_at_call 52; exact quiet_same (C0.out _)))
        go_wp2
        go_ret
        exact ⟨ret_bool HF.out.symm, (by first | (with_reducible exact HB1.out) | exact HB1.out.trans (below_drewN _ _ _) | exact (HB1.out.trans (below_drewN _ _ _)).trans (below_drewN _ _ _))⟩
      obtain ⟨j, hxd, hj⟩ := idxB_yes ti
      obtain ⟨b2, o2, cs2, d, rfl, hb2, hR2, hd, hc2⟩ := (H1.out.keep (SameOn.of_below HB.out HS.out)).at_ (k := j) hj
      obtain ⟨B, cb, rfl, _, _, _, _⟩ := hR2
      have t1 : wr.cell? ⟨b2, o2 + j * 3 + 1, none⟩ = some (.int .i64 d.ps) := hc2 1 _ rfl
      have lb2 : b2 < wr.heap.size := World.block_lt_of_cell? wr _ t1
      have HGD := Lib.hid (show (ls.getD x.d.toNat default) = d by rw [hxd, List.getD_eq_getElem?_getD, Int.toNat_natCast, hd.out]; rfl)
      have C0 := Lib.hid (fun W : World => l00In_yes (j : Int) 0 ((ls.length : Int) - 1) ⟨by omega, by omega⟩ W)
      have CD := Lib.hid (fun (W : World) (hW : Below wr.heap.size wr W) => l03Data_any V x.vs.length cv x.vs W W.heap.size ((hrv.keep (SameOn.of_below hW fun b h => Nat.lt_of_lt_of_le (HS.out b h) hsz)).irow fun b h => Nat.lt_of_lt_of_le (HS.out b h) (Nat.le_trans hsz hW.size)) rfl (by omega))
      rw [hxd] at r0
      have TI := Lib.hid ti
      have HXD := Lib.hid hxd
      clear hc2 ti hxd hrv
      have hcell : (.cells #[.int .i64 x.d, .slice V x.vs.length cv] 45 : Obj) = .cells #[.int .i64 (j : Int), .slice V x.vs.length cv] 45 := by rw [HXD.out]
      rw [hcell] at HB1
      clear hcell
      rcases tp : ((x.vs.length : Int) == d.ps) with _ | _
      · have HF := Lib.hid (csB_false hx.out (show cpB ls x = false by unfold cpB; rw [HGD.out, tp]; simp))
        have hne : ((x.vs.length : Int) != d.ps) = true := by show (!((x.vs.length : Int) == d.ps)) = true; rw [tp]; rfl
        clear tp
        go_wp2
        go_quiet ((go_at_call 52; exact quiet_same (C0.out _)))
        go_wp2
        go_quiet (fail)
        go_wp2
        go_ret
        exact ⟨ret_bool HF.out.symm, (by first | (with_reducible exact HB1.out) | exact HB1.out.trans (below_drewN _ _ _) | exact (HB1.out.trans (below_drewN _ _ _)).trans (below_drewN _ _ _))⟩
      have hne : ((x.vs.length : Int) != d.ps) = false := by show (!((x.vs.length : Int) == d.ps)) = false; rw [tp]; rfl
      rcases td : dataB x.vs with _ | _
      · have HF := Lib.hid (csB_false hx.out (show cpB ls x = false by unfold cpB; rw [HGD.out, tp, td]; simp))
        have TD := Lib.hid td
        rw [TD.out] at CD
        clear tp td
        go_wp2
        go_quiet ((go_at_call 52; exact quiet_same (C0.out _)))
        go_wp2
        go_quiet ((go_at_call 92; exact quiet_same2 (CD.out _ (by repeat (first | exact Below.refl _ _ | refine Below.alloc ?_ (by simp) _ | exact Below.trans (b := wr.alloc _) ((Below.refl _ _).alloc (Nat.le_refl _) _) (below_drewN _ _ _))))))
        go_wp2
        go_ret
        exact ⟨ret_bool HF.out.symm, (by first | (with_reducible exact HB1.out) | exact HB1.out.trans (below_drewN _ _ _) | exact (HB1.out.trans (below_drewN _ _ _)).trans (below_drewN _ _ _))⟩
      have HN := Lib.hid (all_take_next (p := cpB ls) HT.out hx.out (by unfold cpB; rw [TI.out, HGD.out, tp, td]; rfl))
      have TD := Lib.hid td
      rw [TD.out] at CD
      clear tp td
      go_wp2
      go_quiet ((go_at_call 52; exact quiet_same (C0.out _)))
      go_wp2
      go_quiet ((go_at_call 92; exact quiet_same2 (CD.out _ (by repeat (first | exact Below.refl _ _ | refine Below.alloc ?_ (by simp) _ | exact Below.trans (b := wr.alloc _) ((Below.refl _ _).alloc (Nat.le_refl _) _) (below_drewN _ _ _))))))
      go_wp2
      go_roundw
      case rel => exact ⟨k + 1, by omega, by go_num, Lib.hid (by first | (with_reducible exact HB1.out) | exact HB1.out.trans (below_drewN _ _ _) | exact (HB1.out.trans (below_drewN _ _ _)).trans (below_drewN _ _ _)), by simpa [go_sem, hpr] using y0, by simpa [go_sem, hpr] using y1, HN⟩
      case measure => simp [intOf]; omega
    · have HF := Lib.hid (show csB ls cs = true by
        have ht := HT.out
        rw [List.take_of_length_le (by omega)] at ht
        rw [HV.out, ht])
      go_wp2
      go_ret
      exact ⟨ret_bool HF.out.symm, HB.out⟩
set_option maxRecDepth 100000 in
set_option maxHeartbeats 8000000 in
theorem specFault_any (p : Nat) (s : Sy) (A1 A2 A3 A4 A5 : Option Addr) (c1 c2 c3 c4 c5 : Nat) (w : World) (S : Nat → Prop) (h1 : LRow dfR w S A1 s.ds) (h2 : LRow cpR w S A2 s.cs) (h3 : LRow mtR w S A3 s.ms) (h4 : LRow txtR w S A4 s.al) (h5 : LRow txtR w S A5 s.hd) (hS : ∀ b, S b → b < w.heap.size) (ok : okSy s) (z0 : w.cell? ⟨p, 0, none⟩ = some (.slice A1 s.ds.length c1)) (z1 : w.cell? ⟨p, 1, none⟩ = some (.slice A2 s.cs.length c2)) (z2 : w.cell? ⟨p, 2, none⟩ = some (.slice A3 s.ms.length c3)) (z3 : w.cell? ⟨p, 3, none⟩ = some (.slice A4 s.al.length c4)) (z4 : w.cell? ⟨p, 4, none⟩ = some (.slice A5 s.hd.length c5)) :
    Calls Tryz.prog 86 #[.pointer (some ⟨p, 0, none⟩)] w fun e w' => e = .returned (.int .i64 (sfC s)) ∧ Below w.heap.size w w' := by
  have hp : p < w.heap.size := World.block_lt_of_cell? w _ z0
  have C0 := Lib.hid (fun (W : World) (hW : Below w.heap.size w W) => (Calls.mono (specDefs_any A1 _ c1 s.ds W S (h1.keep (SameOn.of_below hW hS)) rfl (fun b hb => Nat.lt_of_lt_of_le (hS b hb) hW.size) ok.1) (fun e w' ⟨he, hb⟩ => (⟨he, hW.trans (Below.mono hb hW.size), hb⟩ : e = Ending.returned (.bool (vdB s.ds)) ∧ Below w.heap.size w w' ∧ Below W.heap.size W w'))))
  have C1 := Lib.hid (fun (W : World) (hW : Below w.heap.size w W) (y0 : W.cell? ⟨p, 0, none⟩ = some (.slice A1 s.ds.length c1)) (y1 : W.cell? ⟨p, 1, none⟩ = some (.slice A2 s.cs.length c2)) (hn4 : s.ds.length ≤ 4) => (Calls.mono (specComps_any p s.ds s.cs A1 A2 c1 c2 W S y0 y1 (h1.keep (SameOn.of_below hW hS)) (h2.keep (SameOn.of_below hW hS)) (fun b hb => Nat.lt_of_lt_of_le (hS b hb) hW.size) hn4 ok.2.1) (fun e w' ⟨he, hb⟩ => (⟨he, hW.trans (Below.mono hb hW.size), hb⟩ : e = Ending.returned (.bool (csB s.ds s.cs)) ∧ Below w.heap.size w w' ∧ Below W.heap.size W w'))))
  have C2 := Lib.hid (fun (W : World) (hW : Below w.heap.size w W) => (Calls.mono (specMeetings_any A3 _ c3 s.ms W S (h3.keep (SameOn.of_below hW hS)) rfl ok.2.2.1.1 (fun b hb => Nat.lt_of_lt_of_le (hS b hb) hW.size)) (fun e w' ⟨he, hb⟩ => (⟨he, hW.trans (Below.mono hb hW.size), hb⟩ : e = Ending.returned (.bool (msB s.ms)) ∧ Below w.heap.size w w' ∧ Below W.heap.size W w'))))
  have C3 := Lib.hid (fun (W : World) (hW : Below w.heap.size w W) => (Calls.mono ((specNames_any A4 _ c4 s.al W S (h4.keep (SameOn.of_below hW hS)) rfl ok.2.2.2.1.1).mono (fun e w' ⟨he, hd⟩ => (⟨he, hd.below _⟩ : e = Ending.returned (.bool (nmsB s.al)) ∧ Below W.heap.size W w'))) (fun e w' ⟨he, hb⟩ => (⟨he, hW.trans (Below.mono hb hW.size), hb⟩ : e = Ending.returned (.bool (nmsB s.al)) ∧ Below w.heap.size w w' ∧ Below W.heap.size W w'))))
  have C4 := Lib.hid (fun (W : World) (hW : Below w.heap.size w W) => (Calls.mono ((specNames_any A5 _ c5 s.hd W S (h5.keep (SameOn.of_below hW hS)) rfl ok.2.2.2.2.1).mono (fun e w' ⟨he, hd⟩ => (⟨he, hd.below _⟩ : e = Ending.returned (.bool (nmsB s.hd)) ∧ Below W.heap.size W w'))) (fun e w' ⟨he, hb⟩ => (⟨he, hW.trans (Below.mono hb hW.size), hb⟩ : e = Ending.returned (.bool (nmsB s.hd)) ∧ Below w.heap.size w w' ∧ Below W.heap.size W w'))))
  have HB := Lib.hid (Below.refl w.heap.size w)
  clear h1 h2 h3 h4 h5 hS ok
  rcases t0 : vdB s.ds with _ | _
  · have HF := Lib.hid (show sfC s = 1 by unfold sfC; rw [if_pos t0])
    have T0 := Lib.hid t0
    clear t0
    go_enter Tryz.func86, Tryz.ntmps86
    go_wp2_with (first | (go_at_call 112; refine (C0.out _ HB.out).mono ?_; rw [T0.out]; rintro e v0 ⟨rfl, b, b'⟩; have z0 := (b'.cell (p := ⟨p, 0, none⟩) hp).trans z0; have z1 := (b'.cell (p := ⟨p, 1, none⟩) hp).trans z1; have z2 := (b'.cell (p := ⟨p, 2, none⟩) hp).trans z2; have z3 := (b'.cell (p := ⟨p, 3, none⟩) hp).trans z3; have z4 := (b'.cell (p := ⟨p, 4, none⟩) hp).trans z4; have hp : p < v0.heap.size := World.block_lt_of_cell? v0 _ z0; have HB := Lib.hid b; clear b b'))
    go_ret
    exact ⟨by rw [HF.out]; rfl, HB.out⟩
  have HN4 := Lib.hid (show s.ds.length ≤ 4 by
    have h := t0
    unfold vdB at h
    rw [Bool.and_eq_true] at h
    exact (of_decide_eq_true h.1).2)
  rcases t1 : csB s.ds s.cs with _ | _
  · have HF := Lib.hid (show sfC s = 2 by unfold sfC; rw [if_neg (by rw [t0]; simp), if_pos t1])
    have T0 := Lib.hid t0
    have T1 := Lib.hid t1
    clear t0 t1
    go_enter Tryz.func86, Tryz.ntmps86
    go_wp2_with (first | (go_at_call 112; refine (C0.out _ HB.out).mono ?_; rw [T0.out]; rintro e v0 ⟨rfl, b, b'⟩; have z0 := (b'.cell (p := ⟨p, 0, none⟩) hp).trans z0; have z1 := (b'.cell (p := ⟨p, 1, none⟩) hp).trans z1; have z2 := (b'.cell (p := ⟨p, 2, none⟩) hp).trans z2; have z3 := (b'.cell (p := ⟨p, 3, none⟩) hp).trans z3; have z4 := (b'.cell (p := ⟨p, 4, none⟩) hp).trans z4; have hp : p < v0.heap.size := World.block_lt_of_cell? v0 _ z0; have HB := Lib.hid b; clear b b') | (go_at_call 113; refine (C1.out _ HB.out z0 z1 HN4.out).mono ?_; rw [T1.out]; rintro e v1 ⟨rfl, b, b'⟩; have z0 := (b'.cell (p := ⟨p, 0, none⟩) hp).trans z0; have z1 := (b'.cell (p := ⟨p, 1, none⟩) hp).trans z1; have z2 := (b'.cell (p := ⟨p, 2, none⟩) hp).trans z2; have z3 := (b'.cell (p := ⟨p, 3, none⟩) hp).trans z3; have z4 := (b'.cell (p := ⟨p, 4, none⟩) hp).trans z4; have hp : p < v1.heap.size := World.block_lt_of_cell? v1 _ z0; have HB := Lib.hid b; clear b b'))
    go_ret
    exact ⟨by rw [HF.out]; rfl, HB.out⟩
  rcases t2 : msB s.ms with _ | _
  · have HF := Lib.hid (show sfC s = 3 by unfold sfC; rw [if_neg (by rw [t0]; simp), if_neg (by rw [t1]; simp), if_pos t2])
    have T0 := Lib.hid t0
    have T1 := Lib.hid t1
    have T2 := Lib.hid t2
    clear t0 t1 t2
    go_enter Tryz.func86, Tryz.ntmps86
    go_wp2_with (first | (go_at_call 112; refine (C0.out _ HB.out).mono ?_; rw [T0.out]; rintro e v0 ⟨rfl, b, b'⟩; have z0 := (b'.cell (p := ⟨p, 0, none⟩) hp).trans z0; have z1 := (b'.cell (p := ⟨p, 1, none⟩) hp).trans z1; have z2 := (b'.cell (p := ⟨p, 2, none⟩) hp).trans z2; have z3 := (b'.cell (p := ⟨p, 3, none⟩) hp).trans z3; have z4 := (b'.cell (p := ⟨p, 4, none⟩) hp).trans z4; have hp : p < v0.heap.size := World.block_lt_of_cell? v0 _ z0; have HB := Lib.hid b; clear b b') | (go_at_call 113; refine (C1.out _ HB.out z0 z1 HN4.out).mono ?_; rw [T1.out]; rintro e v1 ⟨rfl, b, b'⟩; have z0 := (b'.cell (p := ⟨p, 0, none⟩) hp).trans z0; have z1 := (b'.cell (p := ⟨p, 1, none⟩) hp).trans z1; have z2 := (b'.cell (p := ⟨p, 2, none⟩) hp).trans z2; have z3 := (b'.cell (p := ⟨p, 3, none⟩) hp).trans z3; have z4 := (b'.cell (p := ⟨p, 4, none⟩) hp).trans z4; have hp : p < v1.heap.size := World.block_lt_of_cell? v1 _ z0; have HB := Lib.hid b; clear b b') | (go_at_call 114; refine (C2.out _ HB.out).mono ?_; rw [T2.out]; rintro e v2 ⟨rfl, b, b'⟩; have z0 := (b'.cell (p := ⟨p, 0, none⟩) hp).trans z0; have z1 := (b'.cell (p := ⟨p, 1, none⟩) hp).trans z1; have z2 := (b'.cell (p := ⟨p, 2, none⟩) hp).trans z2; have z3 := (b'.cell (p := ⟨p, 3, none⟩) hp).trans z3; have z4 := (b'.cell (p := ⟨p, 4, none⟩) hp).trans z4; have hp : p < v2.heap.size := World.block_lt_of_cell? v2 _ z0; have HB := Lib.hid b; clear b b'))
    go_ret
    exact ⟨by rw [HF.out]; rfl, HB.out⟩
  rcases t3 : nmsB s.al with _ | _
  · have HF := Lib.hid (show sfC s = 4 by unfold sfC; rw [if_neg (by rw [t0]; simp), if_neg (by rw [t1]; simp), if_neg (by rw [t2]; simp), if_pos t3])
    have T0 := Lib.hid t0
    have T1 := Lib.hid t1
    have T2 := Lib.hid t2
    have T3 := Lib.hid t3
    clear t0 t1 t2 t3
    go_enter Tryz.func86, Tryz.ntmps86
    go_wp2_with (first | (go_at_call 112; refine (C0.out _ HB.out).mono ?_; rw [T0.out]; rintro e v0 ⟨rfl, b, b'⟩; have z0 := (b'.cell (p := ⟨p, 0, none⟩) hp).trans z0; have z1 := (b'.cell (p := ⟨p, 1, none⟩) hp).trans z1; have z2 := (b'.cell (p := ⟨p, 2, none⟩) hp).trans z2; have z3 := (b'.cell (p := ⟨p, 3, none⟩) hp).trans z3; have z4 := (b'.cell (p := ⟨p, 4, none⟩) hp).trans z4; have hp : p < v0.heap.size := World.block_lt_of_cell? v0 _ z0; have HB := Lib.hid b; clear b b') | (go_at_call 113; refine (C1.out _ HB.out z0 z1 HN4.out).mono ?_; rw [T1.out]; rintro e v1 ⟨rfl, b, b'⟩; have z0 := (b'.cell (p := ⟨p, 0, none⟩) hp).trans z0; have z1 := (b'.cell (p := ⟨p, 1, none⟩) hp).trans z1; have z2 := (b'.cell (p := ⟨p, 2, none⟩) hp).trans z2; have z3 := (b'.cell (p := ⟨p, 3, none⟩) hp).trans z3; have z4 := (b'.cell (p := ⟨p, 4, none⟩) hp).trans z4; have hp : p < v1.heap.size := World.block_lt_of_cell? v1 _ z0; have HB := Lib.hid b; clear b b') | (go_at_call 114; refine (C2.out _ HB.out).mono ?_; rw [T2.out]; rintro e v2 ⟨rfl, b, b'⟩; have z0 := (b'.cell (p := ⟨p, 0, none⟩) hp).trans z0; have z1 := (b'.cell (p := ⟨p, 1, none⟩) hp).trans z1; have z2 := (b'.cell (p := ⟨p, 2, none⟩) hp).trans z2; have z3 := (b'.cell (p := ⟨p, 3, none⟩) hp).trans z3; have z4 := (b'.cell (p := ⟨p, 4, none⟩) hp).trans z4; have hp : p < v2.heap.size := World.block_lt_of_cell? v2 _ z0; have HB := Lib.hid b; clear b b') | (go_at_call 115; with_reducible refine (C3.out _ HB.out).mono ?_; rw [T3.out]; rintro e v3 ⟨rfl, b, b'⟩; have z0 := (b'.cell (p := ⟨p, 0, none⟩) hp).trans z0; have z1 := (b'.cell (p := ⟨p, 1, none⟩) hp).trans z1; have z2 := (b'.cell (p := ⟨p, 2, none⟩) hp).trans z2; have z3 := (b'.cell (p := ⟨p, 3, none⟩) hp).trans z3; have z4 := (b'.cell (p := ⟨p, 4, none⟩) hp).trans z4; have hp : p < v3.heap.size := World.block_lt_of_cell? v3 _ z0; have HB := Lib.hid b; clear b b'))
    go_ret
    exact ⟨by rw [HF.out]; rfl, HB.out⟩
  rcases t4 : nmsB s.hd with _ | _
  · have HF := Lib.hid (show sfC s = 5 by unfold sfC; rw [if_neg (by rw [t0]; simp), if_neg (by rw [t1]; simp), if_neg (by rw [t2]; simp), if_neg (by rw [t3]; simp), if_pos t4])
    have T0 := Lib.hid t0
    have T1 := Lib.hid t1
    have T2 := Lib.hid t2
    have T3 := Lib.hid t3
    have T4 := Lib.hid t4
    clear t0 t1 t2 t3 t4
    go_enter Tryz.func86, Tryz.ntmps86
    go_wp2_with (first | (go_at_call 112; refine (C0.out _ HB.out).mono ?_; rw [T0.out]; rintro e v0 ⟨rfl, b, b'⟩; have z0 := (b'.cell (p := ⟨p, 0, none⟩) hp).trans z0; have z1 := (b'.cell (p := ⟨p, 1, none⟩) hp).trans z1; have z2 := (b'.cell (p := ⟨p, 2, none⟩) hp).trans z2; have z3 := (b'.cell (p := ⟨p, 3, none⟩) hp).trans z3; have z4 := (b'.cell (p := ⟨p, 4, none⟩) hp).trans z4; have hp : p < v0.heap.size := World.block_lt_of_cell? v0 _ z0; have HB := Lib.hid b; clear b b') | (go_at_call 113; refine (C1.out _ HB.out z0 z1 HN4.out).mono ?_; rw [T1.out]; rintro e v1 ⟨rfl, b, b'⟩; have z0 := (b'.cell (p := ⟨p, 0, none⟩) hp).trans z0; have z1 := (b'.cell (p := ⟨p, 1, none⟩) hp).trans z1; have z2 := (b'.cell (p := ⟨p, 2, none⟩) hp).trans z2; have z3 := (b'.cell (p := ⟨p, 3, none⟩) hp).trans z3; have z4 := (b'.cell (p := ⟨p, 4, none⟩) hp).trans z4; have hp : p < v1.heap.size := World.block_lt_of_cell? v1 _ z0; have HB := Lib.hid b; clear b b') | (go_at_call 114; refine (C2.out _ HB.out).mono ?_; rw [T2.out]; rintro e v2 ⟨rfl, b, b'⟩; have z0 := (b'.cell (p := ⟨p, 0, none⟩) hp).trans z0; have z1 := (b'.cell (p := ⟨p, 1, none⟩) hp).trans z1; have z2 := (b'.cell (p := ⟨p, 2, none⟩) hp).trans z2; have z3 := (b'.cell (p := ⟨p, 3, none⟩) hp).trans z3; have z4 := (b'.cell (p := ⟨p, 4, none⟩) hp).trans z4; have hp : p < v2.heap.size := World.block_lt_of_cell? v2 _ z0; have HB := Lib.hid b; clear b b') | (go_at_call 115; with_reducible refine (C3.out _ HB.out).mono ?_; rw [T3.out]; rintro e v3 ⟨rfl, b, b'⟩; have z0 := (b'.cell (p := ⟨p, 0, none⟩) hp).trans z0; have z1 := (b'.cell (p := ⟨p, 1, none⟩) hp).trans z1; have z2 := (b'.cell (p := ⟨p, 2, none⟩) hp).trans z2; have z3 := (b'.cell (p := ⟨p, 3, none⟩) hp).trans z3; have z4 := (b'.cell (p := ⟨p, 4, none⟩) hp).trans z4; have hp : p < v3.heap.size := World.block_lt_of_cell? v3 _ z0; have HB := Lib.hid b; clear b b') | (go_at_call 115; with_reducible refine (C4.out _ HB.out).mono ?_; rw [T4.out]; rintro e v4 ⟨rfl, b, b'⟩; have z0 := (b'.cell (p := ⟨p, 0, none⟩) hp).trans z0; have z1 := (b'.cell (p := ⟨p, 1, none⟩) hp).trans z1; have z2 := (b'.cell (p := ⟨p, 2, none⟩) hp).trans z2; have z3 := (b'.cell (p := ⟨p, 3, none⟩) hp).trans z3; have z4 := (b'.cell (p := ⟨p, 4, none⟩) hp).trans z4; have hp : p < v4.heap.size := World.block_lt_of_cell? v4 _ z0; have HB := Lib.hid b; clear b b'))
    go_ret
    exact ⟨by rw [HF.out]; rfl, HB.out⟩
  have HF := Lib.hid (show sfC s = 0 by unfold sfC; rw [if_neg (by rw [t0]; simp), if_neg (by rw [t1]; simp), if_neg (by rw [t2]; simp), if_neg (by rw [t3]; simp), if_neg (by rw [t4]; simp)])
  have T0 := Lib.hid t0
  have T1 := Lib.hid t1
  have T2 := Lib.hid t2
  have T3 := Lib.hid t3
  have T4 := Lib.hid t4
  clear t0 t1 t2 t3 t4
  go_enter Tryz.func86, Tryz.ntmps86
  go_wp2_with (first | (go_at_call 112; refine (C0.out _ HB.out).mono ?_; rw [T0.out]; rintro e v0 ⟨rfl, b, b'⟩; have z0 := (b'.cell (p := ⟨p, 0, none⟩) hp).trans z0; have z1 := (b'.cell (p := ⟨p, 1, none⟩) hp).trans z1; have z2 := (b'.cell (p := ⟨p, 2, none⟩) hp).trans z2; have z3 := (b'.cell (p := ⟨p, 3, none⟩) hp).trans z3; have z4 := (b'.cell (p := ⟨p, 4, none⟩) hp).trans z4; have hp : p < v0.heap.size := World.block_lt_of_cell? v0 _ z0; have HB := Lib.hid b; clear b b') | (go_at_call 113; refine (C1.out _ HB.out z0 z1 HN4.out).mono ?_; rw [T1.out]; rintro e v1 ⟨rfl, b, b'⟩; have z0 := (b'.cell (p := ⟨p, 0, none⟩) hp).trans z0; have z1 := (b'.cell (p := ⟨p, 1, none⟩) hp).trans z1; have z2 := (b'.cell (p := ⟨p, 2, none⟩) hp).trans z2; have z3 := (b'.cell (p := ⟨p, 3, none⟩) hp).trans z3; have z4 := (b'.cell (p := ⟨p, 4, none⟩) hp).trans z4; have hp : p < v1.heap.size := World.block_lt_of_cell? v1 _ z0; have HB := Lib.hid b; clear b b') | (go_at_call 114; refine (C2.out _ HB.out).mono ?_; rw [T2.out]; rintro e v2 ⟨rfl, b, b'⟩; have z0 := (b'.cell (p := ⟨p, 0, none⟩) hp).trans z0; have z1 := (b'.cell (p := ⟨p, 1, none⟩) hp).trans z1; have z2 := (b'.cell (p := ⟨p, 2, none⟩) hp).trans z2; have z3 := (b'.cell (p := ⟨p, 3, none⟩) hp).trans z3; have z4 := (b'.cell (p := ⟨p, 4, none⟩) hp).trans z4; have hp : p < v2.heap.size := World.block_lt_of_cell? v2 _ z0; have HB := Lib.hid b; clear b b') | (go_at_call 115; with_reducible refine (C3.out _ HB.out).mono ?_; rw [T3.out]; rintro e v3 ⟨rfl, b, b'⟩; have z0 := (b'.cell (p := ⟨p, 0, none⟩) hp).trans z0; have z1 := (b'.cell (p := ⟨p, 1, none⟩) hp).trans z1; have z2 := (b'.cell (p := ⟨p, 2, none⟩) hp).trans z2; have z3 := (b'.cell (p := ⟨p, 3, none⟩) hp).trans z3; have z4 := (b'.cell (p := ⟨p, 4, none⟩) hp).trans z4; have hp : p < v3.heap.size := World.block_lt_of_cell? v3 _ z0; have HB := Lib.hid b; clear b b') | (go_at_call 115; with_reducible refine (C4.out _ HB.out).mono ?_; rw [T4.out]; rintro e v4 ⟨rfl, b, b'⟩; have z0 := (b'.cell (p := ⟨p, 0, none⟩) hp).trans z0; have z1 := (b'.cell (p := ⟨p, 1, none⟩) hp).trans z1; have z2 := (b'.cell (p := ⟨p, 2, none⟩) hp).trans z2; have z3 := (b'.cell (p := ⟨p, 3, none⟩) hp).trans z3; have z4 := (b'.cell (p := ⟨p, 4, none⟩) hp).trans z4; have hp : p < v4.heap.size := World.block_lt_of_cell? v4 _ z0; have HB := Lib.hid b; clear b b'))
  go_ret
  exact ⟨by rw [HF.out]; rfl, HB.out⟩
set_option maxRecDepth 100000 in
theorem specIs_any (p : Nat) (s : Sy) (A1 A2 A3 A4 A5 : Option Addr) (c1 c2 c3 c4 c5 : Nat) (w : World) (S : Nat → Prop) (h1 : LRow dfR w S A1 s.ds) (h2 : LRow cpR w S A2 s.cs) (h3 : LRow mtR w S A3 s.ms) (h4 : LRow txtR w S A4 s.al) (h5 : LRow txtR w S A5 s.hd) (hS : ∀ b, S b → b < w.heap.size) (ok : okSy s) (z0 : w.cell? ⟨p, 0, none⟩ = some (.slice A1 s.ds.length c1)) (z1 : w.cell? ⟨p, 1, none⟩ = some (.slice A2 s.cs.length c2)) (z2 : w.cell? ⟨p, 2, none⟩ = some (.slice A3 s.ms.length c3)) (z3 : w.cell? ⟨p, 3, none⟩ = some (.slice A4 s.al.length c4)) (z4 : w.cell? ⟨p, 4, none⟩ = some (.slice A5 s.hd.length c5)) :
    Calls Tryz.prog 39 #[.pointer (some ⟨p, 0, none⟩)] w fun e w' => e = .returned (.bool (vsB s)) ∧ Below w.heap.size w w' := by
  have C := Lib.hid (specFault_any p s A1 A2 A3 A4 A5 c1 c2 c3 c4 c5 w S h1 h2 h3 h4 h5 hS ok z0 z1 z2 z3 z4)
  obtain ⟨q, hq⟩ : ∃ q, q = sfC s := ⟨_, rfl⟩
  have HV := Lib.hid (show vsB s = (q == 0) by rw [hq]; rfl)
  rw [← hq] at C
  clear h1 h2 h3 h4 h5 hS ok hq
  go_enter Tryz.func39, Tryz.ntmps39
  go_wp2_with (go_at_call 86; refine C.out.mono ?_; rintro e w2 ⟨rfl, hb⟩; have HB := Lib.hid hb; clear hb)
  go_ret
  exact ⟨by rw [HV.out]; rfl, HB.out⟩
end Go.Proofs.YtdgcpaeneafejaaGreatDoor
