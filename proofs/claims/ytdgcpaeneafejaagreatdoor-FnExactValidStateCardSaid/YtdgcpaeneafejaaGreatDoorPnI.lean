/- Points: the program. -/
import Derived.BigQuiet
import Derived.Deep.RegionHeld3
import Derived.Test.YtdgcpaeneafejaaGreatDoorPnS
import Derived.Test.YtdgcpaeneafejaaGreatDoorEvLow
import Derived.Test.YtdgcpaeneafejaaGreatDoorPxJL
import Derived.Test.YtdgcpaeneafejaaGreatDoorPxAD
namespace Go.Proofs.YtdgcpaeneafejaaGreatDoor
open Go.RowKit
theorem indexP_any (k : Int) (n : Nat) (w : World) (_hn : n ≤ 1048576) :
    Calls Tryz.prog 70 #[.int .i64 k, .int .i64 n] w fun e w' => e = .returned (.bool (idxB k n)) ∧ w = w' := by
  by_cases h0 : 0 ≤ k
  · by_cases h1 : k < n
    · have HF := Lib.hid (show idxB k n = true by unfold idxB; simp [h0, h1])
      go_enter Tryz.func70, Tryz.ntmps70
      go_wp2
      go_ret
      exact ⟨by rw [HF.out]; rfl, rfl⟩
    · have HF := Lib.hid (show idxB k n = false by unfold idxB; simp [h1])
      go_enter Tryz.func70, Tryz.ntmps70
      go_wp2
      go_ret
      exact ⟨by rw [HF.out]; rfl, rfl⟩
  · have HF := Lib.hid (show idxB k n = false by unfold idxB; simp [h0])
    go_enter Tryz.func70, Tryz.ntmps70
    go_wp2
    go_ret
    exact ⟨by rw [HF.out]; rfl, rfl⟩
set_option maxRecDepth 100000 in
set_option maxHeartbeats 4000000 in
theorem fitsP_any (ls : List Df) (x : Pn) (A : Option Addr) (c : Nat) (V : Option Addr) (cv : Nat) (w : World) (S : Nat → Prop) (h : LRow dfR w S A ls) (g : LRow intR w S V x.vs) (hS : ∀ b, S b → b < w.heap.size) (tv : vdB ls = true) (hv : x.vs.length ≤ 1048576) (ht : FormTab w) :
    Calls Tryz.prog 110 #[.agg #[.int .i64 x.d, .int .i64 x.pt, .slice V x.vs.length cv], .slice A ls.length c] w fun e w' => e = .returned (.bool (fitB ls x)) ∧ Below w.heap.size w w' := by
  have hl4 : ls.length ≤ 4 := by
    have h := tv
    unfold vdB at h
    rw [Bool.and_eq_true] at h
    exact (of_decide_eq_true h.1).2
  have C1 := Lib.hid (fun W : World => indexP_any x.d ls.length W (by omega))
  rcases ti : idxB x.d ls.length with _ | _
  · have HF := Lib.hid (fit_no1 ti)
    rw [ti] at C1
    clear ti h g hS tv
    go_enter Tryz.func110, Tryz.ntmps110
    go_wp2
    go_quiet ((go_at_call 70; with_reducible exact quiet_same (C1.out _)))
    go_wp2
    go_ret
    exact ⟨ret_bool HF.out.symm, (by first | exact (Below.refl _ _).alloc (Nat.le_refl _) _ | exact ((Below.refl _ _).alloc (Nat.le_refl _) _).trans (below_drewN _ _ _) | exact (((Below.refl _ _).alloc (Nat.le_refl _) _).trans (below_drewN _ _ _)).trans (below_drewN _ _ _))⟩
  obtain ⟨j, hxd, hj⟩ := idxB_yes ti
  obtain ⟨b2, o2, cs2, d, rfl, hb2, hR2, hd, hc2⟩ := h.at_ (k := j) hj
  obtain ⟨B, cb, rfl, _, _, _, hrb⟩ := hR2
  have t0 : w.cell? ⟨b2, o2 + j * 3, none⟩ = some (.string d.nm) := hc2 0 _ rfl
  have t1 : w.cell? ⟨b2, o2 + j * 3 + 1, none⟩ = some (.int .i64 d.ps) := hc2 1 _ rfl
  have t2 : w.cell? ⟨b2, o2 + j * 3 + 2, none⟩ = some (.slice B d.body.length cb) := hc2 2 _ rfl
  have lb2 : b2 < w.heap.size := World.block_lt_of_cell? w _ t1
  obtain ⟨_, hp0, hp3, hsh⟩ := vdB_parts tv hd.out
  have h20 := (pxOf_ok hsh).2.2
  rw [← Px.flat_len, (pxOf_ok hsh).1] at h20
  have C2 := Lib.hid (fun W : World => indexP_any x.pt d.body.length W (by omega))
  rw [ti, hxd] at C1
  rcases tp : idxB x.pt d.body.length with _ | _
  · have HF := Lib.hid (fit_no2 hxd hd.out tp)
    rw [tp] at C2
    obtain ⟨fb, hfb⟩ : ∃ q, q = fitB ls x := ⟨_, rfl⟩
    rw [← hfb] at HF ⊢
    rw [hxd]
    clear ti h g hS tv hc2 hd hrb hsh tp hfb hxd
    go_enter Tryz.func110, Tryz.ntmps110
    go_wp2
    go_quiet (first | (go_at_call 70; with_reducible exact quiet_same (C1.out _)) | (go_at_call 70; with_reducible exact quiet_same (C2.out _)))
    go_wp2
    go_ret
    exact ⟨ret_bool HF.out.symm, (by first | exact (Below.refl _ _).alloc (Nat.le_refl _) _ | exact ((Below.refl _ _).alloc (Nat.le_refl _) _).trans (below_drewN _ _ _) | exact (((Below.refl _ _).alloc (Nat.le_refl _) _).trans (below_drewN _ _ _)).trans (below_drewN _ _ _))⟩
  obtain ⟨i, hxp, hi⟩ := idxB_yes tp
  obtain ⟨a, ha⟩ : ∃ a, (annOf d)[i]? = some a := ⟨_, List.getElem?_eq_getElem (by rw [annOf_len hsh]; exact hi)⟩
  have HFP := Lib.hid (fit_part hxd hd.out hxp hi ha)
  rw [tp, hxp] at C2
  have CP0 := Lib.hid (fun (W : World) (hW : Below w.heap.size w W) => implPlaced_any d B cb W S (hrb.keep (SameOn.of_below hW hS)) (fun b hb => Nat.lt_of_lt_of_le (hS b hb) hW.size) hsh hp0 hp3 (ht.below hW))
  have CD := Lib.hid (fun (W : World) (hW : Below w.heap.size w W) => containsF_any V x.vs.length cv x.vs W W.heap.size ((g.keep (SameOn.of_below hW hS)).irow fun b h => Nat.lt_of_lt_of_le (hS b h) hW.size) rfl (by omega))
  have HA := Lib.hid ha
  have HAL := Lib.hid (annOf_len hsh)
  obtain ⟨fb, hfb⟩ : ∃ q, q = fitB ls x := ⟨_, rfl⟩
  rw [← hfb] at HFP ⊢
  rw [hxd, hxp]
  clear ti h g hS tv hc2 hd hrb hsh tp hfb hxd hxp ha ht
  go_enter Tryz.func110, Tryz.ntmps110
  go_wp2
  go_quiet (first | (go_at_call 70; with_reducible exact quiet_same (C1.out _)) | (go_at_call 70; with_reducible exact quiet_same (C2.out _)))
  go_wp2
  obtain ⟨v, hv0⟩ : ∃ v, v = (w.alloc (.cells #[.int .i64 (j : Int), .int .i64 (i : Int), .slice V x.vs.length cv] 106)).drewN nq := ⟨_, rfl⟩
  rw [← hv0]
  have hB0 : Below w.heap.size w v := by rw [hv0]; exact ((Below.refl _ _).alloc (Nat.le_refl _) _).trans (below_drewN _ _ _)
  have k0 : v.cell? ⟨w.heap.size, 0, none⟩ = some (.int .i64 (j : Int)) := by rw [hv0]; simp [go_sem]
  have k1 : v.cell? ⟨w.heap.size, 1, none⟩ = some (.int .i64 (i : Int)) := by rw [hv0]; simp [go_sem]
  have k2 : v.cell? ⟨w.heap.size, 2, none⟩ = some (.slice V x.vs.length cv) := by rw [hv0]; simp [go_sem]
  have hl : w.heap.size < v.heap.size := World.block_lt_of_cell? v _ k0
  have hlb : b2 < v.heap.size := by omega
  have r0 := (hB0.cell (p := ⟨b2, o2 + j * 3, none⟩) lb2).trans t0
  have r1 := (hB0.cell (p := ⟨b2, o2 + j * 3 + 1, none⟩) lb2).trans t1
  have r2 := (hB0.cell (p := ⟨b2, o2 + j * 3 + 2, none⟩) lb2).trans t2
  clear hv0
  have HB0 := Lib.hid hB0
  have HV := Lib.hid (Below.refl v.heap.size v)
  have HS := Lib.hid (fun (W : World) (hW : Below v.heap.size v W) => (⟨hW, (hW.cell (p := ⟨w.heap.size, 0, none⟩) hl).trans k0, (hW.cell (p := ⟨w.heap.size, 1, none⟩) hl).trans k1, (hW.cell (p := ⟨b2, o2 + j * 3, none⟩) hlb).trans r0, (hW.cell (p := ⟨b2, o2 + j * 3 + 1, none⟩) hlb).trans r1, (hW.cell (p := ⟨b2, o2 + j * 3 + 2, none⟩) hlb).trans r2⟩ : Below v.heap.size v W ∧ W.cell? ⟨w.heap.size, 0, none⟩ = some (.int .i64 (j : Int)) ∧ W.cell? ⟨w.heap.size, 1, none⟩ = some (.int .i64 (i : Int)) ∧ W.cell? ⟨b2, o2 + j * 3, none⟩ = some (.string d.nm) ∧ W.cell? ⟨b2, o2 + j * 3 + 1, none⟩ = some (.int .i64 d.ps) ∧ W.cell? ⟨b2, o2 + j * 3 + 2, none⟩ = some (.slice B d.body.length cb)))
  have CP := Lib.hid (fun (W : World) (hW : Below v.heap.size v W) => CP0.out W (HB0.out.trans (hW.mono HB0.out.size)))
  clear hB0 t0 t1 t2 HS
  go_region_with (first | (go_at_call 129; (with_reducible refine (CP.out _ HV.out.drew).mono ?_); rintro e w4 ⟨A4, rfl, hr4, hb4, hl4⟩; obtain ⟨b5, o5, cs5, a5, rfl, hb5, hR5, ha5, hc5⟩ := hr4.at_ (k := i) (by rw [HAL.out]; exact hi); obtain rfl : a5 = a := (by have h := ha5.out.symm.trans HA.out; injection h); obtain ⟨E5, ce, rfl, _, _, _, _⟩ := hR5; have p0 : w4.cell? ⟨b5, o5 + i * 7, none⟩ = some (.int .i64 a5.p.k) := hc5 0 _ rfl; have p1 : w4.cell? ⟨b5, o5 + i * 7 + 1, none⟩ = some (.int .i64 a5.p.n) := hc5 1 _ rfl; have p2 : w4.cell? ⟨b5, o5 + i * 7 + 2, none⟩ = some (.string a5.p.nm) := hc5 2 _ rfl; have p3 : w4.cell? ⟨b5, o5 + i * 7 + 3, none⟩ = some (.slice E5 a5.p.args.length ce) := hc5 3 _ rfl; have p4 : w4.cell? ⟨b5, o5 + i * 7 + 4, none⟩ = some (.int .i64 a5.e) := hc5 4 _ rfl; have p5 : w4.cell? ⟨b5, o5 + i * 7 + 5, none⟩ = some (.int .i64 a5.s) := hc5 5 _ rfl; have p6 : w4.cell? ⟨b5, o5 + i * 7 + 6, none⟩ = some (.bool a5.c) := hc5 6 _ rfl; have l5 : b5 < w4.heap.size := World.block_lt_of_cell? w4 _ p0; have HV := Lib.hid (Below.trans HV.out.drew (hb4.mono (by simp))); have k1 := (HV.out.cell (p := ⟨w.heap.size, 1, none⟩) hl).trans k1; have e2 := (HV.out.cell (p := ⟨w.heap.size, 2, none⟩) hl).trans k2; have hlw : w.heap.size < w4.heap.size := World.block_lt_of_cell? w4 _ k1; clear hc5 hb4 hr4 hl4 hb5 ha5; rw [HAL.out]) | (go_at_call 129; (with_reducible refine (CP.out _ (HV.out.alloc (Nat.le_refl _) _).drew).mono ?_); rintro e w4 ⟨A4, rfl, hr4, hb4, hl4⟩; obtain ⟨b5, o5, cs5, a5, rfl, hb5, hR5, ha5, hc5⟩ := hr4.at_ (k := i) (by rw [HAL.out]; exact hi); obtain rfl : a5 = a := (by have h := ha5.out.symm.trans HA.out; injection h); obtain ⟨E5, ce, rfl, _, _, _, _⟩ := hR5; have p0 : w4.cell? ⟨b5, o5 + i * 7, none⟩ = some (.int .i64 a5.p.k) := hc5 0 _ rfl; have p1 : w4.cell? ⟨b5, o5 + i * 7 + 1, none⟩ = some (.int .i64 a5.p.n) := hc5 1 _ rfl; have p2 : w4.cell? ⟨b5, o5 + i * 7 + 2, none⟩ = some (.string a5.p.nm) := hc5 2 _ rfl; have p3 : w4.cell? ⟨b5, o5 + i * 7 + 3, none⟩ = some (.slice E5 a5.p.args.length ce) := hc5 3 _ rfl; have p4 : w4.cell? ⟨b5, o5 + i * 7 + 4, none⟩ = some (.int .i64 a5.e) := hc5 4 _ rfl; have p5 : w4.cell? ⟨b5, o5 + i * 7 + 5, none⟩ = some (.int .i64 a5.s) := hc5 5 _ rfl; have p6 : w4.cell? ⟨b5, o5 + i * 7 + 6, none⟩ = some (.bool a5.c) := hc5 6 _ rfl; have l5 : b5 < w4.heap.size := World.block_lt_of_cell? w4 _ p0; have y0 := (hb4.cell (p := ⟨v.heap.size, 0, none⟩) (by simp)).trans (show _ = some (.int .i64 0) by simp [go_sem]); have y1 := (hb4.cell (p := ⟨v.heap.size, 1, none⟩) (by simp)).trans (show _ = some (.int .i64 0) by simp [go_sem]); have y2 := (hb4.cell (p := ⟨v.heap.size, 2, none⟩) (by simp)).trans (show _ = some (.string ⟨#[]⟩) by simp [go_sem]); have y3 := (hb4.cell (p := ⟨v.heap.size, 3, none⟩) (by simp)).trans (show _ = some (.slice none 0 0) by simp [go_sem]); have y4 := (hb4.cell (p := ⟨v.heap.size, 4, none⟩) (by simp)).trans (show _ = some (.int .i64 0) by simp [go_sem]); have y5 := (hb4.cell (p := ⟨v.heap.size, 5, none⟩) (by simp)).trans (show _ = some (.int .i64 0) by simp [go_sem]); have y6 := (hb4.cell (p := ⟨v.heap.size, 6, none⟩) (by simp)).trans (show _ = some (.bool false) by simp [go_sem]); have yf : ∀ k, w4.frozen? ⟨v.heap.size, k, none⟩ = false := (fun k => (hb4.frozen (p := ⟨v.heap.size, k, none⟩) (by simp)).trans (by simp [go_sem])); have yl : v.heap.size < w4.heap.size := World.block_lt_of_cell? w4 _ y0; have HV := Lib.hid (Below.trans (HV.out.alloc (Nat.le_refl _) _).drew (hb4.mono (by simp))); have k1 := (HV.out.cell (p := ⟨w.heap.size, 1, none⟩) hl).trans k1; have e2 := (HV.out.cell (p := ⟨w.heap.size, 2, none⟩) hl).trans k2; have hlw : w.heap.size < w4.heap.size := World.block_lt_of_cell? w4 _ k1; clear hc5 hb4 hr4 hl4 hb5 ha5; rw [HAL.out]))
  all_goals
  · rcases t5 : (a5.p.k == 5) with _ | _
    rotate_left
    · have HF := Lib.hid (show fb = false by rw [HFP.out, t5]; rfl)
      have hn5 : (a5.p.k != 5) = false := by show (!(a5.p.k == 5)) = false; rw [t5]; rfl
      clear HFP
      go_wp2
      go_ret
      exact ⟨ret_bool HF.out.symm, HB0.out.trans (Below.mono (show Below v.heap.size v _ from by repeat (first | (with_reducible exact HV.out) | (with_reducible exact HV.out.drew) | with_reducible refine Below.setCell ?_ (by first | omega | (simp <;> omega)) _ | with_reducible refine Below.alloc ?_ (by first | exact HV.out.size | (simp <;> omega)) _)) HB0.out.size)⟩
    have hn5 : (a5.p.k != 5) = true := by show (!(a5.p.k == 5)) = true; rw [t5]; rfl
    rcases ts : ((x.vs.length : Int) == a5.s) with _ | _
    · have HF := Lib.hid (show fb = false by rw [HFP.out, t5, ts]; rfl)
      clear HFP
      go_wp2
      go_ret
      exact ⟨ret_bool HF.out.symm, HB0.out.trans (Below.mono (show Below v.heap.size v _ from by repeat (first | (with_reducible exact HV.out) | (with_reducible exact HV.out.drew) | with_reducible refine Below.setCell ?_ (by first | omega | (simp <;> omega)) _ | with_reducible refine Below.alloc ?_ (by first | exact HV.out.size | (simp <;> omega)) _)) HB0.out.size)⟩
    rcases td : dataB x.vs with _ | _
    · have HF := Lib.hid (show fb = false by rw [HFP.out, t5, ts, td]; rfl)
      rw [td] at CD
      clear HFP td
      go_wp2_with (go_at_call 94; refine (CD.out _ (HB0.out.trans (Below.mono (show Below v.heap.size v _ from by repeat (first | (with_reducible exact HV.out) | (with_reducible exact HV.out.drew) | with_reducible refine Below.setCell ?_ (by first | omega | (simp <;> omega)) _ | with_reducible refine Below.alloc ?_ (by first | exact HV.out.size | (simp <;> omega)) _)) HB0.out.size))).mono ?_; rintro e w5 ⟨rfl, rfl⟩)
      go_ret
      exact ⟨ret_bool HF.out.symm, HB0.out.trans (Below.mono (show Below v.heap.size v _ from by repeat (first | (with_reducible exact HV.out) | (with_reducible exact HV.out.drew) | with_reducible refine Below.setCell ?_ (by first | omega | (simp <;> omega)) _ | with_reducible refine Below.alloc ?_ (by first | exact HV.out.size | (simp <;> omega)) _)) HB0.out.size)⟩
    · have HF := Lib.hid (show fb = true by rw [HFP.out, t5, ts, td]; rfl)
      rw [td] at CD
      clear HFP td
      go_wp2_with (go_at_call 94; refine (CD.out _ (HB0.out.trans (Below.mono (show Below v.heap.size v _ from by repeat (first | (with_reducible exact HV.out) | (with_reducible exact HV.out.drew) | with_reducible refine Below.setCell ?_ (by first | omega | (simp <;> omega)) _ | with_reducible refine Below.alloc ?_ (by first | exact HV.out.size | (simp <;> omega)) _)) HB0.out.size))).mono ?_; rintro e w5 ⟨rfl, rfl⟩)
      go_ret
      exact ⟨ret_bool HF.out.symm, HB0.out.trans (Below.mono (show Below v.heap.size v _ from by repeat (first | (with_reducible exact HV.out) | (with_reducible exact HV.out.drew) | with_reducible refine Below.setCell ?_ (by first | omega | (simp <;> omega)) _ | with_reducible refine Below.alloc ?_ (by first | exact HV.out.size | (simp <;> omega)) _)) HB0.out.size)⟩
end Go.Proofs.YtdgcpaeneafejaaGreatDoor
