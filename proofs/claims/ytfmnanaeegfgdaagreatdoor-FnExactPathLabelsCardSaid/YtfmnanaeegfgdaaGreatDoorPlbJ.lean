/- Paths of a transition system: the labels of a path, both sides. -/
import Derived.Test.YtfmnanaeegfgdaaGreatDoorPlbI
namespace Go.Proofs.YtfmnanaeegfgdaaGreatDoor
open Go.RowKit
set_option linter.unusedVariables false
set_option maxRecDepth 100000 in
set_option maxHeartbeats 2000000 in
theorem specLab_any {x : Lt} {cs : List Value} {B : Option Addr} {p : List Int} {w : World} {S S2 : Nat → Prop} (h : ltR.R w S x cs) (hp : LRow intR w S2 B p) (hS : ∀ b, S b → b < w.heap.size) (hS2 : ∀ b, S2 b → b < w.heap.size) (ok : okLt x) (okp : okList okAny p) :
    Calls Tryz.prog 13 #[.agg cs.toArray, .slice B p.length p.length] w fun e w' => ∃ A c, e = .returned (.tuple #[.slice A (labR x p).length c, .int .i64 (pathC x p)]) ∧ OL txtO 9 w' (In w.heap.size w'.heap.size) A (labR x p).length c (labR x p) ∧ Below w.heap.size w w' := by
  obtain ⟨A1, c1, A2, c2, rfl, ⟨_, _, r1⟩, ⟨_, _, r2⟩⟩ := h
  have HB := Lib.hid (fun o : Obj => (Below.refl w.heap.size w).alloc (Nat.le_refl _) o)
  have C := Lib.hid (fun (W : World) (hW : Below w.heap.size w W) (q : Nat) (y0 : W.cell? ⟨q, 0, none⟩ = some (.int .i64 x.st)) (y1 : W.cell? ⟨q, 1, none⟩ = some (.int .i64 x.ini)) (y2 : W.cell? ⟨q, 2, none⟩ = some (.slice A1 x.ls.length c1)) (y3 : W.cell? ⟨q, 3, none⟩ = some (.slice A2 x.es.length c2)) => l11Is_any x q A1 A2 c1 c2 W S y0 y1 y2 y3 (r1.keep (SameOn.of_below hW hS)) (r2.keep (SameOn.of_below hW hS)) (fun b hb => Nat.lt_of_lt_of_le (hS b hb) hW.size) ok)
  have CW := Lib.hid (fun (tv : ltB x = true) (W : World) (hW : Below w.heap.size w W) (q : Nat) (y1 : W.cell? ⟨q, 1, none⟩ = some (.int .i64 x.ini)) (y3 : W.cell? ⟨q, 3, none⟩ = some (.slice A2 x.es.length c2)) => l10Walk_any x q A1 A2 c1 c2 B p.length p.length p W S S2 y1 y3 (r2.keep (SameOn.of_below hW hS)) (hp.keep (SameOn.of_below hW hS2)) rfl okp.1 (fun b hb => Nat.lt_of_lt_of_le (hS b hb) hW.size) (fun b hb => Nat.lt_of_lt_of_le (hS2 b hb) hW.size) ok tv)
  have CL := Lib.hid (fun (hv : ltB x = true) (hr : rngB x p = true) (W : World) (hW : Below w.heap.size w W) (q : Nat) (y2 : W.cell? ⟨q, 2, none⟩ = some (.slice A1 x.ls.length c1)) (y3 : W.cell? ⟨q, 3, none⟩ = some (.slice A2 x.es.length c2)) => l10Labels_any x q A1 A2 c1 c2 B p.length p.length p W S S2 y2 y3 (r1.keep (SameOn.of_below hW hS)) (r2.keep (SameOn.of_below hW hS)) (hp.keep (SameOn.of_below hW hS2)) (fun b hb => Nat.lt_of_lt_of_le (hS b hb) hW.size) (fun b hb => Nat.lt_of_lt_of_le (hS2 b hb) hW.size) rfl okp.1 hv hr ok)
  clear r1 r2 hS ok hp hS2 okp
  go_enter Tryz.func13, Tryz.ntmps13
  go_wp2_with fail
  refine (C.out _ (HB.out _) w.heap.size (by simp [go_sem]) (by simp [go_sem]) (by simp [go_sem]) (by simp [go_sem])).mono ?_
  rintro e w2 ⟨rfl, hb2⟩
  obtain ⟨hcc, _⟩ := bcell hb2
  have HB2 := Lib.hid ((HB.out _).trans (hb2.mono (HB.out _).size))
  have y1 : w2.cell? ⟨w.heap.size, 1, none⟩ = some (.int .i64 x.ini) := (hcc _ _ (by simp)).trans (by simp [go_sem])
  have y2 : w2.cell? ⟨w.heap.size, 2, none⟩ = some (.slice A1 x.ls.length c1) := (hcc _ _ (by simp)).trans (by simp [go_sem])
  have y3 : w2.cell? ⟨w.heap.size, 3, none⟩ = some (.slice A2 x.es.length c2) := (hcc _ _ (by simp)).trans (by simp [go_sem])
  have hs2 := hb2.size
  simp at hs2
  have hpb : w.heap.size < w2.heap.size := by omega
  clear hb2 hcc
  rcases tv : ltB x with _ | _
  · have HF := Lib.hid (pathC_inv (p := p) tv)
    have HG := Lib.hid (labR_no (x := x) (p := p) (by rw [HF.out]; decide))
    clear tv
    go_wp2
    go_ret2
    exact ⟨none, 0, by rw [HF.out, HG.out]; rfl, by rw [HG.out]; exact OL.nil, HB2.out⟩
  · have C2 := Lib.hid (CW.out tv w2 HB2.out w.heap.size y1 y3)
    clear tv
    by_cases hc : pathC x p = 0
    · have hne : (pathC x p != 0) = false := by simp [hc]
      have HC := Lib.hid hc
      have HG := Lib.hid (labR_ok hc)
      have CL2 := Lib.hid (CL.out (pathC_parts hc).1 (pathC_parts hc).2)
      clear hc
      go_wp2_with (go_at_call 25; refine (C2.out).mono ?_; rintro e w3 ⟨rfl, hb3⟩; have Z2 := Lib.hid ((hb3.cell (p := ⟨w.heap.size, 2, none⟩) hpb).trans y2); have Z3 := Lib.hid ((hb3.cell (p := ⟨w.heap.size, 3, none⟩) hpb).trans y3); have HB3 := Lib.hid (HB2.out.trans (hb3.mono HB2.out.size)); clear hb3)
      have C3 := Lib.hid (CL2.out _ HB3.out w.heap.size Z2.out Z3.out)
      have HS3 := Lib.hid HB3.out.size
      clear y1 y2 y3
      go_wp2_with (go_at_call 31; refine (C3.out).mono ?_; rintro e w4 ⟨A, c, rfl, hO, hb4⟩; have HB4 := Lib.hid (HB3.out.trans (hb4.mono HB3.out.size)); have HO := Lib.hid (hO.more (S' := In w.heap.size w4.heap.size) (fun b hb => ⟨Nat.le_trans HS3.out hb.1, hb.2⟩)); clear hb4 hO)
      go_ret2
      exact ⟨A, c, by (rw [HG.out, HC.out]; rfl), by rw [HG.out]; exact HO.out, HB4.out⟩
    · have hne : (pathC x p != 0) = true := by simp [hc]
      have HG := Lib.hid (labR_no hc)
      clear hc
      go_wp2_with (go_at_call 25; refine (C2.out).mono ?_; rintro e w3 ⟨rfl, hb3⟩; have Z2 := Lib.hid ((hb3.cell (p := ⟨w.heap.size, 2, none⟩) hpb).trans y2); have Z3 := Lib.hid ((hb3.cell (p := ⟨w.heap.size, 3, none⟩) hpb).trans y3); have HB3 := Lib.hid (HB2.out.trans (hb3.mono HB2.out.size)); clear hb3)
      go_ret2
      exact ⟨none, 0, by rw [HG.out]; rfl, by rw [HG.out]; exact OL.nil, HB3.out⟩
set_option maxRecDepth 100000 in
set_option maxHeartbeats 2000000 in
theorem implLab_any {x : Lt} {cs : List Value} {B : Option Addr} {p : List Int} {w : World} {S S2 : Nat → Prop} (h : ltR.R w S x cs) (hp : LRow intR w S2 B p) (hS : ∀ b, S b → b < w.heap.size) (hS2 : ∀ b, S2 b → b < w.heap.size) (ok : okLt x) (okp : okList okAny p) (ht : TxtTabs w) :
    Calls Tryz.prog 14 #[.agg cs.toArray, .slice B p.length p.length] w fun e w' => ∃ A c, e = .returned (.tuple #[.slice A (labR x p).length c, .int .i64 (pathC x p)]) ∧ OL txtO 9 w' (In w.heap.size w'.heap.size) A (labR x p).length c (labR x p) ∧ Below w.heap.size w w' := by
  obtain ⟨A1, c1, A2, c2, rfl, ⟨_, _, r1⟩, ⟨_, _, r2⟩⟩ := h
  have hpm : p.length ≤ maxLen := by have := okp.1; unfold maxLen; omega
  have HB := Lib.hid (fun o : Obj => (Below.refl w.heap.size w).alloc (Nat.le_refl _) o)
  have C := Lib.hid (fun (W : World) (hW : Below w.heap.size w W) => pathFault_any x A1 A2 c1 c2 B p.length p.length p W S S2 (r1.keep (SameOn.of_below hW hS)) (r2.keep (SameOn.of_below hW hS)) (hp.keep (SameOn.of_below hW hS2)) rfl hpm (Nat.le_refl _) (fun b hb => Nat.lt_of_lt_of_le (hS b hb) hW.size) (fun b hb => Nat.lt_of_lt_of_le (hS2 b hb) hW.size) ok (ht.below hW))
  have CL := Lib.hid (fun (hv : ltB x = true) (hr : rngB x p = true) (W : World) (hW : Below w.heap.size w W) (q : Nat) (y2 : W.cell? ⟨q, 2, none⟩ = some (.slice A1 x.ls.length c1)) (y3 : W.cell? ⟨q, 3, none⟩ = some (.slice A2 x.es.length c2)) => mapLab_any x q A1 A2 c1 c2 B p.length p.length p W S S2 y2 y3 (r1.keep (SameOn.of_below hW hS)) (r2.keep (SameOn.of_below hW hS)) (hp.keep (SameOn.of_below hW hS2)) (fun b hb => Nat.lt_of_lt_of_le (hS b hb) hW.size) (fun b hb => Nat.lt_of_lt_of_le (hS2 b hb) hW.size) rfl okp.1 hv hr ok)
  clear r1 r2 hS ok hp hS2 okp ht
  go_enter Tryz.func14, Tryz.ntmps14
  go_wp2_with fail
  refine (C.out _ (HB.out _)).mono ?_
  rintro e w2 ⟨rfl, hb2⟩
  have hs2 := hb2.size
  simp at hs2
  obtain ⟨hcc, _⟩ := bcell hb2
  have HB2 := Lib.hid ((HB.out _).trans (hb2.mono (HB.out _).size))
  have y2 : w2.cell? ⟨w.heap.size, 2, none⟩ = some (.slice A1 x.ls.length c1) := (hcc _ _ (by simp)).trans (by simp [go_sem])
  have y3 : w2.cell? ⟨w.heap.size, 3, none⟩ = some (.slice A2 x.es.length c2) := (hcc _ _ (by simp)).trans (by simp [go_sem])
  clear hb2 hcc
  by_cases hc : pathC x p = 0
  · have hne : (pathC x p != 0) = false := by simp [hc]
    have HC := Lib.hid hc
    have HG := Lib.hid (labR_ok hc)
    have C3 := Lib.hid (CL.out (pathC_parts hc).1 (pathC_parts hc).2 w2 HB2.out w.heap.size y2 y3)
    have HS3 := Lib.hid HB2.out.size
    clear hc y2 y3
    go_wp2_with (go_at_call 32; refine (C3.out).mono ?_; rintro e w4 ⟨rfl, hO, hb4⟩; have HB4 := Lib.hid (HB2.out.trans (hb4.mono HB2.out.size)); have HO := Lib.hid (hO.more (S' := In w.heap.size w4.heap.size) (fun b hb => ⟨Nat.le_trans HS3.out hb.1, hb.2⟩)); clear hb4 hO)
    go_ret2
    exact ⟨_, _, by (rw [HG.out, HC.out]; rfl), by rw [HG.out]; exact HO.out, HB4.out⟩
  · have hne : (pathC x p != 0) = true := by simp [hc]
    have HG := Lib.hid (labR_no hc)
    clear hc y2 y3
    go_wp2
    go_ret2
    exact ⟨none, 0, by rw [HG.out]; rfl, by rw [HG.out]; exact OL.nil, HB2.out⟩
end Go.Proofs.YtfmnanaeegfgdaaGreatDoor
