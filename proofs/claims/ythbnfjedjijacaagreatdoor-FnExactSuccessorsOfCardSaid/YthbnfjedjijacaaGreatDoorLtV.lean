/- Valid transition systems: the program's function. -/
import Derived.Test.YthbnfjedjijacaaGreatDoorLtR
namespace Go.Proofs.YthbnfjedjijacaaGreatDoor
open Go.RowKit
set_option maxRecDepth 100000 in
set_option maxHeartbeats 4000000 in
theorem implValidC_any (x : Lt) (A1 A2 : Option Addr) (c1 c2 : Nat) (w : World) (S : Nat → Prop) (h1 : LRow txtR w S A1 x.ls) (h2 : LRow edR w S A2 x.es) (hS : ∀ b, S b → b < w.heap.size) (ok : okLt x) (ht : TxtTabs w) :
    Calls Tryz.prog 37 #[ltCells x A1 A2 c1 c2] w fun e w' => e = .returned (.bool (ltB x)) ∧ Below w.heap.size w w' := by
  have HB := Lib.hid (fun o : Obj => (Below.refl w.heap.size w).alloc (Nat.le_refl _) o)
  have m1 := ok.1.1
  have m2 := ok.2.1
  have CH := Lib.hid (fun (k : Int) (W : World) => hasState_any x.st x.ini k A1 A2 x.ls.length c1 x.es.length c2 W)
  by_cases g1 : 1 ≤ x.st
  case neg =>
    have HF := Lib.hid (ltB_st (x := x) (fun k => g1 k.1))
    clear h1 h2 hS ok ht
    go_enter Tryz.func37, Tryz.ntmps37
    go_wp2
    go_ret
    exact ⟨by rw [HF.out]; rfl, HB.out _⟩
  by_cases g2 : x.st ≤ 40
  case neg =>
    have HF := Lib.hid (ltB_st (x := x) (fun k => g2 k.2))
    clear h1 h2 hS ok ht
    go_enter Tryz.func37, Tryz.ntmps37
    go_wp2
    go_ret
    exact ⟨by rw [HF.out]; rfl, HB.out _⟩
  by_cases g3 : 0 ≤ x.ini ∧ x.ini < x.st
  case neg =>
    have HF := Lib.hid (ltB_ini (x := x) g3)
    have G3 := Lib.hid (idxI_no g3)
    clear h1 h2 hS ok ht g3
    go_enter Tryz.func37, Tryz.ntmps37
    go_wp2_with (go_at_call 70; refine (CH.out _ _).mono ?_; rw [G3.out]; rintro r w2 ⟨rfl, hb2⟩; have HB2 := Lib.hid ((HB.out _).trans (hb2.mono (HB.out _).size)); clear hb2)
    go_ret
    exact ⟨by rw [HF.out]; rfl, HB2.out⟩
  have G3 := Lib.hid (idxI_yes g3)
  have CL := Lib.hid (fun (W : World) (hW : Below w.heap.size w W) => areLabels_any A1 x.ls.length c1 x.ls W S (h1.keep (SameOn.of_below hW hS)) rfl m1 (fun b hb => Nat.lt_of_lt_of_le (hS b hb) hW.size) ok.1.2 (ht.below hW))
  rcases g4 : lsOk x.ls with _ | _
  · have HF := Lib.hid (ltB_ls g4)
    have G4 := Lib.hid g4
    clear h1 h2 hS ok ht g3 g4
    go_enter Tryz.func37, Tryz.ntmps37
    go_wp2_with fail
    refine (CH.out _ _).mono ?_
    rw [G3.out]
    rintro r w2 ⟨rfl, hb2⟩
    have hs2 := hb2.size
    simp at hs2
    obtain ⟨hcc, _⟩ := bcell hb2
    have HB2 := Lib.hid ((HB.out _).trans (hb2.mono (HB.out _).size))
    have y2 : w2.cell? ⟨w.heap.size, 2, none⟩ = some (.slice A1 x.ls.length c1) := (hcc _ _ (by simp)).trans (by simp [go_sem])
    have hp : w.heap.size < w2.heap.size := by omega
    clear hb2 hcc
    go_wp2_with fail
    refine (CL.out _ HB2.out).mono ?_
    rw [G4.out]
    rintro r w3 ⟨rfl, hb3⟩
    have HB3 := Lib.hid (HB2.out.trans (hb3.mono HB2.out.size))
    clear hb3
    go_wp2
    go_ret
    exact ⟨by rw [HF.out]; rfl, HB3.out⟩
  have G4 := Lib.hid g4
  have CI := Lib.hid (fun (W : World) (hW : Below w.heap.size w W) => incEd_any A2 x.es.length c2 x.es W S (h2.keep (SameOn.of_below hW hS)) rfl m2 (fun b hb => Nat.lt_of_lt_of_le (hS b hb) hW.size))
  have CE := Lib.hid (fun (W : World) (hW : Below w.heap.size w W) => conEd_any x.st x.ini A1 A2 x.ls.length c1 x.es.length c2 A2 x.es.length c2 x.es W S (h2.keep (SameOn.of_below hW hS)) rfl m2 (fun b hb => Nat.lt_of_lt_of_le (hS b hb) hW.size))
  have HF := Lib.hid (show ltB x = (decide (x.es.length ≤ 300) && (inc cmE x.es && x.es.all (inE x.st x.ls.length))) by
    unfold ltB; rw [decide_eq_true ⟨g1, g2⟩, decide_eq_true g3, g4]; rfl)
  clear h1 h2 hS ok ht g3 g4
  go_enter Tryz.func37, Tryz.ntmps37
  go_wp2_with fail
  refine (CH.out _ _).mono ?_
  rw [G3.out]
  rintro r w2 ⟨rfl, hb2⟩
  have hs2 := hb2.size
  simp at hs2
  obtain ⟨hcc, _⟩ := bcell hb2
  have HB2 := Lib.hid ((HB.out _).trans (hb2.mono (HB.out _).size))
  have y0 : w2.cell? ⟨w.heap.size, 0, none⟩ = some (.int .i64 x.st) := (hcc _ _ (by simp)).trans (by simp [go_sem])
  have y1 : w2.cell? ⟨w.heap.size, 1, none⟩ = some (.int .i64 x.ini) := (hcc _ _ (by simp)).trans (by simp [go_sem])
  have y2 : w2.cell? ⟨w.heap.size, 2, none⟩ = some (.slice A1 x.ls.length c1) := (hcc _ _ (by simp)).trans (by simp [go_sem])
  have y3 : w2.cell? ⟨w.heap.size, 3, none⟩ = some (.slice A2 x.es.length c2) := (hcc _ _ (by simp)).trans (by simp [go_sem])
  have hp : w.heap.size < w2.heap.size := by omega
  clear hb2 hcc hs2
  go_wp2_with fail
  refine (CL.out _ HB2.out).mono ?_
  rw [G4.out]
  rintro r w3 ⟨rfl, hb3⟩
  have HB3 := Lib.hid (HB2.out.trans (hb3.mono HB2.out.size))
  have z0 := (hb3.cell (p := ⟨w.heap.size, 0, none⟩) hp).trans y0
  have z1 := (hb3.cell (p := ⟨w.heap.size, 1, none⟩) hp).trans y1
  have z2 := (hb3.cell (p := ⟨w.heap.size, 2, none⟩) hp).trans y2
  have z3 := (hb3.cell (p := ⟨w.heap.size, 3, none⟩) hp).trans y3
  have hp3 : w.heap.size < w3.heap.size := Nat.lt_of_lt_of_le hp hb3.size
  clear hb3 y0 y1 y2 y3
  by_cases g5 : x.es.length ≤ 300
  case neg =>
    have HG := Lib.hid (show (decide (x.es.length ≤ 300) && (inc cmE x.es && x.es.all (inE x.st x.ls.length))) = false by rw [decide_eq_false g5]; rfl)
    have g5' : ¬ ((x.es.length : Int) ≤ 300) := by omega
    go_wp2
    go_ret
    exact ⟨by rw [HF.out, HG.out]; rfl, HB3.out⟩
  have HG := Lib.hid (show (decide (x.es.length ≤ 300) && (inc cmE x.es && x.es.all (inE x.st x.ls.length))) = (inc cmE x.es && x.es.all (inE x.st x.ls.length)) by rw [decide_eq_true g5]; rfl)
  have g5' : (x.es.length : Int) ≤ 300 := by omega
  go_wp2_with fail
  refine (CI.out _ HB3.out).mono ?_
  rintro r w4 ⟨rfl, hb4⟩
  have HB4 := Lib.hid (HB3.out.trans (hb4.mono HB3.out.size))
  have u0 := (hb4.cell (p := ⟨w.heap.size, 0, none⟩) hp3).trans z0
  have u1 := (hb4.cell (p := ⟨w.heap.size, 1, none⟩) hp3).trans z1
  have u2 := (hb4.cell (p := ⟨w.heap.size, 2, none⟩) hp3).trans z2
  have u3 := (hb4.cell (p := ⟨w.heap.size, 3, none⟩) hp3).trans z3
  have hp4 : w.heap.size < w4.heap.size := Nat.lt_of_lt_of_le hp3 hb4.size
  clear hb4 z0 z1 z2 z3
  rcases g6 : inc cmE x.es with _ | _
  · have HH := Lib.hid (show (inc cmE x.es && x.es.all (inE x.st x.ls.length)) = false by rw [g6]; rfl)
    clear g6
    go_wp2
    go_ret
    exact ⟨by rw [HF.out, HG.out, HH.out]; rfl, HB4.out⟩
  · have HH := Lib.hid (show (inc cmE x.es && x.es.all (inE x.st x.ls.length)) = x.es.all (inE x.st x.ls.length) by rw [g6]; rfl)
    clear g6
    go_wp2_with fail
    refine (CE.out _ HB4.out).mono ?_
    rintro r w5 ⟨rfl, hb5⟩
    have HB5 := Lib.hid (HB4.out.trans (hb5.mono HB4.out.size))
    clear hb5
    go_wp2
    go_ret
    exact ⟨by rw [HF.out, HG.out, HH.out]; simp, HB5.out⟩
theorem implValid_any {x : Lt} {cs : List Value} {w : World} {S : Nat → Prop} (h : ltR.R w S x cs) (hS : ∀ b, S b → b < w.heap.size) (ok : okLt x) (ht : TxtTabs w) :
    Calls Tryz.prog 37 #[.agg cs.toArray] w fun e w' => e = .returned (.bool (ltB x)) ∧ Below w.heap.size w w' := by
  obtain ⟨A1, c1, A2, c2, rfl, ⟨_, _, r1⟩, ⟨_, _, r2⟩⟩ := h
  exact implValidC_any x A1 A2 c1 c2 w S r1 r2 hS ok ht
end Go.Proofs.YthbnfjedjijacaaGreatDoor
