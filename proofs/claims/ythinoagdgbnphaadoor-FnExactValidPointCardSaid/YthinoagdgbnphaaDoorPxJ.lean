/- A whole body: the program's look at it. -/
import Derived.Test.YthinoagdgbnphaaDoorPxI
import Derived.Deep.RegionHeld3
namespace Go.Proofs.YthinoagdgbnphaaDoor
open Go.RowKit
def psB (d : Df) : Bool := decide (0 ≤ d.ps) && decide (d.ps ≤ 3)
theorem implParams_any (d : Df) (E : Option Addr) (ce : Nat) (w : World) :
    Calls Tryd.prog 45 #[.agg #[.string d.nm, .int .i64 d.ps, .slice E d.body.length ce]] w fun e w' => e = .returned (.bool (psB d)) ∧ Below w.heap.size w w' := by
  by_cases h0 : 0 ≤ d.ps
  · by_cases h3 : d.ps ≤ 3
    · have HF := Lib.hid (show psB d = true by unfold psB; simp [h0, h3])
      go_enter Tryd.func45, Tryd.ntmps45
      go_wp2
      go_ret
      exact ⟨by rw [HF.out]; rfl, (by repeat (first | exact Below.refl _ _ | refine Below.setCell ?_ (by simp) _ | refine Below.alloc ?_ (by simp <;> omega) _))⟩
    · have HF := Lib.hid (show psB d = false by unfold psB; simp [h3])
      go_enter Tryd.func45, Tryd.ntmps45
      go_wp2
      go_ret
      exact ⟨by rw [HF.out]; rfl, (by repeat (first | exact Below.refl _ _ | refine Below.setCell ?_ (by simp) _ | refine Below.alloc ?_ (by simp <;> omega) _))⟩
  · have HF := Lib.hid (show psB d = false by unfold psB; simp [h0])
    go_enter Tryd.func45, Tryd.ntmps45
    go_wp2
    go_ret
    exact ⟨by rw [HF.out]; rfl, (by repeat (first | exact Below.refl _ _ | refine Below.setCell ?_ (by simp) _ | refine Below.alloc ?_ (by simp <;> omega) _))⟩
theorem shape_pf {es : List Pt} (h : es.length ≤ 20) : shapeB es = (pf es 1 0 == (es.length : Int)) := by
  have h1 := nd_pf es 1 0 (by omega) (by omega)
  unfold shapeB
  rw [decide_eq_true h, Bool.true_and]
  rcases e : nd es 1 with _ | _
  · symm
    rw [e] at h1
    refine ib_ne fun hp => ?_
    have hne : es ≠ [] := by intro hn; rw [hn] at hp; simp [pf] at hp
    exact absurd (h1.2 ⟨hne, by omega⟩) (by simp)
  · symm
    exact ib_eq (by have := (h1.1 e).2; omega)
set_option maxRecDepth 100000 in
set_option maxHeartbeats 8000000 in
theorem implShape_any (d : Df) (E : Option Addr) (ce : Nat) (w : World) (S : Nat → Prop) (h : LRow ptR w S E d.body) (hS : ∀ b, S b → b < w.heap.size) (ht : FormTab w) :
    Calls Tryd.prog 46 #[.agg #[.string d.nm, .int .i64 d.ps, .slice E d.body.length ce]] w fun e w' => e = .returned (.bool (shapeB d.body)) ∧ Below w.heap.size w w' := by
  by_cases h20 : d.body.length ≤ 20
  · have HF := Lib.hid (shape_pf h20)
    have C := Lib.hid (fun (W : World) (hW : Below w.heap.size w W) => Calls.mono (implEnd_any E d.body.length ce d.body W S (h.keep (SameOn.of_below hW hS)) rfl (fun b hb => Nat.lt_of_lt_of_le (hS b hb) hW.size) h20 (FormTab.below ht hW)) (fun e w' ⟨he, hb⟩ => (⟨he, hb⟩ : e = Ending.returned (.int .i64 (pf d.body 1 0)) ∧ Below W.heap.size W w')))
    clear h hS ht
    rcases tb : (pf d.body 1 0 == (d.body.length : Int)) with _ | _
    · rw [tb] at HF
      go_enter Tryd.func46, Tryd.ntmps46
      go_wp2
      obtain ⟨v, hv⟩ : ∃ v, v = w.alloc (.cells #[.string d.nm, .int .i64 d.ps, .slice E d.body.length ce] 46) := ⟨_, rfl⟩
      rw [← hv]
      have hB0 : Below w.heap.size w v := by rw [hv]; exact (Below.refl _ _).alloc (Nat.le_refl _) _
      have k2 : v.cell? ⟨w.heap.size, 2, none⟩ = some (.slice E d.body.length ce) := by rw [hv]; simp [go_sem]
      have hl : w.heap.size < v.heap.size := by rw [hv]; simp
      clear hv
      have HB0 := Lib.hid hB0
      have HV := Lib.hid (Below.refl v.heap.size v)
      have HS2 := Lib.hid (fun (W : World) (hW : Below v.heap.size v W) => (⟨hW, (hW.cell (p := ⟨w.heap.size, 2, none⟩) hl).trans k2⟩ : Below v.heap.size v W ∧ W.cell? ⟨w.heap.size, 2, none⟩ = some (.slice E d.body.length ce)))
      have C := Lib.hid (fun (W : World) (hW : Below v.heap.size v W) => Calls.mono (C.out W (HB0.out.trans (hW.mono HB0.out.size))) (fun e w' ⟨he, hb⟩ => (⟨he, hW.trans (Below.mono hb hW.size)⟩ : e = Ending.returned (.int .i64 (pf d.body 1 0)) ∧ Below v.heap.size v w')))
      have h20i : (d.body.length : Int) ≤ 20 := by omega
      clear hB0 HS2
      go_region_with (go_at_call 57; refine (C.out _ (by first | exact HV.out | exact HV.out.drew)).mono ?_; rintro e v2 ⟨rfl, hb⟩; have k2 := (hb.cell (p := ⟨w.heap.size, 2, none⟩) hl).trans k2; have HV := Lib.hid hb; clear hb)
      all_goals
        go_wp2
        go_ret
        exact ⟨by rw [HF.out]; rfl, HB0.out.trans (HV.out.mono HB0.out.size)⟩
    · rw [tb] at HF
      go_enter Tryd.func46, Tryd.ntmps46
      go_wp2
      obtain ⟨v, hv⟩ : ∃ v, v = w.alloc (.cells #[.string d.nm, .int .i64 d.ps, .slice E d.body.length ce] 46) := ⟨_, rfl⟩
      rw [← hv]
      have hB0 : Below w.heap.size w v := by rw [hv]; exact (Below.refl _ _).alloc (Nat.le_refl _) _
      have k2 : v.cell? ⟨w.heap.size, 2, none⟩ = some (.slice E d.body.length ce) := by rw [hv]; simp [go_sem]
      have hl : w.heap.size < v.heap.size := by rw [hv]; simp
      clear hv
      have HB0 := Lib.hid hB0
      have HV := Lib.hid (Below.refl v.heap.size v)
      have HS2 := Lib.hid (fun (W : World) (hW : Below v.heap.size v W) => (⟨hW, (hW.cell (p := ⟨w.heap.size, 2, none⟩) hl).trans k2⟩ : Below v.heap.size v W ∧ W.cell? ⟨w.heap.size, 2, none⟩ = some (.slice E d.body.length ce)))
      have C := Lib.hid (fun (W : World) (hW : Below v.heap.size v W) => Calls.mono (C.out W (HB0.out.trans (hW.mono HB0.out.size))) (fun e w' ⟨he, hb⟩ => (⟨he, hW.trans (Below.mono hb hW.size)⟩ : e = Ending.returned (.int .i64 (pf d.body 1 0)) ∧ Below v.heap.size v w')))
      have h20i : (d.body.length : Int) ≤ 20 := by omega
      clear hB0 HS2
      go_region_with (go_at_call 57; refine (C.out _ (by first | exact HV.out | exact HV.out.drew)).mono ?_; rintro e v2 ⟨rfl, hb⟩; have k2 := (hb.cell (p := ⟨w.heap.size, 2, none⟩) hl).trans k2; have HV := Lib.hid hb; clear hb)
      all_goals
        go_wp2
        go_ret
        exact ⟨by rw [HF.out]; rfl, HB0.out.trans (HV.out.mono HB0.out.size)⟩
  · have HF := Lib.hid (show shapeB d.body = false by unfold shapeB; rw [decide_eq_false h20]; rfl)
    clear h hS ht
    go_enter Tryd.func46, Tryd.ntmps46
    have h20i : ((d.body.length : Int) ≤ 20) = False := eq_false (by omega)
    have h20d : decide ((d.body.length : Int) ≤ 20) = false := decide_eq_false (by omega)
    clear h20
    go_wp2
    go_region
    all_goals
      go_wp2
      go_ret
      exact ⟨by rw [HF.out]; rfl, by repeat (first | exact Below.refl _ _ | refine Below.drew ?_ | refine Below.alloc ?_ (by simp <;> omega) _)⟩
def idxB (k : Int) (n : Nat) : Bool := decide (0 ≤ k) && decide (k < n)
theorem implIndex_any (k : Int) (n : Nat) (w : World) (_ : n ≤ 1048576) :
    Calls Tryd.prog 31 #[.int .i64 k, .int .i64 n] w fun e w' => e = .returned (.bool (idxB k n)) ∧ Below w.heap.size w w' := by
  by_cases h0 : 0 ≤ k
  · by_cases h1 : k < n
    · have HF := Lib.hid (show idxB k n = true by unfold idxB; simp [h0, h1])
      go_enter Tryd.func31, Tryd.ntmps31
      go_wp2
      go_ret
      exact ⟨by rw [HF.out]; rfl, (by repeat (first | exact Below.refl _ _ | refine Below.setCell ?_ (by simp) _ | refine Below.alloc ?_ (by simp <;> omega) _))⟩
    · have HF := Lib.hid (show idxB k n = false by unfold idxB; simp [h1])
      go_enter Tryd.func31, Tryd.ntmps31
      go_wp2
      go_ret
      exact ⟨by rw [HF.out]; rfl, (by repeat (first | exact Below.refl _ _ | refine Below.setCell ?_ (by simp) _ | refine Below.alloc ?_ (by simp <;> omega) _))⟩
  · have HF := Lib.hid (show idxB k n = false by unfold idxB; simp [h0])
    go_enter Tryd.func31, Tryd.ntmps31
    go_wp2
    go_ret
    exact ⟨by rw [HF.out]; rfl, (by repeat (first | exact Below.refl _ _ | refine Below.setCell ?_ (by simp) _ | refine Below.alloc ?_ (by simp <;> omega) _))⟩
end Go.Proofs.YthinoagdgbnphaaDoor
