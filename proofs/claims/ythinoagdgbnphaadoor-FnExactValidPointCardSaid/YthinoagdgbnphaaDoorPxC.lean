/- The fields of a part: the program's functions, numbers, counts, terms. -/
import Derived.Test.YthinoagdgbnphaaDoorPxB
import Derived.Test.YthinoagdgbnphaaDoorPxX
import Derived.Test.YthinoagdgbnphaaDoorTmI
namespace Go.Proofs.YthinoagdgbnphaaDoor
open Go.RowKit
set_option maxRecDepth 100000 in
set_option maxHeartbeats 1600000 in
theorem implHasNumber_any (x : Pt) (E : Option Addr) (ce : Nat) (A : Option Addr) (c : Nat) (ls : List Df) (w : World) (_ : ls.length ≤ 4) :
    Calls Tryd.prog 61 #[.agg #[.int .i64 x.k, .int .i64 x.n, .string x.nm, .slice E x.args.length ce], .slice A ls.length c] w fun e w' => e = .returned (.bool (numB ls x)) ∧ Below w.heap.size w w' := by
  by_cases h4 : x.k = 4
  · by_cases h1 : 1 ≤ x.n
    · by_cases h7 : x.n ≤ 7
      · have HF := Lib.hid (show numB ls x = true by unfold numB; rw [if_pos h4]; exact decide_eq_true ⟨h1, h7⟩)
        go_enter Tryd.func61, Tryd.ntmps61
        go_wp2
        go_ret
        exact ⟨ret_bool HF.out.symm, by repeat (first | exact Below.refl _ _ | refine Below.setCell ?_ (by simp) _ | refine Below.alloc ?_ (by simp <;> omega) _)⟩
      · have HF := Lib.hid (show numB ls x = false by unfold numB; rw [if_pos h4]; exact decide_eq_false (fun h => h7 h.2))
        go_enter Tryd.func61, Tryd.ntmps61
        go_wp2
        go_ret
        exact ⟨ret_bool HF.out.symm, by repeat (first | exact Below.refl _ _ | refine Below.setCell ?_ (by simp) _ | refine Below.alloc ?_ (by simp <;> omega) _)⟩
    · have HF := Lib.hid (show numB ls x = false by unfold numB; rw [if_pos h4]; exact decide_eq_false (fun h => h1 h.1))
      go_enter Tryd.func61, Tryd.ntmps61
      go_wp2
      go_ret
      exact ⟨ret_bool HF.out.symm, by repeat (first | exact Below.refl _ _ | refine Below.setCell ?_ (by simp) _ | refine Below.alloc ?_ (by simp <;> omega) _)⟩
  by_cases h5 : x.k = 5
  · by_cases h1 : 0 ≤ x.n
    · by_cases h7 : x.n < ls.length
      · have HF := Lib.hid (show numB ls x = true by unfold numB; rw [if_neg h4, if_pos h5]; exact decide_eq_true ⟨h1, h7⟩)
        clear h4
        go_enter Tryd.func61, Tryd.ntmps61
        go_wp2
        go_ret
        exact ⟨ret_bool HF.out.symm, by repeat (first | exact Below.refl _ _ | refine Below.setCell ?_ (by simp) _ | refine Below.alloc ?_ (by simp <;> omega) _)⟩
      · have HF := Lib.hid (show numB ls x = false by unfold numB; rw [if_neg h4, if_pos h5]; exact decide_eq_false (fun h => h7 h.2))
        clear h4
        go_enter Tryd.func61, Tryd.ntmps61
        go_wp2
        go_ret
        exact ⟨ret_bool HF.out.symm, by repeat (first | exact Below.refl _ _ | refine Below.setCell ?_ (by simp) _ | refine Below.alloc ?_ (by simp <;> omega) _)⟩
    · have HF := Lib.hid (show numB ls x = false by unfold numB; rw [if_neg h4, if_pos h5]; exact decide_eq_false (fun h => h1 h.1))
      clear h4
      go_enter Tryd.func61, Tryd.ntmps61
      go_wp2
      go_ret
      exact ⟨ret_bool HF.out.symm, by repeat (first | exact Below.refl _ _ | refine Below.setCell ?_ (by simp) _ | refine Below.alloc ?_ (by simp <;> omega) _)⟩
  have HF := Lib.hid (show numB ls x = true by unfold numB; rw [if_neg h4, if_neg h5])
  have e4 : (x.k == 4) = false := ib_ne h4
  have e5 : (x.k == 5) = false := ib_ne h5
  clear h4 h5
  go_enter Tryd.func61, Tryd.ntmps61
  go_wp2
  go_ret
  exact ⟨ret_bool HF.out.symm, by repeat (first | exact Below.refl _ _ | refine Below.setCell ?_ (by simp) _ | refine Below.alloc ?_ (by simp <;> omega) _)⟩
set_option maxRecDepth 100000 in
set_option maxHeartbeats 1600000 in
theorem implHasCount_any (x : Pt) (E : Option Addr) (ce : Nat) (A : Option Addr) (c : Nat) (ls : List Df) (w : World) (S : Nat → Prop) (_ : ls.length ≤ 4) (h : LRow dfR w S A ls) (hS : ∀ b, S b → b < w.heap.size) (hnum : numB ls x = true) :
    Calls Tryd.prog 62 #[.agg #[.int .i64 x.k, .int .i64 x.n, .string x.nm, .slice E x.args.length ce], .slice A ls.length c] w fun e w' => e = .returned (.bool (cntB ls x)) ∧ Below w.heap.size w w' := by
  have hln : ((x.args.length : Int) == 0) = (x.args.length == 0) := by
    rcases Nat.eq_zero_or_pos x.args.length with e | e
    · rw [e]; rfl
    · have h1 : ((x.args.length : Int) == 0) = false := ib_ne (by omega)
      have h2 : (x.args.length == 0) = false := by simp; intro h; rw [h] at e; simp at e
      rw [h1, h2]
  by_cases h1 : x.k = 1
  · rcases ta : (x.args.length == 0) with _ | _
    · rw [ta] at hln
      rcases tt : (x.nm.toList == [116, 97, 117]) with _ | _
      · have tt' : (!(x.nm.toList == [116, 97, 117])) = true := by rw [tt]; rfl
        by_cases h2 : (x.args.length : Int) ≤ 2
        · have HF := Lib.hid (show cntB ls x = true by unfold cntB; rw [if_pos h1, ta, tt, decide_eq_true (by omega)]; rfl)
          clear h hnum ta
          go_enter Tryd.func62, Tryd.ntmps62
          go_wp2
          go_ret
          exact ⟨ret_bool HF.out.symm, by repeat (first | exact Below.refl _ _ | refine Below.setCell ?_ (by simp) _ | refine Below.alloc ?_ (by simp <;> omega) _)⟩
        · have HF := Lib.hid (show cntB ls x = false by unfold cntB; rw [if_pos h1, ta, tt, decide_eq_false (by omega)]; rfl)
          clear h hnum ta
          go_enter Tryd.func62, Tryd.ntmps62
          go_wp2
          go_ret
          exact ⟨ret_bool HF.out.symm, by repeat (first | exact Below.refl _ _ | refine Below.setCell ?_ (by simp) _ | refine Below.alloc ?_ (by simp <;> omega) _)⟩
      · have HF := Lib.hid (show cntB ls x = false by unfold cntB; rw [if_pos h1, ta, tt]; rfl)
        clear h hnum ta
        go_enter Tryd.func62, Tryd.ntmps62
        go_wp2
        go_ret
        exact ⟨ret_bool HF.out.symm, by repeat (first | exact Below.refl _ _ | refine Below.setCell ?_ (by simp) _ | refine Below.alloc ?_ (by simp <;> omega) _)⟩
    · rw [ta] at hln
      have HF := Lib.hid (show cntB ls x = true by unfold cntB; rw [if_pos h1, ta]; rfl)
      clear h hnum ta
      go_enter Tryd.func62, Tryd.ntmps62
      go_wp2
      go_ret
      exact ⟨ret_bool HF.out.symm, by repeat (first | exact Below.refl _ _ | refine Below.setCell ?_ (by simp) _ | refine Below.alloc ?_ (by simp <;> omega) _)⟩
  by_cases h3 : x.k = 3
  · rcases ta : (x.args.length == 1) with _ | _
    · have g1 : ((x.args.length : Int) == 1) = false := ib_ne (by
          intro e
          have e2 : x.args.length = 1 := by omega
          have e3 : (x.args.length == 1) = true := by rw [e2]; rfl
          rw [ta] at e3; cases e3)
      have HF := Lib.hid (show cntB ls x = false by unfold cntB; rw [if_neg h1, if_pos h3, ta])
      clear h hnum ta hln h1
      go_enter Tryd.func62, Tryd.ntmps62
      go_wp2
      go_ret
      exact ⟨ret_bool HF.out.symm, by repeat (first | exact Below.refl _ _ | refine Below.setCell ?_ (by simp) _ | refine Below.alloc ?_ (by simp <;> omega) _)⟩
    · have g1 : ((x.args.length : Int) == 1) = true := ib_eq (by have := eq_of_beq ta; omega)
      have HF := Lib.hid (show cntB ls x = true by unfold cntB; rw [if_neg h1, if_pos h3, ta])
      clear h hnum ta hln h1
      go_enter Tryd.func62, Tryd.ntmps62
      go_wp2
      go_ret
      exact ⟨ret_bool HF.out.symm, by repeat (first | exact Below.refl _ _ | refine Below.setCell ?_ (by simp) _ | refine Below.alloc ?_ (by simp <;> omega) _)⟩
  by_cases h5 : x.k = 5
  · have hb : 0 ≤ x.n ∧ x.n < ls.length := by unfold numB at hnum; rw [if_neg (by omega), if_pos h5] at hnum; exact of_decide_eq_true hnum
    obtain ⟨kn, hkn⟩ : ∃ kn : Nat, x.n = kn := ⟨x.n.toNat, by omega⟩
    obtain ⟨b2, o2, cs2, x2, rfl, hb2, hR2, hx2, hc2⟩ := h.at_ (k := kn) (by omega)
    obtain ⟨E2, ce2, rfl, hz2, hlc2, hcm2, hr2⟩ := hR2
    have l1 : w.cell? ⟨b2, o2 + kn * 3 + 1, none⟩ = some (.int .i64 x2.ps) := hc2 1 _ rfl
    have hb2w := hS b2 hb2
    have hgd : ls.getD x.n.toNat default = x2 := by rw [hkn, Int.toNat_natCast, List.getD_eq_getElem?_getD, hx2.out]; rfl
    have hkl : kn < ls.length := (List.getElem?_eq_some_iff.1 hx2.out).1
    rcases tc : ((x.args.length : Int) == x2.ps) with _ | _
    · have HF := Lib.hid (show cntB ls x = false by unfold cntB; rw [if_neg h1, if_neg h3, if_pos h5, hgd]; exact decide_eq_false (by simpa using tc))
      clear h hnum hln h1 h3 hc2 hr2 hlc2 hcm2 hz2 hgd hb
      go_enter Tryd.func62, Tryd.ntmps62
      go_wp2
      go_ret
      exact ⟨ret_bool HF.out.symm, by repeat (first | exact Below.refl _ _ | refine Below.setCell ?_ (by simp) _ | refine Below.alloc ?_ (by simp <;> omega) _)⟩
    · have HF := Lib.hid (show cntB ls x = true by unfold cntB; rw [if_neg h1, if_neg h3, if_pos h5, hgd]; exact decide_eq_true (by simpa using tc))
      clear h hnum hln h1 h3 hc2 hr2 hlc2 hcm2 hz2 hgd hb
      go_enter Tryd.func62, Tryd.ntmps62
      go_wp2
      go_ret
      exact ⟨ret_bool HF.out.symm, by repeat (first | exact Below.refl _ _ | refine Below.setCell ?_ (by simp) _ | refine Below.alloc ?_ (by simp <;> omega) _)⟩
  have HF := Lib.hid (show cntB ls x = true by unfold cntB; rw [if_neg h1, if_neg h3, if_neg h5])
  have e1 : (x.k == 1) = false := ib_ne h1
  have e3 : (x.k == 3) = false := ib_ne h3
  have e5 : (x.k == 5) = false := ib_ne h5
  clear h1 h3 h5 h hnum hln
  go_enter Tryd.func62, Tryd.ntmps62
  go_wp2
  go_ret
  exact ⟨ret_bool HF.out.symm, by repeat (first | exact Below.refl _ _ | refine Below.setCell ?_ (by simp) _ | refine Below.alloc ?_ (by simp <;> omega) _)⟩
end Go.Proofs.YthinoagdgbnphaaDoor
