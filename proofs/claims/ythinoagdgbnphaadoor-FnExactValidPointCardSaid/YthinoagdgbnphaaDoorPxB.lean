/- The fields of a part: the program's functions. -/
import Derived.Test.YthinoagdgbnphaaDoorPxA
import Derived.Test.YthinoagdgbnphaaDoorPxU
import Derived.Test.YthinoagdgbnphaaDoorName
namespace Go.Proofs.YthinoagdgbnphaaDoor
open Go.RowKit
set_option maxRecDepth 100000 in
set_option maxHeartbeats 4000000 in
theorem implLeaves_any (x : Pt) (E : Option Addr) (ce : Nat) (w : World) (ht : FormTab w) (hkn : 0 ≤ x.k ∧ x.k ≤ 5) :
    Calls Tryd.prog 59 #[.agg #[.int .i64 x.k, .int .i64 x.n, .string x.nm, .slice E x.args.length ce]] w fun e w' => e = .returned (.bool (kindB x)) ∧ Below w.heap.size w w' := by
  obtain ⟨k, hk⟩ : ∃ k : Nat, x.k = k := ⟨x.k.toNat, by omega⟩
  have hem := em_list x.nm
  have hln : ((x.args.length : Int) == 0) = (x.args.length == 0) := by
    rcases Nat.eq_zero_or_pos x.args.length with e | e
    · rw [e]; rfl
    · have h1 : ((x.args.length : Int) == 0) = false := ib_ne (by omega)
      have h2 : (x.args.length == 0) = false := by simp; intro h; rw [h] at e; simp at e
      rw [h1, h2]
  obtain ⟨t1, t2, t3, t4⟩ := ht k (by omega)
  have hG : 0 < w.heap.size := World.block_lt_of_cell? w _ t4
  have hc : k = 0 ∨ k = 1 ∨ k = 2 ∨ k = 3 ∨ k = 4 ∨ k = 5 := by omega
  clear ht hkn
  rcases hc with rfl | rfl | rfl | rfl | rfl | rfl
  · have u1 : w.cell? ⟨0, 0, none⟩ = some (.bool false) := t1
    have u2 : w.cell? ⟨0, 1, none⟩ = some (.bool false) := t2
    have u3 : w.cell? ⟨0, 2, none⟩ = some (.bool false) := t3
    have u4 : w.cell? ⟨0, 3, none⟩ = some (.int .i64 0) := t4
    clear t1 t2 t3 t4
    have hk' : x.k = 0 := hk
    clear hk
    rcases tn : (x.n == 0) with _ | _
    · have HF := Lib.hid (show kindB x = false by unfold kindB; rw [hk']; simp [tn])
      go_enter Tryd.func59, Tryd.ntmps59
      go_wp2
      go_ret
      exact ⟨ret_bool HF.out.symm, by repeat (first | exact Below.refl _ _ | refine Below.setCell ?_ (by simp) _ | refine Below.alloc ?_ (by simp <;> omega) _)⟩
    rcases tm : (emB x.nm) with _ | _
    · have HF := Lib.hid (show kindB x = false by unfold kindB; rw [hk']; simp [tn, tm])
      rw [tm] at hem
      clear tm
      go_enter Tryd.func59, Tryd.ntmps59
      go_wp2
      go_ret
      exact ⟨ret_bool HF.out.symm, by repeat (first | exact Below.refl _ _ | refine Below.setCell ?_ (by simp) _ | refine Below.alloc ?_ (by simp <;> omega) _)⟩
    rw [tm] at hem
    rcases ta : (x.args.length == 0) with _ | _
    · have HF := Lib.hid (show kindB x = false by unfold kindB; rw [hk']; simp [tn, tm, ta])
      rw [ta] at hln
      clear ta
      go_enter Tryd.func59, Tryd.ntmps59
      go_wp2
      go_ret
      exact ⟨ret_bool HF.out.symm, by repeat (first | exact Below.refl _ _ | refine Below.setCell ?_ (by simp) _ | refine Below.alloc ?_ (by simp <;> omega) _)⟩
    rw [ta] at hln
    have HF := Lib.hid (show kindB x = true by unfold kindB; rw [hk']; simp [tn, tm, ta])
    clear tm ta
    go_enter Tryd.func59, Tryd.ntmps59
    go_wp2
    go_ret
    exact ⟨ret_bool HF.out.symm, by repeat (first | exact Below.refl _ _ | refine Below.setCell ?_ (by simp) _ | refine Below.alloc ?_ (by simp <;> omega) _)⟩
  · have u1 : w.cell? ⟨0, 4, none⟩ = some (.bool false) := t1
    have u2 : w.cell? ⟨0, 5, none⟩ = some (.bool true) := t2
    have u3 : w.cell? ⟨0, 6, none⟩ = some (.bool true) := t3
    have u4 : w.cell? ⟨0, 7, none⟩ = some (.int .i64 1) := t4
    clear t1 t2 t3 t4
    have hk' : x.k = 1 := hk
    clear hk
    rcases tn : (x.n == 0) with _ | _
    · have HF := Lib.hid (show kindB x = false by unfold kindB; rw [hk']; simp [tn])
      go_enter Tryd.func59, Tryd.ntmps59
      go_wp2
      go_ret
      exact ⟨ret_bool HF.out.symm, by repeat (first | exact Below.refl _ _ | refine Below.setCell ?_ (by simp) _ | refine Below.alloc ?_ (by simp <;> omega) _)⟩
    have HF := Lib.hid (show kindB x = true by unfold kindB; rw [hk']; simp [tn])
    go_enter Tryd.func59, Tryd.ntmps59
    go_wp2
    go_ret
    exact ⟨ret_bool HF.out.symm, by repeat (first | exact Below.refl _ _ | refine Below.setCell ?_ (by simp) _ | refine Below.alloc ?_ (by simp <;> omega) _)⟩
  · have u1 : w.cell? ⟨0, 8, none⟩ = some (.bool false) := t1
    have u2 : w.cell? ⟨0, 9, none⟩ = some (.bool false) := t2
    have u3 : w.cell? ⟨0, 10, none⟩ = some (.bool false) := t3
    have u4 : w.cell? ⟨0, 11, none⟩ = some (.int .i64 2) := t4
    clear t1 t2 t3 t4
    have hk' : x.k = 2 := hk
    clear hk
    rcases tn : (x.n == 0) with _ | _
    · have HF := Lib.hid (show kindB x = false by unfold kindB; rw [hk']; simp [tn])
      go_enter Tryd.func59, Tryd.ntmps59
      go_wp2
      go_ret
      exact ⟨ret_bool HF.out.symm, by repeat (first | exact Below.refl _ _ | refine Below.setCell ?_ (by simp) _ | refine Below.alloc ?_ (by simp <;> omega) _)⟩
    rcases tm : (emB x.nm) with _ | _
    · have HF := Lib.hid (show kindB x = false by unfold kindB; rw [hk']; simp [tn, tm])
      rw [tm] at hem
      clear tm
      go_enter Tryd.func59, Tryd.ntmps59
      go_wp2
      go_ret
      exact ⟨ret_bool HF.out.symm, by repeat (first | exact Below.refl _ _ | refine Below.setCell ?_ (by simp) _ | refine Below.alloc ?_ (by simp <;> omega) _)⟩
    rw [tm] at hem
    rcases ta : (x.args.length == 0) with _ | _
    · have HF := Lib.hid (show kindB x = false by unfold kindB; rw [hk']; simp [tn, tm, ta])
      rw [ta] at hln
      clear ta
      go_enter Tryd.func59, Tryd.ntmps59
      go_wp2
      go_ret
      exact ⟨ret_bool HF.out.symm, by repeat (first | exact Below.refl _ _ | refine Below.setCell ?_ (by simp) _ | refine Below.alloc ?_ (by simp <;> omega) _)⟩
    rw [ta] at hln
    have HF := Lib.hid (show kindB x = true by unfold kindB; rw [hk']; simp [tn, tm, ta])
    clear tm ta
    go_enter Tryd.func59, Tryd.ntmps59
    go_wp2
    go_ret
    exact ⟨ret_bool HF.out.symm, by repeat (first | exact Below.refl _ _ | refine Below.setCell ?_ (by simp) _ | refine Below.alloc ?_ (by simp <;> omega) _)⟩
  · have u1 : w.cell? ⟨0, 12, none⟩ = some (.bool false) := t1
    have u2 : w.cell? ⟨0, 13, none⟩ = some (.bool false) := t2
    have u3 : w.cell? ⟨0, 14, none⟩ = some (.bool true) := t3
    have u4 : w.cell? ⟨0, 15, none⟩ = some (.int .i64 1) := t4
    clear t1 t2 t3 t4
    have hk' : x.k = 3 := hk
    clear hk
    rcases tn : (x.n == 0) with _ | _
    · have HF := Lib.hid (show kindB x = false by unfold kindB; rw [hk']; simp [tn])
      go_enter Tryd.func59, Tryd.ntmps59
      go_wp2
      go_ret
      exact ⟨ret_bool HF.out.symm, by repeat (first | exact Below.refl _ _ | refine Below.setCell ?_ (by simp) _ | refine Below.alloc ?_ (by simp <;> omega) _)⟩
    rcases tm : (emB x.nm) with _ | _
    · have HF := Lib.hid (show kindB x = false by unfold kindB; rw [hk']; simp [tn, tm])
      rw [tm] at hem
      clear tm
      go_enter Tryd.func59, Tryd.ntmps59
      go_wp2
      go_ret
      exact ⟨ret_bool HF.out.symm, by repeat (first | exact Below.refl _ _ | refine Below.setCell ?_ (by simp) _ | refine Below.alloc ?_ (by simp <;> omega) _)⟩
    rw [tm] at hem
    have HF := Lib.hid (show kindB x = true by unfold kindB; rw [hk']; simp [tn, tm])
    clear tm
    go_enter Tryd.func59, Tryd.ntmps59
    go_wp2
    go_ret
    exact ⟨ret_bool HF.out.symm, by repeat (first | exact Below.refl _ _ | refine Below.setCell ?_ (by simp) _ | refine Below.alloc ?_ (by simp <;> omega) _)⟩
  · have u1 : w.cell? ⟨0, 16, none⟩ = some (.bool true) := t1
    have u2 : w.cell? ⟨0, 17, none⟩ = some (.bool false) := t2
    have u3 : w.cell? ⟨0, 18, none⟩ = some (.bool false) := t3
    have u4 : w.cell? ⟨0, 19, none⟩ = some (.int .i64 1) := t4
    clear t1 t2 t3 t4
    have hk' : x.k = 4 := hk
    clear hk
    rcases tm : (emB x.nm) with _ | _
    · have HF := Lib.hid (show kindB x = false by unfold kindB; rw [hk']; simp [tm])
      rw [tm] at hem
      clear tm
      go_enter Tryd.func59, Tryd.ntmps59
      go_wp2
      go_ret
      exact ⟨ret_bool HF.out.symm, by repeat (first | exact Below.refl _ _ | refine Below.setCell ?_ (by simp) _ | refine Below.alloc ?_ (by simp <;> omega) _)⟩
    rw [tm] at hem
    rcases ta : (x.args.length == 0) with _ | _
    · have HF := Lib.hid (show kindB x = false by unfold kindB; rw [hk']; simp [tm, ta])
      rw [ta] at hln
      clear ta
      go_enter Tryd.func59, Tryd.ntmps59
      go_wp2
      go_ret
      exact ⟨ret_bool HF.out.symm, by repeat (first | exact Below.refl _ _ | refine Below.setCell ?_ (by simp) _ | refine Below.alloc ?_ (by simp <;> omega) _)⟩
    rw [ta] at hln
    have HF := Lib.hid (show kindB x = true by unfold kindB; rw [hk']; simp [tm, ta])
    clear tm ta
    go_enter Tryd.func59, Tryd.ntmps59
    go_wp2
    go_ret
    exact ⟨ret_bool HF.out.symm, by repeat (first | exact Below.refl _ _ | refine Below.setCell ?_ (by simp) _ | refine Below.alloc ?_ (by simp <;> omega) _)⟩
  · have u1 : w.cell? ⟨0, 20, none⟩ = some (.bool true) := t1
    have u2 : w.cell? ⟨0, 21, none⟩ = some (.bool false) := t2
    have u3 : w.cell? ⟨0, 22, none⟩ = some (.bool true) := t3
    have u4 : w.cell? ⟨0, 23, none⟩ = some (.int .i64 0) := t4
    clear t1 t2 t3 t4
    have hk' : x.k = 5 := hk
    clear hk
    rcases tm : (emB x.nm) with _ | _
    · have HF := Lib.hid (show kindB x = false by unfold kindB; rw [hk']; simp [tm])
      rw [tm] at hem
      clear tm
      go_enter Tryd.func59, Tryd.ntmps59
      go_wp2
      go_ret
      exact ⟨ret_bool HF.out.symm, by repeat (first | exact Below.refl _ _ | refine Below.setCell ?_ (by simp) _ | refine Below.alloc ?_ (by simp <;> omega) _)⟩
    rw [tm] at hem
    have HF := Lib.hid (show kindB x = true by unfold kindB; rw [hk']; simp [tm])
    clear tm
    go_enter Tryd.func59, Tryd.ntmps59
    go_wp2
    go_ret
    exact ⟨ret_bool HF.out.symm, by repeat (first | exact Below.refl _ _ | refine Below.setCell ?_ (by simp) _ | refine Below.alloc ?_ (by simp <;> omega) _)⟩
set_option maxHeartbeats 1600000 in
theorem implHasName_any (x : Pt) (E : Option Addr) (ce : Nat) (w : World) :
    Calls Tryd.prog 60 #[.agg #[.int .i64 x.k, .int .i64 x.n, .string x.nm, .slice E x.args.length ce]] w fun e w' => e = .returned (.bool (nmB x)) ∧ Below w.heap.size w w' := by
  have CN := Lib.hid (fun (W : World) (hW : Below w.heap.size w W) => (Calls.mono (implName_any x.nm W) (fun e w' ⟨he, hb⟩ => (⟨he, hW.trans (Below.mono hb hW.size)⟩ : e = Ending.returned (.bool (nameB x.nm.data.toList)) ∧ Below w.heap.size w w'))))
  by_cases hk : x.k = 1
  · have HF := Lib.hid (show nmB x = nameB x.nm.data.toList by unfold nmB; rw [if_pos hk])
    have e1 : (x.k != 1) = false := by rw [hk]; rfl
    obtain ⟨v, hv⟩ : ∃ v, v = nameB x.nm.data.toList := ⟨_, rfl⟩
    rw [← hv] at CN HF
    clear hk hv
    go_enter Tryd.func60, Tryd.ntmps60
    go_wp2_with (go_at_call 29; refine (CN.out _ (by repeat (first | exact Below.refl _ _ | refine Below.setCell ?_ (by simp) _ | refine Below.alloc ?_ (by simp <;> omega) _))).mono ?_; rintro e w2 ⟨rfl, hb⟩; have HB := Lib.hid hb; clear hb)
    go_ret
    exact ⟨ret_bool HF.out.symm, HB.out⟩
  · have HF := Lib.hid (show nmB x = true by unfold nmB; rw [if_neg hk])
    have e1 : (x.k != 1) = true := by simp [bne, ib_ne hk]
    clear hk
    go_enter Tryd.func60, Tryd.ntmps60
    go_wp2
    go_ret
    exact ⟨ret_bool HF.out.symm, by repeat (first | exact Below.refl _ _ | refine Below.setCell ?_ (by simp) _ | refine Below.alloc ?_ (by simp <;> omega) _)⟩
end Go.Proofs.YthinoagdgbnphaaDoor
