/- Kinds of parts: the model's function. -/
import Derived.Test.YthinoagdgbnphaaDoorPxS
namespace Go.Proofs.YthinoagdgbnphaaDoor
open Go.RowKit
theorem em_list (t : ByteArray) : t.toList.isEmpty = emB t := by
  unfold emB
  rw [ByteArray.toList_eq]
  have : t.size = t.data.toList.length := (Array.length_toList).symm
  rw [this]
  cases t.data.toList <;> simp
set_option maxRecDepth 100000 in
set_option maxHeartbeats 3200000 in
theorem specKind_any (b o : Nat) (x : Pt) (B : Option Addr) (c : Nat) (w : World) (k0 : w.cell? ⟨b, o, none⟩ = some (.int .i64 x.k)) (k1 : w.cell? ⟨b, o + 1, none⟩ = some (.int .i64 x.n)) (k2 : w.cell? ⟨b, o + 2, none⟩ = some (.string x.nm)) (k3 : w.cell? ⟨b, o + 3, none⟩ = some (.slice B x.args.length c)) :
    Calls Tryd.prog 54 #[.pointer (some ⟨b, o, none⟩)] w fun e w' => e = .returned (.bool (kindB x)) ∧ Drawn w w' := by
  obtain ⟨k, hk⟩ : ∃ k, k = x.k := ⟨_, rfl⟩
  have hem := em_list x.nm
  have hln : ((x.args.length : Int) == 0) = (x.args.length == 0) := by
    rcases Nat.eq_zero_or_pos x.args.length with e | e
    · rw [e]; rfl
    · have h1 : ((x.args.length : Int) == 0) = false := ib_ne (by omega)
      have h2 : (x.args.length == 0) = false := by simp; intro h; rw [h] at e; simp at e
      rw [h1, h2]
  rw [← hk] at k0
  have hc : k = 0 ∨ k = 1 ∨ k = 2 ∨ k = 3 ∨ k = 4 ∨ k = 5 ∨ (k ≠ 0 ∧ k ≠ 1 ∧ k ≠ 2 ∧ k ≠ 3 ∧ k ≠ 4 ∧ k ≠ 5) := by omega
  rcases hc with rfl | rfl | rfl | rfl | rfl | rfl | ⟨h0, h1, h2, h3, h4, h5⟩
  · rcases tn : (x.n == 0) with _ | _
    · have HF := Lib.hid (show kindB x = false by unfold kindB; rw [← hk]; simp [tn])
      clear hk
      go_enter Tryd.func54, Tryd.ntmps54
      go_wp2
      go_ret
      exact ⟨ret_bool HF.out.symm, by first | exact Drawn.refl _ | exact (Drawn.refl _).drew⟩
    rcases tm : (emB x.nm) with _ | _
    · have HF := Lib.hid (show kindB x = false by unfold kindB; rw [← hk]; simp [tn, tm])
      rw [tm] at hem
      clear hk tm
      go_enter Tryd.func54, Tryd.ntmps54
      go_wp2
      go_ret
      exact ⟨ret_bool HF.out.symm, by first | exact Drawn.refl _ | exact (Drawn.refl _).drew⟩
    rw [tm] at hem
    rcases ta : (x.args.length == 0) with _ | _
    · have HF := Lib.hid (show kindB x = false by unfold kindB; rw [← hk]; simp [tn, tm, ta])
      rw [ta] at hln
      clear hk ta
      go_enter Tryd.func54, Tryd.ntmps54
      go_wp2
      go_ret
      exact ⟨ret_bool HF.out.symm, by first | exact Drawn.refl _ | exact (Drawn.refl _).drew⟩
    rw [ta] at hln
    have HF := Lib.hid (show kindB x = true by unfold kindB; rw [← hk]; simp [tn, tm, ta])
    clear hk tm ta
    go_enter Tryd.func54, Tryd.ntmps54
    go_wp2
    go_ret
    exact ⟨ret_bool HF.out.symm, by first | exact Drawn.refl _ | exact (Drawn.refl _).drew⟩
  · rcases tn : (x.n == 0) with _ | _
    · have HF := Lib.hid (show kindB x = false by unfold kindB; rw [← hk]; simp [tn])
      clear hk
      go_enter Tryd.func54, Tryd.ntmps54
      go_wp2
      go_ret
      exact ⟨ret_bool HF.out.symm, by first | exact Drawn.refl _ | exact (Drawn.refl _).drew⟩
    have HF := Lib.hid (show kindB x = true by unfold kindB; rw [← hk]; simp [tn])
    clear hk
    go_enter Tryd.func54, Tryd.ntmps54
    go_wp2
    go_ret
    exact ⟨ret_bool HF.out.symm, by first | exact Drawn.refl _ | exact (Drawn.refl _).drew⟩
  · rcases tn : (x.n == 0) with _ | _
    · have HF := Lib.hid (show kindB x = false by unfold kindB; rw [← hk]; simp [tn])
      clear hk
      go_enter Tryd.func54, Tryd.ntmps54
      go_wp2
      go_ret
      exact ⟨ret_bool HF.out.symm, by first | exact Drawn.refl _ | exact (Drawn.refl _).drew⟩
    rcases tm : (emB x.nm) with _ | _
    · have HF := Lib.hid (show kindB x = false by unfold kindB; rw [← hk]; simp [tn, tm])
      rw [tm] at hem
      clear hk tm
      go_enter Tryd.func54, Tryd.ntmps54
      go_wp2
      go_ret
      exact ⟨ret_bool HF.out.symm, by first | exact Drawn.refl _ | exact (Drawn.refl _).drew⟩
    rw [tm] at hem
    rcases ta : (x.args.length == 0) with _ | _
    · have HF := Lib.hid (show kindB x = false by unfold kindB; rw [← hk]; simp [tn, tm, ta])
      rw [ta] at hln
      clear hk ta
      go_enter Tryd.func54, Tryd.ntmps54
      go_wp2
      go_ret
      exact ⟨ret_bool HF.out.symm, by first | exact Drawn.refl _ | exact (Drawn.refl _).drew⟩
    rw [ta] at hln
    have HF := Lib.hid (show kindB x = true by unfold kindB; rw [← hk]; simp [tn, tm, ta])
    clear hk tm ta
    go_enter Tryd.func54, Tryd.ntmps54
    go_wp2
    go_ret
    exact ⟨ret_bool HF.out.symm, by first | exact Drawn.refl _ | exact (Drawn.refl _).drew⟩
  · rcases tn : (x.n == 0) with _ | _
    · have HF := Lib.hid (show kindB x = false by unfold kindB; rw [← hk]; simp [tn])
      clear hk
      go_enter Tryd.func54, Tryd.ntmps54
      go_wp2
      go_ret
      exact ⟨ret_bool HF.out.symm, by first | exact Drawn.refl _ | exact (Drawn.refl _).drew⟩
    rcases tm : (emB x.nm) with _ | _
    · have HF := Lib.hid (show kindB x = false by unfold kindB; rw [← hk]; simp [tn, tm])
      rw [tm] at hem
      clear hk tm
      go_enter Tryd.func54, Tryd.ntmps54
      go_wp2
      go_ret
      exact ⟨ret_bool HF.out.symm, by first | exact Drawn.refl _ | exact (Drawn.refl _).drew⟩
    rw [tm] at hem
    have HF := Lib.hid (show kindB x = true by unfold kindB; rw [← hk]; simp [tn, tm])
    clear hk tm
    go_enter Tryd.func54, Tryd.ntmps54
    go_wp2
    go_ret
    exact ⟨ret_bool HF.out.symm, by first | exact Drawn.refl _ | exact (Drawn.refl _).drew⟩
  · rcases tm : (emB x.nm) with _ | _
    · have HF := Lib.hid (show kindB x = false by unfold kindB; rw [← hk]; simp [tm])
      rw [tm] at hem
      clear hk tm
      go_enter Tryd.func54, Tryd.ntmps54
      go_wp2
      go_ret
      exact ⟨ret_bool HF.out.symm, by first | exact Drawn.refl _ | exact (Drawn.refl _).drew⟩
    rw [tm] at hem
    rcases ta : (x.args.length == 0) with _ | _
    · have HF := Lib.hid (show kindB x = false by unfold kindB; rw [← hk]; simp [tm, ta])
      rw [ta] at hln
      clear hk ta
      go_enter Tryd.func54, Tryd.ntmps54
      go_wp2
      go_ret
      exact ⟨ret_bool HF.out.symm, by first | exact Drawn.refl _ | exact (Drawn.refl _).drew⟩
    rw [ta] at hln
    have HF := Lib.hid (show kindB x = true by unfold kindB; rw [← hk]; simp [tm, ta])
    clear hk tm ta
    go_enter Tryd.func54, Tryd.ntmps54
    go_wp2
    go_ret
    exact ⟨ret_bool HF.out.symm, by first | exact Drawn.refl _ | exact (Drawn.refl _).drew⟩
  · rcases tm : (emB x.nm) with _ | _
    · have HF := Lib.hid (show kindB x = false by unfold kindB; rw [← hk]; simp [tm])
      rw [tm] at hem
      clear hk tm
      go_enter Tryd.func54, Tryd.ntmps54
      go_wp2
      go_ret
      exact ⟨ret_bool HF.out.symm, by first | exact Drawn.refl _ | exact (Drawn.refl _).drew⟩
    rw [tm] at hem
    have HF := Lib.hid (show kindB x = true by unfold kindB; rw [← hk]; simp [tm])
    clear hk tm
    go_enter Tryd.func54, Tryd.ntmps54
    go_wp2
    go_ret
    exact ⟨ret_bool HF.out.symm, by first | exact Drawn.refl _ | exact (Drawn.refl _).drew⟩
  · have HF := Lib.hid (show kindB x = false by unfold kindB; rw [← hk]; simp [h0, h1, h2, h3, h4, h5])
    have e0 : (k == 0) = false := ib_ne h0
    have e1 : (k == 1) = false := ib_ne h1
    have e2 : (k == 2) = false := ib_ne h2
    have e3 : (k == 3) = false := ib_ne h3
    have e4 : (k == 4) = false := ib_ne h4
    have e5 : (k == 5) = false := ib_ne h5
    clear hk h0 h1 h2 h3 h4 h5
    go_enter Tryd.func54, Tryd.ntmps54
    go_wp2
    go_ret
    exact ⟨ret_bool HF.out.symm, by first | exact Drawn.refl _ | exact (Drawn.refl _).drew⟩
end Go.Proofs.YthinoagdgbnphaaDoor
