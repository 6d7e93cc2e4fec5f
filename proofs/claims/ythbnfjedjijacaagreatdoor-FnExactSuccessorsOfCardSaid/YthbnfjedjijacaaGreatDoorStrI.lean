/- Texts compared by the program. -/
import Derived.Test.YthbnfjedjijacaaGreatDoorProg
import Derived.BigQuiet
import Derived.StillTailTactics
import Derived.Laws.Cover1
import Derived.ProofKit
import Derived.Outline
import Derived.Test.YthbnfjedjijacaaGreatDoorStrM
import Derived.Test.YthbnfjedjijacaaGreatDoorLow
namespace Go.Proofs.YthbnfjedjijacaaGreatDoor
open Go.RowKit
theorem isNaN_any (s : ByteArray) (w : World) : Calls Tryz.prog 120 #[.string s] w fun e w' => e = .returned (.bool false) ∧ w' = w := by
  go_enter Tryz.func120, Tryz.ntmps120
  go_wp2
  go_ret
  exact ⟨rfl, rfl⟩
set_option maxRecDepth 100000 in
theorem cmpStr_any (s t : ByteArray) (w : World) : Calls Tryz.prog 107 #[.string s, .string t] w fun e w' => e = .returned (.int .i64 (cmS s t)) ∧ w' = w := by
  rcases h1 : lsB s t with _ | _
  · have he := eqB_tri h1
    rcases h2 : lsB t s with _ | _
    · have HF := Lib.hid (show cmS s t = 0 by unfold cmS; rw [h1, h2]; rfl)
      have hb : Op.bytesLess s.toList t.toList = false := h1
      have hq : (s.toList == t.toList) = true := by rw [h2] at he; exact he
      clear h1 h2 he
      go_enter Tryz.func107, Tryz.ntmps107
      go_wp2_with (go_at_call 120; refine (isNaN_any _ _).mono ?_; rintro e w' ⟨rfl, rfl⟩)
      go_ret
      exact ⟨by rw [HF.out]; rfl, rfl⟩
    · have HF := Lib.hid (show cmS s t = 1 by unfold cmS; rw [h1, h2]; rfl)
      have hb : Op.bytesLess s.toList t.toList = false := h1
      have hq : (s.toList == t.toList) = false := by rw [h2] at he; exact he
      clear h1 h2 he
      go_enter Tryz.func107, Tryz.ntmps107
      go_wp2_with (go_at_call 120; refine (isNaN_any _ _).mono ?_; rintro e w' ⟨rfl, rfl⟩)
      go_ret
      exact ⟨by rw [HF.out]; rfl, rfl⟩
  · have HF := Lib.hid (show cmS s t = -1 by unfold cmS; rw [h1]; rfl)
    have hb : Op.bytesLess s.toList t.toList = true := h1
    clear h1
    go_enter Tryz.func107, Tryz.ntmps107
    go_wp2_with (go_at_call 120; refine (isNaN_any _ _).mono ?_; rintro e w' ⟨rfl, rfl⟩)
    go_ret
    exact ⟨by rw [HF.out]; rfl, rfl⟩
def orI (a b : Int) : Int := if a = 0 then b else a
theorem cmpOr_any (g : Nat) (a b : Int) (w : World) (h0 : w.cell? ⟨g, 0, none⟩ = some (.int .i64 a)) (h1 : w.cell? ⟨g, 1, none⟩ = some (.int .i64 b)) :
    Calls Tryz.prog 97 #[.slice (some ⟨g, 0, none⟩) 2 2] w fun e w' => e = .returned (.int .i64 (orI a b)) ∧ Below w.heap.size w w' := by
  have H0 := Lib.hid h0
  have H1 := Lib.hid h1
  clear h0 h1
  go_enter Tryz.func97, Tryz.ntmps97
  go_wp2
  go_loopw [8] (fun i wr => ∃ k : Nat, k ≤ 2 ∧ i = .int .i64 k ∧ Hid (Drawn w wr) ∧ Hid (0 < k → a = 0) ∧ Hid (1 < k → b = 0)) (fun i _ => 2 - (intOf i).toNat)
  case atStart => exact ⟨0, by omega, rfl, Lib.hid (Drawn.refl _), Lib.hid (by omega), Lib.hid (by omega)⟩
  case round =>
    obtain ⟨k, hk, rfl, HD, HA, HB⟩ := hrel
    by_cases hk0 : k = 0
    · subst hk0
      have r := (SameOn.of_drawn (S := fun _ => True) HD.out g 0 trivial).trans H0.out
      by_cases ha : a = 0
      · have hne : (a != 0) = false := by simp [ha]
        have HZ := Lib.hid ha
        clear ha
        go_wp2
        go_roundw
        case rel => exact ⟨1, by omega, by go_num, HD, Lib.hid (fun _ => HZ.out), Lib.hid (by omega)⟩
        case measure => simp [intOf]
      · have hne : (a != 0) = true := by simp [ha]
        have HF := Lib.hid (show orI a b = a from if_neg ha)
        clear ha
        go_wp2
        go_ret
        exact ⟨by rw [HF.out]; rfl, HD.out.below _⟩
    by_cases hk1 : k = 1
    · subst hk1
      have r := (SameOn.of_drawn (S := fun _ => True) HD.out g 1 trivial).trans H1.out
      have HZ := Lib.hid (HA.out (by omega))
      by_cases hb : b = 0
      · have hne : (b != 0) = false := by simp [hb]
        have HY := Lib.hid hb
        clear hb
        go_wp2
        go_roundw
        case rel => exact ⟨2, by omega, by go_num, HD, Lib.hid (fun _ => HZ.out), Lib.hid (fun _ => HY.out)⟩
        case measure => simp [intOf]
      · have hne : (b != 0) = true := by simp [hb]
        have HF := Lib.hid (show orI a b = b from if_pos HZ.out)
        clear hb
        go_wp2
        go_ret
        exact ⟨by rw [HF.out]; rfl, HD.out.below _⟩
    · obtain rfl : k = 2 := by omega
      have HF := Lib.hid (show orI a b = 0 by unfold orI; rw [if_pos (HA.out (by omega)), HB.out (by omega)])
      clear hk0 hk1
      go_wp2
      go_ret
      exact ⟨by rw [HF.out]; rfl, HD.out.below _⟩
end Go.Proofs.YthbnfjedjijacaaGreatDoor
