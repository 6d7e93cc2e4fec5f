/- Valid transition systems: the model's parts. -/
import Derived.BigQuiet
import Derived.StillTailTactics
import Derived.Outline
import Derived.Deep.RegionHeld3
import Derived.Deep.RegionWith
import Derived.Test.YtbailpfjgjcbdaaGreatDoorLtC
import Derived.Test.YtbailpfjgjcbdaaGreatDoorLv
import Derived.Test.YtbailpfjgjcbdaaGreatDoorBx
namespace Go.Proofs.YtbailpfjgjcbdaaGreatDoor
open Go.RowKit
theorem l00In_any (k lo hi : Int) (w : World) : Calls Tryz.prog 57 #[.int .i64 k, .int .i64 lo, .int .i64 hi] w fun e w' => e = .returned (.bool (inR k lo hi)) ∧ w = w' := by
  by_cases h1 : lo ≤ k
  · by_cases h2 : k ≤ hi
    · have H := Lib.hid (inR_yes ⟨h1, h2⟩)
      go_enter Tryz.func57, Tryz.ntmps57
      go_wp2
      go_ret
      exact ⟨by rw [H.out]; rfl, rfl⟩
    · have H := Lib.hid (inR_no (k := k) (lo := lo) (hi := hi) (fun e => h2 e.2))
      go_enter Tryz.func57, Tryz.ntmps57
      go_wp2
      go_ret
      exact ⟨by rw [H.out]; rfl, rfl⟩
  · have H := Lib.hid (inR_no (k := k) (lo := lo) (hi := hi) (fun e => h1 e.1))
    go_enter Tryz.func57, Tryz.ntmps57
    go_wp2
    go_ret
    exact ⟨by rw [H.out]; rfl, rfl⟩
set_option maxRecDepth 100000 in
set_option maxHeartbeats 2000000 in
theorem l11Less_any (p q op oq : Nat) (x y : Ed) (w : World) (x0 : w.cell? ⟨p, op, none⟩ = some (.int .i64 x.f)) (x1 : w.cell? ⟨p, op + 1, none⟩ = some (.int .i64 x.l)) (x2 : w.cell? ⟨p, op + 2, none⟩ = some (.int .i64 x.t)) (y0 : w.cell? ⟨q, oq, none⟩ = some (.int .i64 y.f)) (y1 : w.cell? ⟨q, oq + 1, none⟩ = some (.int .i64 y.l)) (y2 : w.cell? ⟨q, oq + 2, none⟩ = some (.int .i64 y.t)) :
    Calls Tryz.prog 59 #[.pointer (some ⟨p, op, none⟩), .pointer (some ⟨q, oq, none⟩)] w fun e w' => e = .returned (.bool (lesE x y)) ∧ Drawn w w' := by
  by_cases e1 : x.f = y.f
  · have n1 : (x.f != y.f) = false := by simp [e1]
    by_cases e2 : x.l = y.l
    · have n2 : (x.l != y.l) = false := by simp [e2]
      have HF := Lib.hid (show lesE x y = decide (x.t < y.t) by unfold lesE; rw [if_pos e1, if_pos e2])
      clear e1 e2
      go_enter Tryz.func59, Tryz.ntmps59
      go_wp2
      go_quiet (fail)
      go_wp2
      go_quiet (fail)
      go_wp2
      go_quiet (fail)
      go_wp2
      go_ret
      exact ⟨by rw [HF.out]; rfl, by repeat (first | exact Drawn.refl _ | apply Drawn.drewN)⟩
    · have n2 : (x.l != y.l) = true := by simp [e2]
      have HF := Lib.hid (show lesE x y = decide (x.l < y.l) by unfold lesE; rw [if_pos e1, if_neg e2])
      clear e1 e2
      go_enter Tryz.func59, Tryz.ntmps59
      go_wp2
      go_quiet (fail)
      go_wp2
      go_quiet (fail)
      go_wp2
      go_quiet (fail)
      go_wp2
      go_ret
      exact ⟨by rw [HF.out]; rfl, by repeat (first | exact Drawn.refl _ | apply Drawn.drewN)⟩
  · have n1 : (x.f != y.f) = true := by simp [e1]
    have HF := Lib.hid (show lesE x y = decide (x.f < y.f) by unfold lesE; rw [if_neg e1])
    clear e1
    go_enter Tryz.func59, Tryz.ntmps59
    go_wp2
    go_quiet (fail)
    go_wp2
    go_quiet (fail)
    go_wp2
    go_ret
    exact ⟨by rw [HF.out]; rfl, by repeat (first | exact Drawn.refl _ | apply Drawn.drewN)⟩
end Go.Proofs.YtbailpfjgjcbdaaGreatDoor
