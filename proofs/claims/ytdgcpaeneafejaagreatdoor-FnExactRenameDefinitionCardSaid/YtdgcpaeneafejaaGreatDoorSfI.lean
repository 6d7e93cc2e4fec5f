/- Meetings and names compared by the program. -/
import Derived.BigQuiet
import Derived.StillTailTactics
import Derived.Laws.Cover1
import Derived.Test.YtdgcpaeneafejaaGreatDoorSfLow
import Derived.Test.YtdgcpaeneafejaaGreatDoorLow
namespace Go.Proofs.YtdgcpaeneafejaaGreatDoor
open Go.RowKit
theorem isNaN_any (s : ByteArray) (w : World) : Calls Tryz.prog 163 #[.string s] w fun e w' => e = .returned (.bool false) ∧ w' = w := by
  go_enter Tryz.func163, Tryz.ntmps163
  go_wp2
  go_ret
  exact ⟨rfl, rfl⟩
set_option maxRecDepth 100000 in
theorem cmpStr_any (s t : ByteArray) (w : World) : Calls Tryz.prog 143 #[.string s, .string t] w fun e w' => e = .returned (.int .i64 (cmS s t)) ∧ w' = w := by
  rcases h1 : lsB s t with _ | _
  · have he := eqB_tri h1
    rcases h2 : lsB t s with _ | _
    · have HF := Lib.hid (show cmS s t = 0 by unfold cmS; rw [h1, h2]; rfl)
      have hb : Op.bytesLess s.toList t.toList = false := h1
      have hq : (s.toList == t.toList) = true := by rw [h2] at he; exact he
      clear h1 h2 he
      go_enter Tryz.func143, Tryz.ntmps143
      go_wp2_with (go_at_call 163; refine (isNaN_any _ _).mono ?_; rintro e w' ⟨rfl, rfl⟩)
      go_ret
      exact ⟨by rw [HF.out]; rfl, rfl⟩
    · have HF := Lib.hid (show cmS s t = 1 by unfold cmS; rw [h1, h2]; rfl)
      have hb : Op.bytesLess s.toList t.toList = false := h1
      have hq : (s.toList == t.toList) = false := by rw [h2] at he; exact he
      clear h1 h2 he
      go_enter Tryz.func143, Tryz.ntmps143
      go_wp2_with (go_at_call 163; refine (isNaN_any _ _).mono ?_; rintro e w' ⟨rfl, rfl⟩)
      go_ret
      exact ⟨by rw [HF.out]; rfl, rfl⟩
  · have HF := Lib.hid (show cmS s t = -1 by unfold cmS; rw [h1]; rfl)
    have hb : Op.bytesLess s.toList t.toList = true := h1
    clear h1
    go_enter Tryz.func143, Tryz.ntmps143
    go_wp2_with (go_at_call 163; refine (isNaN_any _ _).mono ?_; rintro e w' ⟨rfl, rfl⟩)
    go_ret
    exact ⟨by rw [HF.out]; rfl, rfl⟩
def orI (a b : Int) : Int := if a = 0 then b else a
theorem cmpOr_any (g : Nat) (a b : Int) (w : World) (h0 : w.cell? ⟨g, 0, none⟩ = some (.int .i64 a)) (h1 : w.cell? ⟨g, 1, none⟩ = some (.int .i64 b)) :
    Calls Tryz.prog 161 #[.slice (some ⟨g, 0, none⟩) 2 2] w fun e w' => e = .returned (.int .i64 (orI a b)) ∧ Below w.heap.size w w' := by
  have H0 := Lib.hid h0
  have H1 := Lib.hid h1
  clear h0 h1
  go_enter Tryz.func161, Tryz.ntmps161
  go_wp2
  go_loopw [8] (fun i wr => ∃ k : Nat, k ≤ 2 ∧ i = .int .i64 k ∧ Hid (Drawn w wr) ∧ Hid (0 < k → a = 0) ∧ Hid (1 < k → b = 0)) (fun i _ => 2 - (intOf i).toNat)
  case atStart => exact ⟨0, by omega, rfl, Lib.hid (Drawn.refl _), Lib.hid (by omega), Lib.hid (by omega)⟩
  case round =>
    obtain ⟨k, hk, rfl, HD, HA, HB⟩ := hrel
    by_cases hk0 : k = 0
    · subst hk0
      have r := (SameOn.of_drawn (S := fun _ => True) HD.out g 0 trivial).trans H0.out
      by_cases ha : a = 0
      · have hne : (a != 0) = false := by simp [ha]
        have HZ := Lib.hid ha
        clear ha
        go_wp2
        go_roundw
        case rel => exact ⟨1, by omega, by go_num, HD, Lib.hid (fun _ => HZ.out), Lib.hid (by omega)⟩
        case measure => simp [intOf]
      · have hne : (a != 0) = true := by simp [ha]
        have HF := Lib.hid (show orI a b = a from if_neg ha)
        clear ha
        go_wp2
        go_ret
        exact ⟨by rw [HF.out]; rfl, HD.out.below _⟩
    by_cases hk1 : k = 1
    · subst hk1
      have r := (SameOn.of_drawn (S := fun _ => True) HD.out g 1 trivial).trans H1.out
      have HZ := Lib.hid (HA.out (by omega))
      by_cases hb : b = 0
      · have hne : (b != 0) = false := by simp [hb]
        have HY := Lib.hid hb
        clear hb
        go_wp2
        go_roundw
        case rel => exact ⟨2, by omega, by go_num, HD, Lib.hid (fun _ => HZ.out), Lib.hid (fun _ => HY.out)⟩
        case measure => simp [intOf]
      · have hne : (b != 0) = true := by simp [hb]
        have HF := Lib.hid (show orI a b = b from if_pos HZ.out)
        clear hb
        go_wp2
        go_ret
        exact ⟨by rw [HF.out]; rfl, HD.out.below _⟩
    · obtain rfl : k = 2 := by omega
      have HF := Lib.hid (show orI a b = 0 by unfold orI; rw [if_pos (HA.out (by omega)), HB.out (by omega)])
      clear hk0 hk1
      go_wp2
      go_ret
      exact ⟨by rw [HF.out]; rfl, HD.out.below _⟩
set_option maxRecDepth 100000 in
set_option maxHeartbeats 2000000 in
theorem cmpMt_any (x y : Mt) (w : World) : Calls Tryz.prog 137 #[.agg #[.string x.l, .string x.r, .string x.s], .agg #[.string y.l, .string y.r, .string y.s]] w fun e w' => e = .returned (.int .i64 (cmMt x y)) ∧ Below w.heap.size w w' := by
  go_enter Tryz.func137, Tryz.ntmps137
  go_wp2
  obtain ⟨v, hv⟩ : ∃ v, v = (w.alloc (.cells #[.string x.l, .string x.r, .string x.s] 122)).alloc (.cells #[.string y.l, .string y.r, .string y.s] 122) := ⟨_, rfl⟩
  rw [← hv]
  have HB0 := Lib.hid (show Below w.heap.size w v by rw [hv]; exact ((Below.refl _ _).alloc (Nat.le_refl _) _).alloc (by simp) _)
  have a0 : v.cell? ⟨w.heap.size, 0, none⟩ = some (.string x.l) := by rw [hv]; simp [go_sem]
  have a1 : v.cell? ⟨w.heap.size, 1, none⟩ = some (.string x.r) := by rw [hv]; simp [go_sem]
  have b0 : v.cell? ⟨w.heap.size + 1, 0, none⟩ = some (.string y.l) := by rw [hv]; simp [go_sem]
  have b1 : v.cell? ⟨w.heap.size + 1, 1, none⟩ = some (.string y.r) := by rw [hv]; simp [go_sem]
  have hl : w.heap.size + 1 < v.heap.size := by rw [hv]; simp
  have d0 : v.drew.cell? ⟨w.heap.size, 0, none⟩ = some (.string x.l) := a0
  have d1 : v.drew.cell? ⟨w.heap.size, 1, none⟩ = some (.string x.r) := a1
  have d2 : v.drew.cell? ⟨w.heap.size + 1, 0, none⟩ = some (.string y.l) := b0
  have d3 : v.drew.cell? ⟨w.heap.size + 1, 1, none⟩ = some (.string y.r) := b1
  have HF := Lib.hid (show cmMt x y = orI (cmS x.l y.l) (cmS x.r y.r) from rfl)
  clear hv
  refine wp_region_still_tail 10 (by kernel_rfl) (by kernel_rfl) ?_
  simp only [List.take_succ_cons, List.take_zero, List.drop_succ_cons, List.drop_zero]
  repeat still_step
  still_call (cmpStr_any x.l y.l _)
  repeat still_step
  still_call (cmpStr_any x.r y.r _)
  refine wpStill_nil ?_
  change wpList _ _ _ _ _ v.drew
  go_wp2_with (go_at_call 161; refine (cmpOr_any v.heap.size (cmS x.l y.l) (cmS x.r y.r) _ (by simp [go_sem]) (by simp [go_sem])).mono ?_; rintro e w2 ⟨rfl, hb⟩; have HB2 := Lib.hid hb; clear hb)
  go_ret
  exact ⟨by rw [HF.out]; rfl, HB0.out.trans (Below.trans (b := v.drew.alloc _) (((Below.refl _ _).drew).alloc (HB0.out.size) _) (HB2.out.mono (by have h := HB0.out.size; simp; omega)))⟩
end Go.Proofs.YtdgcpaeneafejaaGreatDoor
