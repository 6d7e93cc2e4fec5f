/- Lists of names: the model. -/
import Derived.BigQuiet
import Derived.Laws.Cover1
import Derived.Test.YtdgcpaeneafejaaGreatDoorSfLow
import Derived.Test.YtdgcpaeneafejaaGreatDoorLow
import Derived.Test.YtdgcpaeneafejaaGreatDoorEvLow
namespace Go.Proofs.YtdgcpaeneafejaaGreatDoor
open Go.RowKit
set_option maxRecDepth 100000 in
set_option maxHeartbeats 1000000 in
theorem specActions_any (A : Option Addr) (n c : Nat) (xs : List ByteArray) (w : World) (S : Nat → Prop) (h : LRow txtR w S A xs) (l : xs.length = n) (m : n ≤ 1048576) :
    Calls Tryz.prog 133 #[.slice A n c] w fun e w' => e = .returned (.bool (xs.all fun t => actionB t.data.toList)) ∧ Drawn w w' := by
  have L := Lib.hid l
  clear l
  go_enter Tryz.func133, Tryz.ntmps133
  go_wp2
  go_loopw [3] (fun i wr => ∃ k : Nat, k ≤ n ∧ i = .int .i64 k ∧ Hid (Drawn w wr) ∧ Hid ((xs.take k).all (fun t => actionB t.data.toList) = true)) (fun i _ => n - (intOf i).toNat)
  case atStart => exact ⟨0, Nat.zero_le _, rfl, Lib.hid (Drawn.refl _), Lib.hid rfl⟩
  case round =>
    obtain ⟨k, hk, rfl, HD, HT⟩ := hrel
    by_cases hlt : k < n
    · obtain ⟨b, o, cs, u, rfl, hb, hR, hu, hc⟩ := (h.keep (SameOn.of_drawn HD.out)).at_ (k := k) (by rw [L.out]; exact hlt)
      obtain ⟨rfl, _⟩ := hR
      have r0 : wr.cell? ⟨b, o + k, none⟩ = some (.string u) := by have := hc 0 _ rfl; simpa [txtR] using this
      clear hc
      have CA := Lib.hid (fun W : World => specAction_any u W)
      rcases ta : actionB u.data.toList with _ | _
      · have HF := Lib.hid (all_false (p := fun t : ByteArray => actionB t.data.toList) hu.out ta)
        have TA := Lib.hid ta
        clear ta
        go_wp2_with (go_at_call 132; refine (CA.out _).mono ?_; rw [TA.out]; rintro e w' ⟨rfl, rfl⟩)
        go_ret
        exact ⟨ret_bool HF.out.symm, HD.out⟩
      · have HN := Lib.hid (all_take_next (p := fun t : ByteArray => actionB t.data.toList) HT.out hu.out ta)
        have TA := Lib.hid ta
        clear ta
        go_wp2_with (go_at_call 132; refine (CA.out _).mono ?_; rw [TA.out]; rintro e w' ⟨rfl, rfl⟩)
        go_roundw
        case rel => exact ⟨k + 1, by omega, by go_num, HD, HN⟩
        case measure => simp [intOf]; omega
    · have HF := Lib.hid (show xs.all (fun t => actionB t.data.toList) = true by
        have ht := HT.out
        rwa [List.take_of_length_le (by rw [L.out]; omega)] at ht)
      go_wp2
      go_ret
      exact ⟨ret_bool HF.out.symm, HD.out⟩
theorem cmS_less (a b : ByteArray) : decide (cmS a b < 0) = lsB a b := by
  unfold cmS
  rcases lsB a b with _ | _
  · rw [if_neg (by simp)]
    split <;> simp
  · rw [if_pos rfl]; simp
set_option maxRecDepth 100000 in
set_option maxHeartbeats 2000000 in
theorem specNames_any (A : Option Addr) (n c : Nat) (xs : List ByteArray) (w : World) (S : Nat → Prop) (h : LRow txtR w S A xs) (l : xs.length = n) (m : n ≤ 1048576) :
    Calls Tryz.prog 115 #[.slice A n c] w fun e w' => e = .returned (.bool (nmsB xs)) ∧ Drawn w w' := by
  have L := Lib.hid l
  by_cases h12 : 12 < n
  · have HF := Lib.hid (show nmsB xs = false by unfold nmsB; rw [decide_eq_false (by omega)]; rfl)
    have h12i : (12 : Int) < (n : Int) := by omega
    clear h l
    go_enter Tryz.func115, Tryz.ntmps115
    go_wp2
    go_ret
    exact ⟨ret_bool HF.out.symm, by first | exact Drawn.refl _ | exact (Drawn.refl _).drew⟩
  have h12i : ¬ (12 : Int) < (n : Int) := by omega
  have CA := Lib.hid (specActions_any A n c xs w S h l m)
  rcases ta : xs.all (fun t => actionB t.data.toList) with _ | _
  · have HF := Lib.hid (show nmsB xs = false by unfold nmsB; rw [ta]; simp)
    have TA := Lib.hid ta
    clear h l ta
    go_enter Tryz.func115, Tryz.ntmps115
    go_wp2_with (go_at_call 133; refine CA.out.mono ?_; rw [TA.out]; rintro e w2 ⟨rfl, hd⟩; have HD := Lib.hid hd; clear hd)
    go_ret
    exact ⟨ret_bool HF.out.symm, HD.out⟩
  have HV := Lib.hid (show nmsB xs = inc cmS xs by unfold nmsB; rw [ta, decide_eq_true (by omega)]; simp)
  have TA := Lib.hid ta
  clear l ta
  go_enter Tryz.func115, Tryz.ntmps115
  go_wp2_with (go_at_call 133; refine CA.out.mono ?_; rw [TA.out]; rintro e w2 ⟨rfl, hd⟩; have HD0 := Lib.hid hd; clear hd)
  go_loopw [3] (fun i wr => ∃ j : Nat, 1 ≤ j ∧ (j ≤ n ∨ j = 1) ∧ i = .int .i64 j ∧ Hid (Drawn w wr) ∧ Hid (inc cmS (xs.take j) = true)) (fun i _ => n + 1 - (intOf i).toNat)
  case atStart => exact ⟨1, Nat.le_refl _, .inr rfl, rfl, HD0, Lib.hid (inc_short _ _)⟩
  case round =>
    obtain ⟨j, hj1, hk, rfl, HD, HT⟩ := hrel
    by_cases hlt : j < n
    · obtain ⟨k, hkj⟩ : ∃ k, j = k + 1 := ⟨j - 1, by omega⟩
      obtain ⟨b, o, cs, u, rfl, hb, hR, hu, hc⟩ := (h.keep (SameOn.of_drawn HD.out)).at_ (k := k) (by rw [L.out]; omega)
      obtain ⟨rfl, _⟩ := hR
      have r0 : wr.cell? ⟨b, o + k, none⟩ = some (.string u) := by have := hc 0 _ rfl; simpa [txtR] using this
      obtain ⟨b', o', cs', v, eA, hb', hR', hv, hc'⟩ := (h.keep (SameOn.of_drawn HD.out)).at_ (k := j) (by rw [L.out]; exact hlt)
      obtain ⟨rfl, _⟩ := hR'
      injection eA with eA
      injection eA with e1 e2
      subst e1 e2
      have r1 : wr.cell? ⟨b, o + j, none⟩ = some (.string v) := by have := hc' 0 _ rfl; simpa [txtR] using this
      have hwk : IntKind.i64.wrap ((j : Int) - 1) = (k : Int) := by (rw [IntKind.wrap_i64]; omega)
      have hkn : k < n := by omega
      have hv' := hv.out
      rw [hkj] at hv'
      have HV' := Lib.hid hv'
      have HJ := Lib.hid hkj
      clear hkj hv'
      clear hc hc'
      rcases tl : lsB u v with _ | _
      · have HF := Lib.hid (show inc cmS xs = false from inc_bad hu.out HV'.out (by have h := cmS_less u v; rw [tl] at h; exact of_decide_eq_false h))
        have hlb : Op.bytesLess u.toList v.toList = false := tl
        clear tl
        go_wp2
        go_quiet (fail)
        go_wp2
        go_ret
        exact ⟨ret_bool (by rw [HV.out, HF.out]), by repeat (first | exact HD.out | apply Drawn.drewN)⟩
      · have HN := Lib.hid (show inc cmS (xs.take (j + 1)) = true by have ht := HT.out; rw [HJ.out] at ht ⊢; rw [inc_step hu.out HV'.out, ht, cmS_less, tl]; rfl)
        have hlb : Op.bytesLess u.toList v.toList = true := tl
        clear tl
        go_wp2
        go_quiet (fail)
        go_wp2
        go_roundw
        case rel => exact ⟨j + 1, by omega, .inl (by omega), by go_num, Lib.hid (by repeat (first | exact HD.out | apply Drawn.drewN)), HN⟩
        case measure => simp [intOf]; omega
    · have HF := Lib.hid (show inc cmS xs = true by
        have ht := HT.out
        rwa [List.take_of_length_le (by rw [L.out]; omega)] at ht)
      go_wp2
      go_ret
      exact ⟨ret_bool (by rw [HV.out, HF.out]), HD.out⟩
end Go.Proofs.YtdgcpaeneafejaaGreatDoor
