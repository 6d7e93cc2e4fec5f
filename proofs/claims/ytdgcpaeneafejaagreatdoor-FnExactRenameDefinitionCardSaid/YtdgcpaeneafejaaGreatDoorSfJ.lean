/- Increasing lists, valid meetings, lists of names: the program. -/
import Derived.Test.YtdgcpaeneafejaaGreatDoorSfI
namespace Go.Proofs.YtdgcpaeneafejaaGreatDoor
open Go.RowKit
theorem cmMt_bool (x y : Mt) : decide (0 ≤ cmMt x y) = !(decide (cmMt x y < 0)) := by
  by_cases h : cmMt x y < 0
  · rw [decide_eq_true h, decide_eq_false (by omega)]; rfl
  · rw [decide_eq_false h, decide_eq_true (by omega)]; rfl
set_option maxRecDepth 100000 in
set_option maxHeartbeats 2000000 in
theorem incMt_any (A : Option Addr) (n c : Nat) (xs : List Mt) (w : World) (S : Nat → Prop) (h : LRow mtR w S A xs) (l : xs.length = n) (m : n ≤ 1048576) (hS : ∀ b, S b → b < w.heap.size) :
    Calls Tryz.prog 136 #[.slice A n c, .func (.func 137) #[] #[]] w fun e w' => e = .returned (.bool (inc cmMt xs)) ∧ Below w.heap.size w w' := by
  have L := Lib.hid l
  have HR := Lib.hid h
  have HS := Lib.hid hS
  clear h l hS
  go_enter Tryz.func136, Tryz.ntmps136
  go_wp2
  go_loopw [5] (fun i wr => ∃ j : Nat, 1 ≤ j ∧ (j ≤ n ∨ j = 1) ∧ i = .int .i64 j ∧ Hid (Below w.heap.size w wr) ∧ Hid (inc cmMt (xs.take j) = true)) (fun i _ => n + 1 - (intOf i).toNat)
  case atStart => exact ⟨1, Nat.le_refl _, .inr rfl, rfl, Lib.hid (Below.refl _ _), Lib.hid (inc_short _ _)⟩
  case round =>
    obtain ⟨j, hj1, hk, rfl, HB, HT⟩ := hrel
    have hsz := HB.out.size
    by_cases hlt : j < n
    · obtain ⟨k, hkj⟩ : ∃ k, j = k + 1 := ⟨j - 1, by omega⟩
      obtain ⟨b, o, cs, u, rfl, hb, hR, hu, hc⟩ := (HR.out.keep (SameOn.of_below HB.out HS.out)).at_ (k := k) (by rw [L.out]; omega)
      obtain ⟨rfl, _⟩ := hR
      obtain ⟨b', o', cs', v, eA, hb', hR', hv, hc'⟩ := (HR.out.keep (SameOn.of_below HB.out HS.out)).at_ (k := j) (by rw [L.out]; exact hlt)
      obtain ⟨rfl, _⟩ := hR'
      injection eA with eA
      injection eA with e1 e2
      subst e1 e2
      have r0 : wr.drew.cell? ⟨b, o + k * 3, none⟩ = some (.string u.l) := hc 0 _ rfl
      have r1 : wr.drew.cell? ⟨b, o + k * 3 + 1, none⟩ = some (.string u.r) := hc 1 _ rfl
      have r2 : wr.drew.cell? ⟨b, o + k * 3 + 2, none⟩ = some (.string u.s) := hc 2 _ rfl
      have t0 : wr.drew.cell? ⟨b, o + j * 3, none⟩ = some (.string v.l) := hc' 0 _ rfl
      have t1 : wr.drew.cell? ⟨b, o + j * 3 + 1, none⟩ = some (.string v.r) := hc' 1 _ rfl
      have t2 : wr.drew.cell? ⟨b, o + j * 3 + 2, none⟩ = some (.string v.s) := hc' 2 _ rfl
      have hwk : IntKind.i64.wrap ((j : Int) - 1) = (k : Int) := by (rw [IntKind.wrap_i64]; omega)
      have hkn : k < n := by omega
      have hv' := hv.out
      rw [hkj] at hv'
      have HV' := Lib.hid hv'
      have HJ := Lib.hid hkj
      clear hkj hv'
      have C := Lib.hid (cmpMt_any u v wr.drew)
      obtain ⟨q, hq⟩ : ∃ q, q = cmMt u v := ⟨_, rfl⟩
      rw [← hq] at C
      have HQ := Lib.hid hq
      clear hc hc' hq
      by_cases tl : q < 0
      · have HN := Lib.hid (show inc cmMt (xs.take (j + 1)) = true by have ht := HT.out; rw [HJ.out] at ht ⊢; rw [inc_step hu.out HV'.out, ht, ← HQ.out, decide_eq_true tl]; rfl)
        have hg : ¬ (0 : Int) ≤ q := by omega
        clear tl
        go_wp2
        go_still_tail 10, (by kernel_rfl)
        change wpList _ _ _ _ _ wr.drew
        go_wp2_with (go_at_call 137; refine (C.out).mono ?_; rintro e w2 ⟨rfl, b2⟩; have B2 := Lib.hid b2; clear b2)
        go_roundw
        case rel => exact ⟨j + 1, by omega, .inl (by omega), by go_num, Lib.hid ((HB.out.drew).trans (B2.out.mono hsz)), HN⟩
        case measure => simp [intOf]; omega
      · have HF := Lib.hid (show inc cmMt xs = false from inc_bad hu.out HV'.out (by rw [← HQ.out]; exact tl))
        have hg : (0 : Int) ≤ q := by omega
        clear tl
        go_wp2
        go_still_tail 10, (by kernel_rfl)
        change wpList _ _ _ _ _ wr.drew
        go_wp2_with (go_at_call 137; refine (C.out).mono ?_; rintro e w2 ⟨rfl, b2⟩; have B2 := Lib.hid b2; clear b2)
        go_ret
        exact ⟨ret_bool HF.out.symm, (HB.out.drew).trans (B2.out.mono hsz)⟩
    · have HF := Lib.hid (show inc cmMt xs = true by
        have ht := HT.out
        rwa [List.take_of_length_le (by rw [L.out]; omega)] at ht)
      go_wp2
      go_ret
      exact ⟨ret_bool HF.out.symm, HB.out⟩
set_option maxRecDepth 100000 in
set_option maxHeartbeats 2000000 in
theorem incStr_any (A : Option Addr) (n c : Nat) (xs : List ByteArray) (w : World) (S : Nat → Prop) (h : LRow txtR w S A xs) (l : xs.length = n) (m : n ≤ 1048576) :
    Calls Tryz.prog 142 #[.slice A n c, .func (.func 143) #[] #[]] w fun e w' => e = .returned (.bool (inc cmS xs)) ∧ Drawn w w' := by
  have L := Lib.hid l
  have HR := Lib.hid h
  clear h l
  go_enter Tryz.func142, Tryz.ntmps142
  go_wp2
  go_loopw [5] (fun i wr => ∃ j : Nat, 1 ≤ j ∧ (j ≤ n ∨ j = 1) ∧ i = .int .i64 j ∧ Hid (Drawn w wr) ∧ Hid (inc cmS (xs.take j) = true)) (fun i _ => n + 1 - (intOf i).toNat)
  case atStart => exact ⟨1, Nat.le_refl _, .inr rfl, rfl, Lib.hid (Drawn.refl _), Lib.hid (inc_short _ _)⟩
  case round =>
    obtain ⟨j, hj1, hk, rfl, HB, HT⟩ := hrel
    by_cases hlt : j < n
    · obtain ⟨k, hkj⟩ : ∃ k, j = k + 1 := ⟨j - 1, by omega⟩
      obtain ⟨b, o, cs, u, rfl, hb, hR, hu, hc⟩ := (HR.out.keep (SameOn.of_drawn HB.out)).at_ (k := k) (by rw [L.out]; omega)
      obtain ⟨rfl, _⟩ := hR
      obtain ⟨b', o', cs', v, eA, hb', hR', hv, hc'⟩ := (HR.out.keep (SameOn.of_drawn HB.out)).at_ (k := j) (by rw [L.out]; exact hlt)
      obtain ⟨rfl, _⟩ := hR'
      injection eA with eA
      injection eA with e1 e2
      subst e1 e2
      have r0 : wr.drew.cell? ⟨b, o + k, none⟩ = some (.string u) := by have h := hc 0 _ rfl; simpa [txtR] using h
      have t0 : wr.drew.cell? ⟨b, o + j, none⟩ = some (.string v) := by have h := hc' 0 _ rfl; simpa [txtR] using h
      have hwk : IntKind.i64.wrap ((j : Int) - 1) = (k : Int) := by (rw [IntKind.wrap_i64]; omega)
      have hkn : k < n := by omega
      have hv' := hv.out
      rw [hkj] at hv'
      have HV' := Lib.hid hv'
      have HJ := Lib.hid hkj
      clear hkj hv'
      have C := Lib.hid (cmpStr_any u v wr.drew)
      obtain ⟨q, hq⟩ : ∃ q, q = cmS u v := ⟨_, rfl⟩
      rw [← hq] at C
      have HQ := Lib.hid hq
      clear hc hc' hq
      by_cases tl : q < 0
      · have HN := Lib.hid (show inc cmS (xs.take (j + 1)) = true by have ht := HT.out; rw [HJ.out] at ht ⊢; rw [inc_step hu.out HV'.out, ht, ← HQ.out, decide_eq_true tl]; rfl)
        have hg : ¬ (0 : Int) ≤ q := by omega
        clear tl
        go_wp2
        go_still_tail 10, (by kernel_rfl)
        change wpList _ _ _ _ _ wr.drew
        go_wp2_with (go_at_call 143; refine (C.out).mono ?_; rintro e w2 ⟨rfl, rfl⟩)
        go_roundw
        case rel => exact ⟨j + 1, by omega, .inl (by omega), by go_num, Lib.hid (HB.out.drew), HN⟩
        case measure => simp [intOf]; omega
      · have HF := Lib.hid (show inc cmS xs = false from inc_bad hu.out HV'.out (by rw [← HQ.out]; exact tl))
        have hg : (0 : Int) ≤ q := by omega
        clear tl
        go_wp2
        go_still_tail 10, (by kernel_rfl)
        change wpList _ _ _ _ _ wr.drew
        go_wp2_with (go_at_call 143; refine (C.out).mono ?_; rintro e w2 ⟨rfl, rfl⟩)
        go_ret
        exact ⟨ret_bool HF.out.symm, HB.out.drew⟩
    · have HF := Lib.hid (show inc cmS xs = true by
        have ht := HT.out
        rwa [List.take_of_length_le (by rw [L.out]; omega)] at ht)
      go_wp2
      go_ret
      exact ⟨ret_bool HF.out.symm, HB.out⟩
set_option maxRecDepth 100000 in
set_option maxHeartbeats 2000000 in
theorem implNames_any (A : Option Addr) (n c : Nat) (xs : List ByteArray) (w : World) (S : Nat → Prop) (h : LRow txtR w S A xs) (l : xs.length = n) (m : n ≤ 1048576) (hS : ∀ b, S b → b < w.heap.size) :
    Calls Tryz.prog 120 #[.slice A n c] w fun e w' => e = .returned (.bool (nmsB xs)) ∧ Below w.heap.size w w' := by
  have L := Lib.hid l
  by_cases h12 : 12 < n
  · have HF := Lib.hid (show nmsB xs = false by unfold nmsB; rw [decide_eq_false (by omega)]; rfl)
    have h12i : (12 : Int) < (n : Int) := by omega
    clear h l hS
    go_enter Tryz.func120, Tryz.ntmps120
    go_wp2
    go_ret
    exact ⟨ret_bool HF.out.symm, by first | exact Below.refl _ _ | exact (Below.refl _ _).drew⟩
  have h12i : ¬ (12 : Int) < (n : Int) := by omega
  have CI := Lib.hid (incStr_any A n c xs w S h l m)
  rcases ti : inc cmS xs with _ | _
  · have HF := Lib.hid (show nmsB xs = false by unfold nmsB; rw [ti]; simp)
    have TI := Lib.hid ti
    clear h l ti hS
    go_enter Tryz.func120, Tryz.ntmps120
    go_wp2_with (go_at_call 142; refine CI.out.mono ?_; rw [TI.out]; rintro e w2 ⟨rfl, hd⟩; have HD := Lib.hid hd; clear hd)
    go_ret
    exact ⟨ret_bool HF.out.symm, HD.out.below _⟩
  have HV := Lib.hid (show nmsB xs = xs.all fun t => actionB t.data.toList by unfold nmsB; rw [ti, decide_eq_true (by omega)]; simp)
  have TI := Lib.hid ti
  have HS := Lib.hid hS
  clear l ti hS
  go_enter Tryz.func120, Tryz.ntmps120
  go_wp2_with (go_at_call 142; refine CI.out.mono ?_; rw [TI.out]; rintro e w2 ⟨rfl, hd⟩; have HD0 := Lib.hid (hd.below w.heap.size); clear hd)
  go_loopw [15] (fun i wr => ∃ k : Nat, k ≤ n ∧ i = .int .i64 k ∧ Hid (Below w.heap.size w wr) ∧ Hid ((xs.take k).all (fun t => actionB t.data.toList) = true)) (fun i _ => n - (intOf i).toNat)
  case atStart => exact ⟨0, Nat.zero_le _, rfl, HD0, Lib.hid rfl⟩
  case round =>
    obtain ⟨k, hk, rfl, HD, HT⟩ := hrel
    have hsz := HD.out.size
    by_cases hlt : k < n
    · obtain ⟨b, o, cs, u, rfl, hb, hR, hu, hc⟩ := (h.keep (SameOn.of_below HD.out HS.out)).at_ (k := k) (by rw [L.out]; exact hlt)
      obtain ⟨rfl, _⟩ := hR
      have r0 : wr.cell? ⟨b, o + k, none⟩ = some (.string u) := by have := hc 0 _ rfl; simpa [txtR] using this
      clear hc
      have CA := Lib.hid (fun W : World => implAction_any u W)
      rcases ta : actionB u.data.toList with _ | _
      · have HF := Lib.hid (all_false (p := fun t : ByteArray => actionB t.data.toList) hu.out ta)
        have TA := Lib.hid ta
        clear ta
        go_wp2_with (go_at_call 144; refine (CA.out _).mono ?_; rw [TA.out]; rintro e w3 ⟨rfl, hb⟩; have HB3 := Lib.hid (HD.out.trans (hb.mono hsz)); clear hb)
        go_ret
        exact ⟨ret_bool (by rw [HV.out, HF.out]), HB3.out⟩
      · have HN := Lib.hid (all_take_next (p := fun t : ByteArray => actionB t.data.toList) HT.out hu.out ta)
        have TA := Lib.hid ta
        clear ta
        go_wp2_with (go_at_call 144; refine (CA.out _).mono ?_; rw [TA.out]; rintro e w3 ⟨rfl, hb⟩; have HB3 := Lib.hid (HD.out.trans (hb.mono hsz)); clear hb)
        go_roundw
        case rel => exact ⟨k + 1, by omega, by go_num, HB3, HN⟩
        case measure => simp [intOf]; omega
    · have HF := Lib.hid (show xs.all (fun t => actionB t.data.toList) = true by
        have ht := HT.out
        rwa [List.take_of_length_le (by rw [L.out]; omega)] at ht)
      go_wp2
      go_ret
      exact ⟨ret_bool (by rw [HV.out, HF.out]), HD.out⟩
end Go.Proofs.YtdgcpaeneafejaaGreatDoor
