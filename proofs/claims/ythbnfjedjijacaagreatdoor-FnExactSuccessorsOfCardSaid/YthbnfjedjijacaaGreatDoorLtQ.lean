/- Valid transition systems: labels and edges compared by the program. -/
import Derived.Test.YthbnfjedjijacaaGreatDoorLtP
namespace Go.Proofs.YthbnfjedjijacaaGreatDoor
open Go.RowKit
set_option maxRecDepth 100000 in
set_option maxHeartbeats 2000000 in
theorem cmpLab_any (a b : ByteArray) (w : World) : Calls Tryz.prog 94 #[.string a, .string b] w fun e w' => e = .returned (.int .i64 (cmL a b)) ∧ Below w.heap.size w w' := by
  have HA : (a.toList == [116, 97, 117]) = isT a := rfl
  have HB : (b.toList == [116, 97, 117]) = isT b := rfl
  have HF := Lib.hid (show cmL a b = orL [cmI (trI (!isT a)) (trI (!isT b)), cmS a b] from rfl)
  have HBL := Lib.hid (fun o : Obj => (Below.refl w.heap.size w).alloc (Nat.le_refl _) o)
  go_enter Tryz.func94, Tryz.ntmps94
  go_wp2_with (first
    | (go_at_call 106; refine (truthI_any _ _).mono ?_; rintro e w' ⟨rfl, rfl⟩)
    | (go_at_call 98; refine (cmpInt_any _ _ _).mono ?_; rintro e w' ⟨rfl, rfl⟩)
    | (go_at_call 107; refine (cmpStr_any _ _ _).mono ?_; rintro e w' ⟨rfl, rfl⟩)
    | (go_at_call 97; refine (orN_any _ 2 [cmI (trI (!isT a)) (trI (!isT b)), cmS a b] _ (fun k u hk => by match k, hk with | 0, hk => (simp at hk; subst hk; simp [go_sem]) | 1, hk => (simp at hk; subst hk; simp [go_sem])) rfl (by decide)).mono ?_; rintro e w2 ⟨rfl, hb⟩; have HB2 := Lib.hid ((HBL.out _).trans (hb.mono (HBL.out _).size)); clear hb))
  go_ret
  exact ⟨by rw [HF.out]; rfl, HB2.out⟩
set_option maxRecDepth 100000 in
set_option maxHeartbeats 4000000 in
theorem cmpEd_any (x y : Ed) (w : World) : Calls Tryz.prog 73 #[.agg #[.int .i64 x.f, .int .i64 x.l, .int .i64 x.t], .agg #[.int .i64 y.f, .int .i64 y.l, .int .i64 y.t]] w fun e w' => e = .returned (.int .i64 (cmE x y)) ∧ Below w.heap.size w w' := by
  go_enter Tryz.func73, Tryz.ntmps73
  go_wp2
  obtain ⟨v, hv⟩ : ∃ v, v = (w.alloc (.cells #[.int .i64 x.f, .int .i64 x.l, .int .i64 x.t] 66)).alloc (.cells #[.int .i64 y.f, .int .i64 y.l, .int .i64 y.t] 66) := ⟨_, rfl⟩
  rw [← hv]
  have HB0 := Lib.hid (show Below w.heap.size w v by rw [hv]; exact ((Below.refl _ _).alloc (Nat.le_refl _) _).alloc (by simp) _)
  have hl : w.heap.size + 1 < v.heap.size := by rw [hv]; simp
  have d0 : v.drew.cell? ⟨w.heap.size, 0, none⟩ = some (.int .i64 x.f) := by rw [hv]; simp [go_sem]
  have d1 : v.drew.cell? ⟨w.heap.size, 1, none⟩ = some (.int .i64 x.l) := by rw [hv]; simp [go_sem]
  have d2 : v.drew.cell? ⟨w.heap.size, 2, none⟩ = some (.int .i64 x.t) := by rw [hv]; simp [go_sem]
  have e0 : v.drew.cell? ⟨w.heap.size + 1, 0, none⟩ = some (.int .i64 y.f) := by rw [hv]; simp [go_sem]
  have e1 : v.drew.cell? ⟨w.heap.size + 1, 1, none⟩ = some (.int .i64 y.l) := by rw [hv]; simp [go_sem]
  have e2 : v.drew.cell? ⟨w.heap.size + 1, 2, none⟩ = some (.int .i64 y.t) := by rw [hv]; simp [go_sem]
  have HF := Lib.hid (show cmE x y = orL [cmI x.f y.f, cmI x.l y.l, cmI x.t y.t] from rfl)
  clear hv
  refine wp_region_still_tail 15 (by kernel_rfl) (by kernel_rfl) ?_
  simp only [List.take_succ_cons, List.take_zero, List.drop_succ_cons, List.drop_zero]
  repeat still_step
  still_call (cmpInt_any x.f y.f _)
  repeat still_step
  still_call (cmpInt_any x.l y.l _)
  repeat still_step
  still_call (cmpInt_any x.t y.t _)
  refine wpStill_nil ?_
  change wpList _ _ _ _ _ v.drew
  go_wp2_with (go_at_call 97; refine (orN_any v.heap.size 3 [cmI x.f y.f, cmI x.l y.l, cmI x.t y.t] _ (fun k u hk => by match k, hk with | 0, hk => (simp at hk; subst hk; simp [go_sem]) | 1, hk => (simp at hk; subst hk; simp [go_sem]) | 2, hk => (simp at hk; subst hk; simp [go_sem])) rfl (by decide)).mono ?_; rintro e w2 ⟨rfl, hb⟩; have HB2 := Lib.hid hb; clear hb)
  go_ret
  exact ⟨by rw [HF.out]; rfl, HB0.out.trans (Below.trans (b := v.drew.alloc _) (((Below.refl _ _).drew).alloc (HB0.out.size) _) (HB2.out.mono (by have h := HB0.out.size; simp; omega)))⟩
set_option maxRecDepth 100000 in
set_option maxHeartbeats 2000000 in
theorem incEd_any (A : Option Addr) (n c : Nat) (xs : List Ed) (w : World) (S : Nat → Prop) (h : LRow edR w S A xs) (l : xs.length = n) (m : n ≤ 1048576) (hS : ∀ b, S b → b < w.heap.size) :
    Calls Tryz.prog 72 #[.slice A n c, .func (.func 73) #[] #[]] w fun e w' => e = .returned (.bool (inc cmE xs)) ∧ Below w.heap.size w w' := by
  have L := Lib.hid l
  have HR := Lib.hid h
  have HS := Lib.hid hS
  clear h l hS
  go_enter Tryz.func72, Tryz.ntmps72
  go_wp2
  go_loopw [5] (fun i wr => ∃ j : Nat, 1 ≤ j ∧ (j ≤ n ∨ j = 1) ∧ i = .int .i64 j ∧ Hid (Below w.heap.size w wr) ∧ Hid (inc cmE (xs.take j) = true)) (fun i _ => n + 1 - (intOf i).toNat)
  case atStart => exact ⟨1, Nat.le_refl _, .inr rfl, rfl, Lib.hid (Below.refl _ _), Lib.hid (inc_short _ _)⟩
  case round =>
    obtain ⟨j, hj1, hk, rfl, HB, HT⟩ := hrel
    have hsz := HB.out.size
    by_cases hlt : j < n
    · obtain ⟨k, hkj⟩ : ∃ k, j = k + 1 := ⟨j - 1, by omega⟩
      obtain ⟨b, o, cs, u, rfl, hb, hR, hu, hc⟩ := (HR.out.keep (SameOn.of_below HB.out HS.out)).at_ (k := k) (by rw [L.out]; omega)
      have hR : cs = [Value.int .i64 u.f, Value.int .i64 u.l, Value.int .i64 u.t] := hR
      subst hR
      obtain ⟨b', o', cs', v, eA, hb', hR', hv, hc'⟩ := (HR.out.keep (SameOn.of_below HB.out HS.out)).at_ (k := j) (by rw [L.out]; exact hlt)
      have hR' : cs' = [Value.int .i64 v.f, Value.int .i64 v.l, Value.int .i64 v.t] := hR'
      subst hR'
      injection eA with eA
      injection eA with e1 e2
      subst e1 e2
      have r0 : wr.drew.cell? ⟨b, o + k * 3, none⟩ = some (.int .i64 u.f) := hc 0 _ rfl
      have r1 : wr.drew.cell? ⟨b, o + k * 3 + 1, none⟩ = some (.int .i64 u.l) := hc 1 _ rfl
      have r2 : wr.drew.cell? ⟨b, o + k * 3 + 2, none⟩ = some (.int .i64 u.t) := hc 2 _ rfl
      have t0 : wr.drew.cell? ⟨b, o + j * 3, none⟩ = some (.int .i64 v.f) := hc' 0 _ rfl
      have t1 : wr.drew.cell? ⟨b, o + j * 3 + 1, none⟩ = some (.int .i64 v.l) := hc' 1 _ rfl
      have t2 : wr.drew.cell? ⟨b, o + j * 3 + 2, none⟩ = some (.int .i64 v.t) := hc' 2 _ rfl
      have hwk : IntKind.i64.wrap ((j : Int) - 1) = (k : Int) := by (rw [IntKind.wrap_i64]; omega)
      have hkn : k < n := by omega
      have hv' := hv.out
      rw [hkj] at hv'
      have HV' := Lib.hid hv'
      have HJ := Lib.hid hkj
      clear hkj hv'
      have C := Lib.hid (cmpEd_any u v wr.drew)
      obtain ⟨q, hq⟩ : ∃ q, q = cmE u v := ⟨_, rfl⟩
      rw [← hq] at C
      have HQ := Lib.hid hq
      clear hc hc' hq
      by_cases tl : q < 0
      · have HN := Lib.hid (show inc cmE (xs.take (j + 1)) = true by have ht := HT.out; rw [HJ.out] at ht ⊢; rw [inc_step hu.out HV'.out, ht, ← HQ.out, decide_eq_true tl]; rfl)
        have hg : ¬ (0 : Int) ≤ q := by omega
        clear tl
        go_wp2
        go_still_tail 10, (by kernel_rfl)
        change wpList _ _ _ _ _ wr.drew
        go_wp2_with (go_at_call 73; refine (C.out).mono ?_; rintro e w2 ⟨rfl, b2⟩; have B2 := Lib.hid b2; clear b2)
        go_roundw
        case rel => exact ⟨j + 1, by omega, .inl (by omega), by go_num, Lib.hid ((HB.out.drew).trans (B2.out.mono hsz)), HN⟩
        case measure => simp [intOf]; omega
      · have HF := Lib.hid (show inc cmE xs = false from inc_bad hu.out HV'.out (by rw [← HQ.out]; exact tl))
        have hg : (0 : Int) ≤ q := by omega
        clear tl
        go_wp2
        go_still_tail 10, (by kernel_rfl)
        change wpList _ _ _ _ _ wr.drew
        go_wp2_with (go_at_call 73; refine (C.out).mono ?_; rintro e w2 ⟨rfl, b2⟩; have B2 := Lib.hid b2; clear b2)
        go_ret
        exact ⟨ret_bool HF.out.symm, (HB.out.drew).trans (B2.out.mono hsz)⟩
    · have HF := Lib.hid (show inc cmE xs = true by
        have ht := HT.out
        rwa [List.take_of_length_le (by rw [L.out]; omega)] at ht)
      go_wp2
      go_ret
      exact ⟨ret_bool HF.out.symm, HB.out⟩
set_option maxRecDepth 100000 in
set_option maxHeartbeats 2000000 in
theorem incLab_any (A : Option Addr) (n c : Nat) (xs : List ByteArray) (w : World) (S : Nat → Prop) (h : LRow txtR w S A xs) (l : xs.length = n) (m : n ≤ 1048576) (hS : ∀ b, S b → b < w.heap.size) :
    Calls Tryz.prog 93 #[.slice A n c, .func (.func 94) #[] #[]] w fun e w' => e = .returned (.bool (inc cmL xs)) ∧ Below w.heap.size w w' := by
  have L := Lib.hid l
  have HR := Lib.hid h
  have HS := Lib.hid hS
  clear h l hS
  go_enter Tryz.func93, Tryz.ntmps93
  go_wp2
  go_loopw [5] (fun i wr => ∃ j : Nat, 1 ≤ j ∧ (j ≤ n ∨ j = 1) ∧ i = .int .i64 j ∧ Hid (Below w.heap.size w wr) ∧ Hid (inc cmL (xs.take j) = true)) (fun i _ => n + 1 - (intOf i).toNat)
  case atStart => exact ⟨1, Nat.le_refl _, .inr rfl, rfl, Lib.hid (Below.refl _ _), Lib.hid (inc_short _ _)⟩
  case round =>
    obtain ⟨j, hj1, hk, rfl, HB, HT⟩ := hrel
    have hsz := HB.out.size
    by_cases hlt : j < n
    · obtain ⟨k, hkj⟩ : ∃ k, j = k + 1 := ⟨j - 1, by omega⟩
      obtain ⟨b, o, cs, u, rfl, hb, hR, hu, hc⟩ := (HR.out.keep (SameOn.of_below HB.out HS.out)).at_ (k := k) (by rw [L.out]; omega)
      obtain ⟨rfl, _⟩ := hR
      obtain ⟨b', o', cs', v, eA, hb', hR', hv, hc'⟩ := (HR.out.keep (SameOn.of_below HB.out HS.out)).at_ (k := j) (by rw [L.out]; exact hlt)
      obtain ⟨rfl, _⟩ := hR'
      injection eA with eA
      injection eA with e1 e2
      subst e1 e2
      have r0 : wr.drew.cell? ⟨b, o + k, none⟩ = some (.string u) := by have h := hc 0 _ rfl; simpa [txtR] using h
      have t0 : wr.drew.cell? ⟨b, o + j, none⟩ = some (.string v) := by have h := hc' 0 _ rfl; simpa [txtR] using h
      have hwk : IntKind.i64.wrap ((j : Int) - 1) = (k : Int) := by (rw [IntKind.wrap_i64]; omega)
      have hkn : k < n := by omega
      have hv' := hv.out
      rw [hkj] at hv'
      have HV' := Lib.hid hv'
      have HJ := Lib.hid hkj
      clear hkj hv'
      have C := Lib.hid (cmpLab_any u v wr.drew)
      obtain ⟨q, hq⟩ : ∃ q, q = cmL u v := ⟨_, rfl⟩
      rw [← hq] at C
      have HQ := Lib.hid hq
      clear hc hc' hq
      by_cases tl : q < 0
      · have HN := Lib.hid (show inc cmL (xs.take (j + 1)) = true by have ht := HT.out; rw [HJ.out] at ht ⊢; rw [inc_step hu.out HV'.out, ht, ← HQ.out, decide_eq_true tl]; rfl)
        have hg : ¬ (0 : Int) ≤ q := by omega
        clear tl
        go_wp2
        go_still_tail 10, (by kernel_rfl)
        change wpList _ _ _ _ _ wr.drew
        go_wp2_with (go_at_call 94; refine (C.out).mono ?_; rintro e w2 ⟨rfl, b2⟩; have B2 := Lib.hid b2; clear b2)
        go_roundw
        case rel => exact ⟨j + 1, by omega, .inl (by omega), by go_num, Lib.hid ((HB.out.drew).trans (B2.out.mono hsz)), HN⟩
        case measure => simp [intOf]; omega
      · have HF := Lib.hid (show inc cmL xs = false from inc_bad hu.out HV'.out (by rw [← HQ.out]; exact tl))
        have hg : (0 : Int) ≤ q := by omega
        clear tl
        go_wp2
        go_still_tail 10, (by kernel_rfl)
        change wpList _ _ _ _ _ wr.drew
        go_wp2_with (go_at_call 94; refine (C.out).mono ?_; rintro e w2 ⟨rfl, b2⟩; have B2 := Lib.hid b2; clear b2)
        go_ret
        exact ⟨ret_bool HF.out.symm, (HB.out.drew).trans (B2.out.mono hsz)⟩
    · have HF := Lib.hid (show inc cmL xs = true by
        have ht := HT.out
        rwa [List.take_of_length_le (by rw [L.out]; omega)] at ht)
      go_wp2
      go_ret
      exact ⟨ret_bool HF.out.symm, HB.out⟩
end Go.Proofs.YthbnfjedjijacaaGreatDoor
