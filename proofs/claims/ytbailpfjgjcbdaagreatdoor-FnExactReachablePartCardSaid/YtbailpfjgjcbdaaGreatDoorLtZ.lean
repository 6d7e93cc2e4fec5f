/- Valid transition systems: labels and edges compared by the program. -/
/- Valid transition systems: the program. -/
/- Valid transition systems: the program's function. -/
import Derived.Test.YtbailpfjgjcbdaaGreatDoorLtC
namespace Go.Proofs.YtbailpfjgjcbdaaGreatDoor
open Go.RowKit
set_option maxRecDepth 100000 in
set_option maxHeartbeats 2000000 in
theorem cmpLab_any (a b : ByteArray) (w : World) : Calls Tryz.prog 95 #[.string a, .string b] w fun e w' => e = .returned (.int .i64 (cmL a b)) ∧ Below w.heap.size w w' := by
  have HA : (a.toList == [116, 97, 117]) = isT a := rfl
  have HB : (b.toList == [116, 97, 117]) = isT b := rfl
  have HF := Lib.hid (show cmL a b = orL [cmI (trI (!isT a)) (trI (!isT b)), cmS a b] from rfl)
  have HBL := Lib.hid (fun o : Obj => (Below.refl w.heap.size w).alloc (Nat.le_refl _) o)
  go_enter Tryz.func95, Tryz.ntmps95
  go_wp2_with (first
    | (go_at_call 110; refine (truthI_any _ _).mono ?_; rintro e w' ⟨rfl, rfl⟩)
    | (go_at_call 85; refine (cmpInt_any _ _ _).mono ?_; rintro e w' ⟨rfl, rfl⟩)
    | (go_at_call 111; refine (cmpStr_any _ _ _).mono ?_; rintro e w' ⟨rfl, rfl⟩)
    | (go_at_call 97; refine (orN_any _ 2 [cmI (trI (!isT a)) (trI (!isT b)), cmS a b] _ (fun k u hk => by match k, hk with | 0, hk => (simp at hk; subst hk; simp [go_sem]) | 1, hk => (simp at hk; subst hk; simp [go_sem])) rfl (by decide)).mono ?_; rintro e w2 ⟨rfl, hb⟩; have HB2 := Lib.hid ((HBL.out _).trans (hb.mono (HBL.out _).size)); clear hb))
  go_ret
  exact ⟨by rw [HF.out]; rfl, HB2.out⟩
set_option maxRecDepth 100000 in
set_option maxHeartbeats 4000000 in
theorem cmpEd_any (x y : Ed) (w : World) : Calls Tryz.prog 74 #[.agg #[.int .i64 x.f, .int .i64 x.l, .int .i64 x.t], .agg #[.int .i64 y.f, .int .i64 y.l, .int .i64 y.t]] w fun e w' => e = .returned (.int .i64 (cmE x y)) ∧ Below w.heap.size w w' := by
  go_enter Tryz.func74, Tryz.ntmps74
  go_wp2
  obtain ⟨v, hv⟩ : ∃ v, v = (w.alloc (.cells #[.int .i64 x.f, .int .i64 x.l, .int .i64 x.t] 79)).alloc (.cells #[.int .i64 y.f, .int .i64 y.l, .int .i64 y.t] 79) := ⟨_, rfl⟩
  rw [← hv]
  have HB0 := Lib.hid (show Below w.heap.size w v by rw [hv]; exact ((Below.refl _ _).alloc (Nat.le_refl _) _).alloc (by simp) _)
  have hl : w.heap.size + 1 < v.heap.size := by rw [hv]; simp
  have d0 : v.drew.cell? ⟨w.heap.size, 0, none⟩ = some (.int .i64 x.f) := by rw [hv]; simp [go_sem]
  have d1 : v.drew.cell? ⟨w.heap.size, 1, none⟩ = some (.int .i64 x.l) := by rw [hv]; simp [go_sem]
  have d2 : v.drew.cell? ⟨w.heap.size, 2, none⟩ = some (.int .i64 x.t) := by rw [hv]; simp [go_sem]
  have e0 : v.drew.cell? ⟨w.heap.size + 1, 0, none⟩ = some (.int .i64 y.f) := by rw [hv]; simp [go_sem]
  have e1 : v.drew.cell? ⟨w.heap.size + 1, 1, none⟩ = some (.int .i64 y.l) := by rw [hv]; simp [go_sem]
  have e2 : v.drew.cell? ⟨w.heap.size + 1, 2, none⟩ = some (.int .i64 y.t) := by rw [hv]; simp [go_sem]
  have HF := Lib.hid (show cmE x y = orL [cmI x.f y.f, cmI x.l y.l, cmI x.t y.t] from rfl)
  clear hv
  refine wp_region_still_tail 15 (by kernel_rfl) (by kernel_rfl) ?_
  simp only [List.take_succ_cons, List.take_zero, List.drop_succ_cons, List.drop_zero]
  repeat still_step
  still_call (cmpInt_any x.f y.f _)
  repeat still_step
  still_call (cmpInt_any x.l y.l _)
  repeat still_step
  still_call (cmpInt_any x.t y.t _)
  refine wpStill_nil ?_
  change wpList _ _ _ _ _ v.drew
  go_wp2_with (go_at_call 97; refine (orN_any v.heap.size 3 [cmI x.f y.f, cmI x.l y.l, cmI x.t y.t] _ (fun k u hk => by match k, hk with | 0, hk => (simp at hk; subst hk; simp [go_sem]) | 1, hk => (simp at hk; subst hk; simp [go_sem]) | 2, hk => (simp at hk; subst hk; simp [go_sem])) rfl (by decide)).mono ?_; rintro e w2 ⟨rfl, hb⟩; have HB2 := Lib.hid hb; clear hb)
  go_ret
  exact ⟨by rw [HF.out]; rfl, HB0.out.trans (Below.trans (b := v.drew.alloc _) (((Below.refl _ _).drew).alloc (HB0.out.size) _) (HB2.out.mono (by have h := HB0.out.size; simp; omega)))⟩
set_option maxRecDepth 100000 in
set_option maxHeartbeats 2000000 in
theorem incEd_any (A : Option Addr) (n c : Nat) (xs : List Ed) (w : World) (S : Nat → Prop) (h : LRow edR w S A xs) (l : xs.length = n) (m : n ≤ 1048576) (hS : ∀ b, S b → b < w.heap.size) :
    Calls Tryz.prog 73 #[.slice A n c, .func (.func 74) #[] #[]] w fun e w' => e = .returned (.bool (inc cmE xs)) ∧ Below w.heap.size w w' := by
  have L := Lib.hid l
  have HR := Lib.hid h
  have HS := Lib.hid hS
  clear h l hS
  go_enter Tryz.func73, Tryz.ntmps73
  go_wp2
  go_loopw [5] (fun i wr => ∃ j : Nat, 1 ≤ j ∧ (j ≤ n ∨ j = 1) ∧ i = .int .i64 j ∧ Hid (Below w.heap.size w wr) ∧ Hid (inc cmE (xs.take j) = true)) (fun i _ => n + 1 - (intOf i).toNat)
  case atStart => exact ⟨1, Nat.le_refl _, .inr rfl, rfl, Lib.hid (Below.refl _ _), Lib.hid (inc_short _ _)⟩
  case round =>
    obtain ⟨j, hj1, hk, rfl, HB, HT⟩ := hrel
    have hsz := HB.out.size
    by_cases hlt : j < n
    · obtain ⟨k, hkj⟩ : ∃ k, j = k + 1 := ⟨j - 1, by omega⟩
      obtain ⟨b, o, cs, u, rfl, hb, hR, hu, hc⟩ := (HR.out.keep (SameOn.of_below HB.out HS.out)).at_ (k := k) (by rw [L.out]; omega)
      have hR : cs = [Value.int .i64 u.f, Value.int .i64 u.l, Value.int .i64 u.t] := hR
      subst hR
      obtain ⟨b', o', cs', v, eA, hb', hR', hv, hc'⟩ := (HR.out.keep (SameOn.of_below HB.out HS.out)).at_ (k := j) (by rw [L.out]; exact hlt)
      have hR' : cs' = [Value.int .i64 v.f, Value.int .i64 v.l, Value.int .i64 v.t] := hR'
      subst hR'
      injection eA with eA
      injection eA with e1 e2
      subst e1 e2
      have r0 : wr.drew.cell? ⟨b, o + k * 3, none⟩ = some (.int .i64 u.f) := hc 0 _ rfl
      have r1 : wr.drew.cell? ⟨b, o + k * 3 + 1, none⟩ = some (.int .i64 u.l) := hc 1 _ rfl
      have r2 : wr.drew.cell? ⟨b, o + k * 3 + 2, none⟩ = some (.int .i64 u.t) := hc 2 _ rfl
      have t0 : wr.drew.cell? ⟨b, o + j * 3, none⟩ = some (.int .i64 v.f) := hc' 0 _ rfl
      have t1 : wr.drew.cell? ⟨b, o + j * 3 + 1, none⟩ = some (.int .i64 v.l) := hc' 1 _ rfl
      have t2 : wr.drew.cell? ⟨b, o + j * 3 + 2, none⟩ = some (.int .i64 v.t) := hc' 2 _ rfl
      have hwk : IntKind.i64.wrap ((j : Int) - 1) = (k : Int) := by (rw [IntKind.wrap_i64]; omega)
      have hkn : k < n := by omega
      have hv' := hv.out
      rw [hkj] at hv'
      have HV' := Lib.hid hv'
      have HJ := Lib.hid hkj
      clear hkj hv'
      have C := Lib.hid (cmpEd_any u v wr.drew)
      obtain ⟨q, hq⟩ : ∃ q, q = cmE u v := ⟨_, rfl⟩
      rw [← hq] at C
      have HQ := Lib.hid hq
      clear hc hc' hq
      by_cases tl : q < 0
      · have HN := Lib.hid (show inc cmE (xs.take (j + 1)) = true by have ht := HT.out; rw [HJ.out] at ht ⊢; rw [inc_step hu.out HV'.out, ht, ← HQ.out, decide_eq_true tl]; rfl)
        have hg : ¬ (0 : Int) ≤ q := by omega
        clear tl
        go_wp2
        go_still_tail 10, (by kernel_rfl)
        change wpList _ _ _ _ _ wr.drew
        go_wp2_with (go_at_call 74; refine (C.out).mono ?_; rintro e w2 ⟨rfl, b2⟩; have B2 := Lib.hid b2; clear b2)
        go_roundw
        case rel => exact ⟨j + 1, by omega, .inl (by omega), by go_num, Lib.hid ((HB.out.drew).trans (B2.out.mono hsz)), HN⟩
        case measure => simp [intOf]; omega
      · have HF := Lib.hid (show inc cmE xs = false from inc_bad hu.out HV'.out (by rw [← HQ.out]; exact tl))
        have hg : (0 : Int) ≤ q := by omega
        clear tl
        go_wp2
        go_still_tail 10, (by kernel_rfl)
        change wpList _ _ _ _ _ wr.drew
        go_wp2_with (go_at_call 74; refine (C.out).mono ?_; rintro e w2 ⟨rfl, b2⟩; have B2 := Lib.hid b2; clear b2)
        go_ret
        exact ⟨ret_bool HF.out.symm, (HB.out.drew).trans (B2.out.mono hsz)⟩
    · have HF := Lib.hid (show inc cmE xs = true by
        have ht := HT.out
        rwa [List.take_of_length_le (by rw [L.out]; omega)] at ht)
      go_wp2
      go_ret
      exact ⟨ret_bool HF.out.symm, HB.out⟩
set_option maxRecDepth 100000 in
set_option maxHeartbeats 2000000 in
theorem incLab_any (A : Option Addr) (n c : Nat) (xs : List ByteArray) (w : World) (S : Nat → Prop) (h : LRow txtR w S A xs) (l : xs.length = n) (m : n ≤ 1048576) (hS : ∀ b, S b → b < w.heap.size) :
    Calls Tryz.prog 94 #[.slice A n c, .func (.func 95) #[] #[]] w fun e w' => e = .returned (.bool (inc cmL xs)) ∧ Below w.heap.size w w' := by
  have L := Lib.hid l
  have HR := Lib.hid h
  have HS := Lib.hid hS
  clear h l hS
  go_enter Tryz.func94, Tryz.ntmps94
  go_wp2
  go_loopw [5] (fun i wr => ∃ j : Nat, 1 ≤ j ∧ (j ≤ n ∨ j = 1) ∧ i = .int .i64 j ∧ Hid (Below w.heap.size w wr) ∧ Hid (inc cmL (xs.take j) = true)) (fun i _ => n + 1 - (intOf i).toNat)
  case atStart => exact ⟨1, Nat.le_refl _, .inr rfl, rfl, Lib.hid (Below.refl _ _), Lib.hid (inc_short _ _)⟩
  case round =>
    obtain ⟨j, hj1, hk, rfl, HB, HT⟩ := hrel
    have hsz := HB.out.size
    by_cases hlt : j < n
    · obtain ⟨k, hkj⟩ : ∃ k, j = k + 1 := ⟨j - 1, by omega⟩
      obtain ⟨b, o, cs, u, rfl, hb, hR, hu, hc⟩ := (HR.out.keep (SameOn.of_below HB.out HS.out)).at_ (k := k) (by rw [L.out]; omega)
      obtain ⟨rfl, _⟩ := hR
      obtain ⟨b', o', cs', v, eA, hb', hR', hv, hc'⟩ := (HR.out.keep (SameOn.of_below HB.out HS.out)).at_ (k := j) (by rw [L.out]; exact hlt)
      obtain ⟨rfl, _⟩ := hR'
      injection eA with eA
      injection eA with e1 e2
      subst e1 e2
      have r0 : wr.drew.cell? ⟨b, o + k, none⟩ = some (.string u) := by have h := hc 0 _ rfl; simpa [txtR] using h
      have t0 : wr.drew.cell? ⟨b, o + j, none⟩ = some (.string v) := by have h := hc' 0 _ rfl; simpa [txtR] using h
      have hwk : IntKind.i64.wrap ((j : Int) - 1) = (k : Int) := by (rw [IntKind.wrap_i64]; omega)
      have hkn : k < n := by omega
      have hv' := hv.out
      rw [hkj] at hv'
      have HV' := Lib.hid hv'
      have HJ := Lib.hid hkj
      clear hkj hv'
      have C := Lib.hid (cmpLab_any u v wr.drew)
      obtain ⟨q, hq⟩ : ∃ q, q = cmL u v := ⟨_, rfl⟩
      rw [← hq] at C
      have HQ := Lib.hid hq
      clear hc hc' hq
      by_cases tl : q < 0
      · have HN := Lib.hid (show inc cmL (xs.take (j + 1)) = true by have ht := HT.out; rw [HJ.out] at ht ⊢; rw [inc_step hu.out HV'.out, ht, ← HQ.out, decide_eq_true tl]; rfl)
        have hg : ¬ (0 : Int) ≤ q := by omega
        clear tl
        go_wp2
        go_still_tail 10, (by kernel_rfl)
        change wpList _ _ _ _ _ wr.drew
        go_wp2_with (go_at_call 95; refine (C.out).mono ?_; rintro e w2 ⟨rfl, b2⟩; have B2 := Lib.hid b2; clear b2)
        go_roundw
        case rel => exact ⟨j + 1, by omega, .inl (by omega), by go_num, Lib.hid ((HB.out.drew).trans (B2.out.mono hsz)), HN⟩
        case measure => simp [intOf]; omega
      · have HF := Lib.hid (show inc cmL xs = false from inc_bad hu.out HV'.out (by rw [← HQ.out]; exact tl))
        have hg : (0 : Int) ≤ q := by omega
        clear tl
        go_wp2
        go_still_tail 10, (by kernel_rfl)
        change wpList _ _ _ _ _ wr.drew
        go_wp2_with (go_at_call 95; refine (C.out).mono ?_; rintro e w2 ⟨rfl, b2⟩; have B2 := Lib.hid b2; clear b2)
        go_ret
        exact ⟨ret_bool HF.out.symm, (HB.out.drew).trans (B2.out.mono hsz)⟩
    · have HF := Lib.hid (show inc cmL xs = true by
        have ht := HT.out
        rwa [List.take_of_length_le (by rw [L.out]; omega)] at ht)
      go_wp2
      go_ret
      exact ⟨ret_bool HF.out.symm, HB.out⟩
end Go.Proofs.YtbailpfjgjcbdaaGreatDoor

namespace Go.Proofs.YtbailpfjgjcbdaaGreatDoor
open Go.RowKit
theorem isNoLab_any (s : ByteArray) (w : World) (hsz : s.size ≤ 1048576) (ht : TxtTabs w) : Calls Tryz.prog 96 #[.string s] w fun e w' => e = .returned (.bool (!labB s)) ∧ Below w.heap.size w w' := by
  have C := Lib.hid (implIsLabel_any s w hsz ht)
  have HL := Lib.hid (show (lvR s.data.toList).2 = labB s from rfl)
  clear ht
  go_enter Tryz.func96, Tryz.ntmps96
  go_wp2_with (go_at_call 78; refine (C.out).mono ?_; rw [HL.out]; rintro e w2 ⟨rfl, hb⟩; have HB := Lib.hid hb; clear hb)
  go_ret
  exact ⟨rfl, HB.out⟩
/-- Where the first element stands that is not as it should be; -1 if there is none. -/
def IdxAll {α : Type} (q : α → Bool) (xs : List α) (w : World) (e : Ending) (w' : World) : Prop := ∃ r : Int, e = .returned (.int .i64 r) ∧ ((xs.all q = true ∧ r = -1) ∨ (xs.all q = false ∧ 0 ≤ r)) ∧ Below w.heap.size w w'
set_option maxRecDepth 100000 in
set_option maxHeartbeats 2000000 in
theorem idxLab_any (A : Option Addr) (n c : Nat) (xs : List ByteArray) (w : World) (S : Nat → Prop) (h : LRow txtR w S A xs) (l : xs.length = n) (m : n ≤ 1048576) (hS : ∀ b, S b → b < w.heap.size) (ok : ∀ x ∈ xs, okTx x) (ht : TxtTabs w) :
    Calls Tryz.prog 77 #[.slice A n c, .func (.func 96) #[] #[]] w (IdxAll labB xs w) := by
  have L := Lib.hid l
  have HR := Lib.hid h
  have HS := Lib.hid hS
  have OK := Lib.hid ok
  have HT := Lib.hid ht
  clear h l hS ok ht
  go_enter Tryz.func77, Tryz.ntmps77
  go_wp2
  go_loopw [8] (fun i wr => ∃ k : Nat, k ≤ n ∧ i = .int .i64 k ∧ Hid (Below w.heap.size w wr) ∧ Hid ((xs.take k).all labB = true)) (fun i _ => n - (intOf i).toNat)
  case atStart => exact ⟨0, Nat.zero_le _, rfl, Lib.hid (Below.refl _ _), Lib.hid rfl⟩
  case round =>
    obtain ⟨k, hk, rfl, HB, HE⟩ := hrel
    have hsz := HB.out.size
    by_cases hlt : k < n
    · obtain ⟨b, o, cs, u, rfl, hb, hR, hu, hc⟩ := (HR.out.keep (SameOn.of_below HB.out HS.out)).at_ (k := k) (by rw [L.out]; exact hlt)
      obtain ⟨rfl, _⟩ := hR
      have r0 : wr.cell? ⟨b, o + k, none⟩ = some (.string u) := by have := hc 0 _ rfl; simpa [txtR] using this
      have C := Lib.hid (isNoLab_any u wr (OK.out u (List.mem_of_getElem? hu.out)) (HT.out.below HB.out))
      clear hc
      rcases ta : labB u with _ | _
      · have HF := Lib.hid (all_false (p := labB) hu.out ta)
        have TA := Lib.hid ta
        clear ta
        go_wp2_with (go_at_call 96; refine (C.out).mono ?_; rw [TA.out]; rintro e w3 ⟨rfl, hb3⟩; have HB3 := Lib.hid (HB.out.trans (hb3.mono hsz)); clear hb3)
        go_ret
        exact ⟨_, rfl, .inr ⟨HF.out, by omega⟩, HB3.out⟩
      · have HN := Lib.hid (all_take_next (p := labB) HE.out hu.out ta)
        have TA := Lib.hid ta
        clear ta
        go_wp2_with (go_at_call 96; refine (C.out).mono ?_; rw [TA.out]; rintro e w3 ⟨rfl, hb3⟩; have HB3 := Lib.hid (HB.out.trans (hb3.mono hsz)); clear hb3)
        go_roundw
        case rel => exact ⟨k + 1, by omega, by go_num, HB3, HN⟩
        case measure => simp [intOf]; omega
    · have HF := Lib.hid (show xs.all labB = true by
        have ht := HE.out
        rwa [List.take_of_length_le (by rw [L.out]; omega)] at ht)
      go_wp2
      go_ret
      exact ⟨_, rfl, .inl ⟨HF.out, rfl⟩, HB.out⟩
theorem conLab_any (A : Option Addr) (n c : Nat) (xs : List ByteArray) (w : World) (S : Nat → Prop) (h : LRow txtR w S A xs) (l : xs.length = n) (m : n ≤ 1048576) (hS : ∀ b, S b → b < w.heap.size) (ok : ∀ x ∈ xs, okTx x) (ht : TxtTabs w) :
    Calls Tryz.prog 42 #[.slice A n c, .func (.func 96) #[] #[]] w fun e w' => e = .returned (.bool (!(xs.all labB))) ∧ Below w.heap.size w w' := by
  have C := Lib.hid (idxLab_any A n c xs w S h l m hS ok ht)
  clear h l hS ok ht
  go_enter Tryz.func42, Tryz.ntmps42
  go_wp2_with fail
  refine (C.out).mono ?_
  rintro e w2 ⟨r, rfl, (⟨h1, rfl⟩ | ⟨h1, h2⟩), hb⟩
  · have HB := Lib.hid hb
    have H1 := Lib.hid h1
    clear hb h1
    go_wp2
    go_ret
    exact ⟨by rw [H1.out]; rfl, HB.out⟩
  · have HB := Lib.hid hb
    have H1 := Lib.hid h1
    clear hb h1
    go_wp2
    go_ret
    exact ⟨by rw [H1.out]; rfl, HB.out⟩
set_option maxRecDepth 100000 in
set_option maxHeartbeats 4000000 in
theorem areLabels_any (A : Option Addr) (n c : Nat) (xs : List ByteArray) (w : World) (S : Nat → Prop) (h : LRow txtR w S A xs) (l : xs.length = n) (m : n ≤ 1048576) (hS : ∀ b, S b → b < w.heap.size) (ok : ∀ x ∈ xs, okTx x) (ht : TxtTabs w) :
    Calls Tryz.prog 72 #[.slice A n c] w fun e w' => e = .returned (.bool (lsOk xs)) ∧ Below w.heap.size w w' := by
  by_cases h1 : 1 ≤ n
  case neg =>
    have HF := Lib.hid (lsOk_len (ls := xs) (by rw [l]; omega))
    clear h l hS ok ht
    go_enter Tryz.func72, Tryz.ntmps72
    go_wp2
    go_ret
    exact ⟨by rw [HF.out]; rfl, Below.refl _ _⟩
  by_cases h12 : n ≤ 12
  case neg =>
    have HF := Lib.hid (lsOk_len (ls := xs) (by rw [l]; omega))
    clear h l hS ok ht
    go_enter Tryz.func72, Tryz.ntmps72
    go_wp2
    go_ret
    exact ⟨by rw [HF.out]; rfl, Below.refl _ _⟩
  obtain ⟨b, o, cs, u, rfl, hb, hR, hu, hc⟩ := h.at_ (k := 0) (by omega)
  obtain ⟨rfl, _⟩ := hR
  have r0 : w.cell? ⟨b, o, none⟩ = some (.string u) := by have := hc 0 _ rfl; simpa [txtR] using this
  have hT : (u.toList == [116, 97, 117]) = isT u := rfl
  rcases tu : isT u with _ | _
  · rw [tu] at hT
    have HF := Lib.hid (lsOk_head hu.out tu)
    clear h l hS ok ht hc tu
    go_enter Tryz.func72, Tryz.ntmps72
    go_wp2
    go_ret
    exact ⟨by rw [HF.out]; rfl, Below.refl _ _⟩
  rw [tu] at hT
  have CI := Lib.hid (incLab_any (some ⟨b, o, none⟩) n c xs w S h l m hS)
  rcases ti : inc cmL xs with _ | _
  · have HF := Lib.hid (lsOk_inc ti)
    have TI := Lib.hid ti
    clear h l hS ok ht hc tu ti
    go_enter Tryz.func72, Tryz.ntmps72
    go_wp2_with (go_at_call 94; refine (CI.out).mono ?_; rw [TI.out]; rintro e w2 ⟨rfl, hb2⟩; have HB2 := Lib.hid hb2; clear hb2)
    go_ret
    exact ⟨by rw [HF.out]; rfl, HB2.out⟩
  have CC := Lib.hid (fun (W : World) (hW : Below w.heap.size w W) => conLab_any (some ⟨b, o, none⟩) n c xs W S (h.keep (SameOn.of_below hW hS)) l m (fun b hb => Nat.lt_of_lt_of_le (hS b hb) hW.size) ok (ht.below hW))
  have HF := Lib.hid (show lsOk xs = xs.all labB by
    rcases ta : xs.all labB with _ | _
    · exact lsOk_lab ta
    · exact lsOk_yes (by omega) hu.out tu ti ta)
  have TI := Lib.hid ti
  clear h l hS ok ht hc tu ti
  go_enter Tryz.func72, Tryz.ntmps72
  go_wp2_with (first
    | (go_at_call 94; refine (CI.out).mono ?_; rw [TI.out]; rintro e w2 ⟨rfl, hb2⟩; have HB2 := Lib.hid hb2; clear hb2)
    | (go_at_call 42; refine (CC.out _ HB2.out).mono ?_; rintro e w3 ⟨rfl, hb3⟩; have HB3 := Lib.hid (HB2.out.trans (hb3.mono HB2.out.size)); clear hb3))
  go_ret
  exact ⟨by rw [HF.out]; simp, HB3.out⟩
abbrev ltCells (x : Lt) (A1 A2 : Option Addr) (c1 c2 : Nat) : Value := .agg #[.int .i64 x.st, .int .i64 x.ini, .slice A1 x.ls.length c1, .slice A2 x.es.length c2]
set_option maxRecDepth 100000 in
set_option maxHeartbeats 4000000 in
theorem isNoEdge_any (st ini : Int) (A1 A2 : Option Addr) (n1 c1 n2 c2 : Nat) (e : Ed) (w : World) :
    Calls Tryz.prog 76 #[.agg #[.int .i64 st, .int .i64 ini, .slice A1 n1 c1, .slice A2 n2 c2], .agg #[.int .i64 e.f, .int .i64 e.l, .int .i64 e.t]] w fun r w' => r = .returned (.bool (!(inE st n1 e))) ∧ Below w.heap.size w w' := by
  have HB := Lib.hid (fun o1 o2 : Obj => ((Below.refl w.heap.size w).alloc (Nat.le_refl _) o1).alloc (by simp) o2)
  have CH := Lib.hid (fun (k : Int) (W : World) => hasState_any st ini k A1 A2 n1 c1 n2 c2 W)
  by_cases h1 : 0 ≤ e.f ∧ e.f < st
  case neg =>
    have HF := Lib.hid (inE_not (e := e) (n := st) (m := n1) (fun k => h1 k.1))
    have H1 := Lib.hid (idxI_no h1)
    clear h1
    go_enter Tryz.func76, Tryz.ntmps76
    go_wp2_with (go_at_call 71; refine (CH.out _ _).mono ?_; rw [H1.out]; rintro r w2 ⟨rfl, hb2⟩; have HB2 := Lib.hid ((HB.out _ _).trans (hb2.mono (HB.out _ _).size)); clear hb2)
    go_ret
    exact ⟨by rw [HF.out]; rfl, HB2.out⟩
  have H1 := Lib.hid (idxI_yes h1)
  by_cases h2 : 0 ≤ e.l ∧ e.l < (n1 : Int)
  case neg =>
    have HF := Lib.hid (inE_not (e := e) (n := st) (m := n1) (fun k => h2 k.2.1))
    have H2 := Lib.hid (idxI_no h2)
    clear h1 h2
    go_enter Tryz.func76, Tryz.ntmps76
    go_wp2_with (first
      | (go_at_call 71; refine (CH.out _ _).mono ?_; rw [H1.out]; rintro r w2 ⟨rfl, hb2⟩; have hs2 := hb2.size; simp at hs2; obtain ⟨hcc, _⟩ := bcell hb2; have HB2 := Lib.hid ((HB.out _ _).trans (hb2.mono (HB.out _ _).size)); have x1 : w2.cell? ⟨w.heap.size + 1, 1, none⟩ = some (.int .i64 e.l) := (hcc _ _ (by simp)).trans (by simp [go_sem]); have x2 : w2.cell? ⟨w.heap.size, 2, none⟩ = some (.slice A1 n1 c1) := (hcc _ _ (by simp <;> omega)).trans (by simp [go_sem]); clear hb2 hcc)
      | (go_at_call 93; refine (isIndex_any _ _ _).mono ?_; rw [H2.out]; rintro r w3 ⟨rfl, rfl⟩))
    go_ret
    exact ⟨by rw [HF.out]; rfl, HB2.out⟩
  have H2 := Lib.hid (idxI_yes h2)
  have HF := Lib.hid (show inE st n1 e = idxI e.t st by
    unfold inE; rw [H1.out, H2.out]; rfl)
  clear h1 h2
  go_enter Tryz.func76, Tryz.ntmps76
  go_wp2_with fail
  refine (CH.out _ _).mono ?_
  rw [H1.out]
  rintro r w2 ⟨rfl, hb2⟩
  have hs2 := hb2.size
  simp at hs2
  obtain ⟨hcc, _⟩ := bcell hb2
  have HB2 := Lib.hid ((HB.out _ _).trans (hb2.mono (HB.out _ _).size))
  have x1 : w2.cell? ⟨w.heap.size + 1, 1, none⟩ = some (.int .i64 e.l) := (hcc _ _ (by simp)).trans (by simp [go_sem])
  have x3 : w2.cell? ⟨w.heap.size + 1, 2, none⟩ = some (.int .i64 e.t) := (hcc _ _ (by simp)).trans (by simp [go_sem])
  have y0 : w2.cell? ⟨w.heap.size, 0, none⟩ = some (.int .i64 st) := (hcc _ _ (by simp <;> omega)).trans (by simp [go_sem])
  have y1 : w2.cell? ⟨w.heap.size, 1, none⟩ = some (.int .i64 ini) := (hcc _ _ (by simp <;> omega)).trans (by simp [go_sem])
  have y2 : w2.cell? ⟨w.heap.size, 2, none⟩ = some (.slice A1 n1 c1) := (hcc _ _ (by simp <;> omega)).trans (by simp [go_sem])
  have y3 : w2.cell? ⟨w.heap.size, 3, none⟩ = some (.slice A2 n2 c2) := (hcc _ _ (by simp <;> omega)).trans (by simp [go_sem])
  have hp1 : w.heap.size < w2.heap.size := by omega
  have hp2 : w.heap.size + 1 < w2.heap.size := by omega
  clear hb2 hcc
  go_wp2_with (first
    | (go_at_call 93; refine (isIndex_any _ _ _).mono ?_; rw [H2.out]; rintro r w3 ⟨rfl, rfl⟩)
    | (go_at_call 71; refine (CH.out _ _).mono ?_; rintro r w4 ⟨rfl, hb4⟩; have HB4 := Lib.hid (HB2.out.trans (hb4.mono HB2.out.size)); clear hb4))
  go_ret
  exact ⟨by rw [HF.out]; rfl, HB4.out⟩
set_option maxRecDepth 100000 in
set_option maxHeartbeats 2000000 in
theorem idxEd_any (st ini : Int) (A1 A2 : Option Addr) (n1 c1 n2 c2 : Nat) (A : Option Addr) (n c : Nat) (xs : List Ed) (w : World) (S : Nat → Prop) (h : LRow edR w S A xs) (l : xs.length = n) (m : n ≤ 1048576) (hS : ∀ b, S b → b < w.heap.size) :
    Calls Tryz.prog 98 #[.slice A n c, .func (.func 76) #[.agg #[.int .i64 st, .int .i64 ini, .slice A1 n1 c1, .slice A2 n2 c2]] #[]] w (IdxAll (inE st n1) xs w) := by
  have L := Lib.hid l
  have HR := Lib.hid h
  have HS := Lib.hid hS
  clear h l hS
  go_enter Tryz.func98, Tryz.ntmps98
  go_wp2
  go_loopw [8] (fun i wr => ∃ k : Nat, k ≤ n ∧ i = .int .i64 k ∧ Hid (Below w.heap.size w wr) ∧ Hid ((xs.take k).all (inE st n1) = true)) (fun i _ => n - (intOf i).toNat)
  case atStart => exact ⟨0, Nat.zero_le _, rfl, Lib.hid (Below.refl _ _), Lib.hid rfl⟩
  case round =>
    obtain ⟨k, hk, rfl, HB, HE⟩ := hrel
    have hsz := HB.out.size
    by_cases hlt : k < n
    · obtain ⟨b, o, cs, u, rfl, hb, hR, hu, hc⟩ := (HR.out.keep (SameOn.of_below HB.out HS.out)).at_ (k := k) (by rw [L.out]; exact hlt)
      have hR : cs = [Value.int .i64 u.f, Value.int .i64 u.l, Value.int .i64 u.t] := hR
      subst hR
      have r0 : wr.cell? ⟨b, o + k * 3, none⟩ = some (.int .i64 u.f) := hc 0 _ rfl
      have r1 : wr.cell? ⟨b, o + k * 3 + 1, none⟩ = some (.int .i64 u.l) := hc 1 _ rfl
      have r2 : wr.cell? ⟨b, o + k * 3 + 2, none⟩ = some (.int .i64 u.t) := hc 2 _ rfl
      have C := Lib.hid (fun W : World => isNoEdge_any st ini A1 A2 n1 c1 n2 c2 u W)
      have HBX := Lib.hid (fun o : Obj => HB.out.alloc hsz o)
      clear hc
      rcases ta : inE st n1 u with _ | _
      · have HF := Lib.hid (all_false (p := inE st n1) hu.out ta)
        have TA := Lib.hid ta
        clear ta
        go_wp2_with (go_at_call 76; refine (C.out _).mono ?_; rw [TA.out]; rintro e w3 ⟨rfl, hb3⟩; have HB3 := Lib.hid (Below.trans (by first | exact HB.out | exact HBX.out _) (hb3.mono (by first | exact HB.out.size | exact (HBX.out _).size))); clear hb3)
        go_ret
        exact ⟨_, rfl, .inr ⟨HF.out, by omega⟩, HB3.out⟩
      · have HN := Lib.hid (all_take_next (p := inE st n1) HE.out hu.out ta)
        have TA := Lib.hid ta
        clear ta
        go_wp2_with (go_at_call 76; refine (C.out _).mono ?_; rw [TA.out]; rintro e w3 ⟨rfl, hb3⟩; have HB3 := Lib.hid (Below.trans (by first | exact HB.out | exact HBX.out _) (hb3.mono (by first | exact HB.out.size | exact (HBX.out _).size))); clear hb3)
        go_roundw
        case rel => exact ⟨k + 1, by omega, by go_num, HB3, HN⟩
        case measure => simp [intOf]; omega
    · have HF := Lib.hid (show xs.all (inE st n1) = true by
        have ht := HE.out
        rwa [List.take_of_length_le (by rw [L.out]; omega)] at ht)
      go_wp2
      go_ret
      exact ⟨_, rfl, .inl ⟨HF.out, rfl⟩, HB.out⟩
theorem conEd_any (st ini : Int) (A1 A2 : Option Addr) (n1 c1 n2 c2 : Nat) (A : Option Addr) (n c : Nat) (xs : List Ed) (w : World) (S : Nat → Prop) (h : LRow edR w S A xs) (l : xs.length = n) (m : n ≤ 1048576) (hS : ∀ b, S b → b < w.heap.size) :
    Calls Tryz.prog 75 #[.slice A n c, .func (.func 76) #[.agg #[.int .i64 st, .int .i64 ini, .slice A1 n1 c1, .slice A2 n2 c2]] #[]] w fun e w' => e = .returned (.bool (!(xs.all (inE st n1)))) ∧ Below w.heap.size w w' := by
  have C := Lib.hid (idxEd_any st ini A1 A2 n1 c1 n2 c2 A n c xs w S h l m hS)
  clear h l hS
  go_enter Tryz.func75, Tryz.ntmps75
  go_wp2_with fail
  refine (C.out).mono ?_
  rintro e w2 ⟨r, rfl, (⟨h1, rfl⟩ | ⟨h1, h2⟩), hb⟩
  · have HB := Lib.hid hb
    have H1 := Lib.hid h1
    clear hb h1
    go_wp2
    go_ret
    exact ⟨by rw [H1.out]; rfl, HB.out⟩
  · have HB := Lib.hid hb
    have H1 := Lib.hid h1
    clear hb h1
    go_wp2
    go_ret
    exact ⟨by rw [H1.out]; rfl, HB.out⟩
end Go.Proofs.YtbailpfjgjcbdaaGreatDoor

namespace Go.Proofs.YtbailpfjgjcbdaaGreatDoor
open Go.RowKit
set_option maxRecDepth 100000 in
set_option maxHeartbeats 4000000 in
theorem implValidC_any (x : Lt) (A1 A2 : Option Addr) (c1 c2 : Nat) (w : World) (S : Nat → Prop) (h1 : LRow txtR w S A1 x.ls) (h2 : LRow edR w S A2 x.es) (hS : ∀ b, S b → b < w.heap.size) (ok : okLt x) (ht : TxtTabs w) :
    Calls Tryz.prog 41 #[ltCells x A1 A2 c1 c2] w fun e w' => e = .returned (.bool (ltB x)) ∧ Below w.heap.size w w' := by
  have HB := Lib.hid (fun o : Obj => (Below.refl w.heap.size w).alloc (Nat.le_refl _) o)
  have m1 := ok.1.1
  have m2 := ok.2.1
  have CH := Lib.hid (fun (k : Int) (W : World) => hasState_any x.st x.ini k A1 A2 x.ls.length c1 x.es.length c2 W)
  by_cases g1 : 1 ≤ x.st
  case neg =>
    have HF := Lib.hid (ltB_st (x := x) (fun k => g1 k.1))
    clear h1 h2 hS ok ht
    go_enter Tryz.func41, Tryz.ntmps41
    go_wp2
    go_ret
    exact ⟨by rw [HF.out]; rfl, HB.out _⟩
  by_cases g2 : x.st ≤ 40
  case neg =>
    have HF := Lib.hid (ltB_st (x := x) (fun k => g2 k.2))
    clear h1 h2 hS ok ht
    go_enter Tryz.func41, Tryz.ntmps41
    go_wp2
    go_ret
    exact ⟨by rw [HF.out]; rfl, HB.out _⟩
  by_cases g3 : 0 ≤ x.ini ∧ x.ini < x.st
  case neg =>
    have HF := Lib.hid (ltB_ini (x := x) g3)
    have G3 := Lib.hid (idxI_no g3)
    clear h1 h2 hS ok ht g3
    go_enter Tryz.func41, Tryz.ntmps41
    go_wp2_with (go_at_call 71; refine (CH.out _ _).mono ?_; rw [G3.out]; rintro r w2 ⟨rfl, hb2⟩; have HB2 := Lib.hid ((HB.out _).trans (hb2.mono (HB.out _).size)); clear hb2)
    go_ret
    exact ⟨by rw [HF.out]; rfl, HB2.out⟩
  have G3 := Lib.hid (idxI_yes g3)
  have CL := Lib.hid (fun (W : World) (hW : Below w.heap.size w W) => areLabels_any A1 x.ls.length c1 x.ls W S (h1.keep (SameOn.of_below hW hS)) rfl m1 (fun b hb => Nat.lt_of_lt_of_le (hS b hb) hW.size) ok.1.2 (ht.below hW))
  rcases g4 : lsOk x.ls with _ | _
  · have HF := Lib.hid (ltB_ls g4)
    have G4 := Lib.hid g4
    clear h1 h2 hS ok ht g3 g4
    go_enter Tryz.func41, Tryz.ntmps41
    go_wp2_with fail
    refine (CH.out _ _).mono ?_
    rw [G3.out]
    rintro r w2 ⟨rfl, hb2⟩
    have hs2 := hb2.size
    simp at hs2
    obtain ⟨hcc, _⟩ := bcell hb2
    have HB2 := Lib.hid ((HB.out _).trans (hb2.mono (HB.out _).size))
    have y2 : w2.cell? ⟨w.heap.size, 2, none⟩ = some (.slice A1 x.ls.length c1) := (hcc _ _ (by simp)).trans (by simp [go_sem])
    have hp : w.heap.size < w2.heap.size := by omega
    clear hb2 hcc
    go_wp2_with fail
    refine (CL.out _ HB2.out).mono ?_
    rw [G4.out]
    rintro r w3 ⟨rfl, hb3⟩
    have HB3 := Lib.hid (HB2.out.trans (hb3.mono HB2.out.size))
    clear hb3
    go_wp2
    go_ret
    exact ⟨by rw [HF.out]; rfl, HB3.out⟩
  have G4 := Lib.hid g4
  have CI := Lib.hid (fun (W : World) (hW : Below w.heap.size w W) => incEd_any A2 x.es.length c2 x.es W S (h2.keep (SameOn.of_below hW hS)) rfl m2 (fun b hb => Nat.lt_of_lt_of_le (hS b hb) hW.size))
  have CE := Lib.hid (fun (W : World) (hW : Below w.heap.size w W) => conEd_any x.st x.ini A1 A2 x.ls.length c1 x.es.length c2 A2 x.es.length c2 x.es W S (h2.keep (SameOn.of_below hW hS)) rfl m2 (fun b hb => Nat.lt_of_lt_of_le (hS b hb) hW.size))
  have HF := Lib.hid (show ltB x = (decide (x.es.length ≤ 300) && (inc cmE x.es && x.es.all (inE x.st x.ls.length))) by
    unfold ltB; rw [decide_eq_true ⟨g1, g2⟩, decide_eq_true g3, g4]; rfl)
  clear h1 h2 hS ok ht g3 g4
  go_enter Tryz.func41, Tryz.ntmps41
  go_wp2_with fail
  refine (CH.out _ _).mono ?_
  rw [G3.out]
  rintro r w2 ⟨rfl, hb2⟩
  have hs2 := hb2.size
  simp at hs2
  obtain ⟨hcc, _⟩ := bcell hb2
  have HB2 := Lib.hid ((HB.out _).trans (hb2.mono (HB.out _).size))
  have y0 : w2.cell? ⟨w.heap.size, 0, none⟩ = some (.int .i64 x.st) := (hcc _ _ (by simp)).trans (by simp [go_sem])
  have y1 : w2.cell? ⟨w.heap.size, 1, none⟩ = some (.int .i64 x.ini) := (hcc _ _ (by simp)).trans (by simp [go_sem])
  have y2 : w2.cell? ⟨w.heap.size, 2, none⟩ = some (.slice A1 x.ls.length c1) := (hcc _ _ (by simp)).trans (by simp [go_sem])
  have y3 : w2.cell? ⟨w.heap.size, 3, none⟩ = some (.slice A2 x.es.length c2) := (hcc _ _ (by simp)).trans (by simp [go_sem])
  have hp : w.heap.size < w2.heap.size := by omega
  clear hb2 hcc hs2
  go_wp2_with fail
  refine (CL.out _ HB2.out).mono ?_
  rw [G4.out]
  rintro r w3 ⟨rfl, hb3⟩
  have HB3 := Lib.hid (HB2.out.trans (hb3.mono HB2.out.size))
  have z0 := (hb3.cell (p := ⟨w.heap.size, 0, none⟩) hp).trans y0
  have z1 := (hb3.cell (p := ⟨w.heap.size, 1, none⟩) hp).trans y1
  have z2 := (hb3.cell (p := ⟨w.heap.size, 2, none⟩) hp).trans y2
  have z3 := (hb3.cell (p := ⟨w.heap.size, 3, none⟩) hp).trans y3
  have hp3 : w.heap.size < w3.heap.size := Nat.lt_of_lt_of_le hp hb3.size
  clear hb3 y0 y1 y2 y3
  by_cases g5 : x.es.length ≤ 300
  case neg =>
    have HG := Lib.hid (show (decide (x.es.length ≤ 300) && (inc cmE x.es && x.es.all (inE x.st x.ls.length))) = false by rw [decide_eq_false g5]; rfl)
    have g5' : ¬ ((x.es.length : Int) ≤ 300) := by omega
    go_wp2
    go_ret
    exact ⟨by rw [HF.out, HG.out]; rfl, HB3.out⟩
  have HG := Lib.hid (show (decide (x.es.length ≤ 300) && (inc cmE x.es && x.es.all (inE x.st x.ls.length))) = (inc cmE x.es && x.es.all (inE x.st x.ls.length)) by rw [decide_eq_true g5]; rfl)
  have g5' : (x.es.length : Int) ≤ 300 := by omega
  go_wp2_with fail
  refine (CI.out _ HB3.out).mono ?_
  rintro r w4 ⟨rfl, hb4⟩
  have HB4 := Lib.hid (HB3.out.trans (hb4.mono HB3.out.size))
  have u0 := (hb4.cell (p := ⟨w.heap.size, 0, none⟩) hp3).trans z0
  have u1 := (hb4.cell (p := ⟨w.heap.size, 1, none⟩) hp3).trans z1
  have u2 := (hb4.cell (p := ⟨w.heap.size, 2, none⟩) hp3).trans z2
  have u3 := (hb4.cell (p := ⟨w.heap.size, 3, none⟩) hp3).trans z3
  have hp4 : w.heap.size < w4.heap.size := Nat.lt_of_lt_of_le hp3 hb4.size
  clear hb4 z0 z1 z2 z3
  rcases g6 : inc cmE x.es with _ | _
  · have HH := Lib.hid (show (inc cmE x.es && x.es.all (inE x.st x.ls.length)) = false by rw [g6]; rfl)
    clear g6
    go_wp2
    go_ret
    exact ⟨by rw [HF.out, HG.out, HH.out]; rfl, HB4.out⟩
  · have HH := Lib.hid (show (inc cmE x.es && x.es.all (inE x.st x.ls.length)) = x.es.all (inE x.st x.ls.length) by rw [g6]; rfl)
    clear g6
    go_wp2_with fail
    refine (CE.out _ HB4.out).mono ?_
    rintro r w5 ⟨rfl, hb5⟩
    have HB5 := Lib.hid (HB4.out.trans (hb5.mono HB4.out.size))
    clear hb5
    go_wp2
    go_ret
    exact ⟨by rw [HF.out, HG.out, HH.out]; simp, HB5.out⟩
theorem implValid_any {x : Lt} {cs : List Value} {w : World} {S : Nat → Prop} (h : ltR.R w S x cs) (hS : ∀ b, S b → b < w.heap.size) (ok : okLt x) (ht : TxtTabs w) :
    Calls Tryz.prog 41 #[.agg cs.toArray] w fun e w' => e = .returned (.bool (ltB x)) ∧ Below w.heap.size w w' := by
  obtain ⟨A1, c1, A2, c2, rfl, ⟨_, _, r1⟩, ⟨_, _, r2⟩⟩ := h
  exact implValidC_any x A1 A2 c1 c2 w S r1 r2 hS ok ht
end Go.Proofs.YtbailpfjgjcbdaaGreatDoor
