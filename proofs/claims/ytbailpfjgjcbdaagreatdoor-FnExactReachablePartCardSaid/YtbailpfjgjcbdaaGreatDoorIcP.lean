/- Lists of states: the program. -/
import Derived.Test.YtbailpfjgjcbdaaGreatDoorLtZ
import Derived.Test.YtbailpfjgjcbdaaGreatDoorRei
import Derived.Test.YtbailpfjgjcbdaaGreatDoorIcM
namespace Go.Proofs.YtbailpfjgjcbdaaGreatDoor
open Go.RowKit
set_option linter.unusedVariables false
set_option linter.unusedSimpArgs false
set_option maxRecDepth 100000 in
set_option maxHeartbeats 2000000 in
theorem incInt_any (A : Option Addr) (n c : Nat) (xs : List Int) (w : World) (S : Nat → Prop) (h : LRow intR w S A xs) (l : xs.length = n) (m : n ≤ 1048576) (hS : ∀ b, S b → b < w.heap.size) :
    Calls Tryz.prog 84 #[.slice A n c, .func (.func 85) #[] #[]] w fun e w' => e = .returned (.bool (inc cmI xs)) ∧ Below w.heap.size w w' := by
  have L := Lib.hid l
  have HR := Lib.hid h
  have HS := Lib.hid hS
  clear h l hS
  go_enter Tryz.func84, Tryz.ntmps84
  go_wp2
  go_loopw [5] (fun i wr => ∃ j : Nat, 1 ≤ j ∧ (j ≤ n ∨ j = 1) ∧ i = .int .i64 j ∧ Hid (Below w.heap.size w wr) ∧ Hid (inc cmI (xs.take j) = true)) (fun i _ => n + 1 - (intOf i).toNat)
  case atStart => exact ⟨1, Nat.le_refl _, .inr rfl, rfl, Lib.hid (Below.refl _ _), Lib.hid (inc_short _ _)⟩
  case round =>
    obtain ⟨j, hj1, hk, rfl, HB, HT⟩ := hrel
    have hsz := HB.out.size
    by_cases hlt : j < n
    · obtain ⟨k, hkj⟩ : ∃ k, j = k + 1 := ⟨j - 1, by omega⟩
      obtain ⟨b, o, u, rfl, hb, r0', hu⟩ := int_row (HR.out.keep (SameOn.of_below HB.out HS.out)) (k := k) (by rw [L.out]; omega)
      obtain ⟨b', o', v, eA, hb', t0', hv⟩ := int_row (HR.out.keep (SameOn.of_below HB.out HS.out)) (k := j) (by rw [L.out]; exact hlt)
      injection eA with eA
      injection eA with e1 e2
      subst e1 e2
      have r0 : wr.drew.cell? ⟨b, o + k, none⟩ = some (.int .i64 u) := r0'
      have t0 : wr.drew.cell? ⟨b, o + j, none⟩ = some (.int .i64 v) := t0'
      have hwk : IntKind.i64.wrap ((j : Int) - 1) = (k : Int) := by (rw [IntKind.wrap_i64]; omega)
      have hkn : k < n := by omega
      have hv' := hv.out
      rw [hkj] at hv'
      have HV' := Lib.hid hv'
      have HJ := Lib.hid hkj
      clear hkj hv' r0' t0'
      have C := Lib.hid (cmpInt_any u v wr.drew)
      obtain ⟨q, hq⟩ : ∃ q, q = cmI u v := ⟨_, rfl⟩
      rw [← hq] at C
      have HQ := Lib.hid hq
      clear hq
      by_cases tl : q < 0
      · have HN := Lib.hid (show inc cmI (xs.take (j + 1)) = true by have ht := HT.out; rw [HJ.out] at ht ⊢; rw [inc_step hu.out HV'.out, ht, ← HQ.out, decide_eq_true tl]; rfl)
        have hg : ¬ (0 : Int) ≤ q := by omega
        clear tl
        go_wp2
        go_still_tail 10, (by kernel_rfl)
        change wpList _ _ _ _ _ wr.drew
        go_wp2_with (go_at_call 85; refine (C.out).mono ?_; rintro e w2 ⟨rfl, rfl⟩)
        go_roundw
        case rel => exact ⟨j + 1, by omega, .inl (by omega), by go_num, Lib.hid (HB.out.drew), HN⟩
        case measure => simp [intOf]; omega
      · have HF := Lib.hid (show inc cmI xs = false from inc_bad hu.out HV'.out (by rw [← HQ.out]; exact tl))
        have hg : (0 : Int) ≤ q := by omega
        clear tl
        go_wp2
        go_still_tail 10, (by kernel_rfl)
        change wpList _ _ _ _ _ wr.drew
        go_wp2_with (go_at_call 85; refine (C.out).mono ?_; rintro e w2 ⟨rfl, rfl⟩)
        go_ret
        exact ⟨ret_bool HF.out.symm, HB.out.drew⟩
    · have HF := Lib.hid (show inc cmI xs = true by
        have ht := HT.out
        rwa [List.take_of_length_le (by rw [L.out]; omega)] at ht)
      go_wp2
      go_ret
      exact ⟨ret_bool HF.out.symm, HB.out⟩
/-- The four cells of a system in a box. -/
def Box4 (W : World) (bx : Nat) (x : Lt) (A1 A2 : Option Addr) (c1 c2 : Nat) : Prop := W.cell? ⟨bx, 0, none⟩ = some (.int .i64 x.st) ∧ W.cell? ⟨bx, 1, none⟩ = some (.int .i64 x.ini) ∧ W.cell? ⟨bx, 2, none⟩ = some (.slice A1 x.ls.length c1) ∧ W.cell? ⟨bx, 3, none⟩ = some (.slice A2 x.es.length c2)
theorem Box4.lt {W : World} {bx : Nat} {x : Lt} {A1 A2 : Option Addr} {c1 c2 : Nat} (h : Box4 W bx x A1 A2 c1 c2) : bx < W.heap.size := World.block_lt_of_cell? W _ h.1
theorem Box4.keep {W W' : World} {bx : Nat} {x : Lt} {A1 A2 : Option Addr} {c1 c2 n : Nat} (h : Box4 W bx x A1 A2 c1 c2) (hb : Below n W W') (hn : bx < n) : Box4 W' bx x A1 A2 c1 c2 :=
  ⟨(hb.cell (p := ⟨bx, 0, none⟩) hn).trans h.1, (hb.cell (p := ⟨bx, 1, none⟩) hn).trans h.2.1, (hb.cell (p := ⟨bx, 2, none⟩) hn).trans h.2.2.1, (hb.cell (p := ⟨bx, 3, none⟩) hn).trans h.2.2.2⟩
theorem Box4.next {W W' : World} {bx : Nat} {x : Lt} {A1 A2 : Option Addr} {c1 c2 : Nat} (h : Box4 W bx x A1 A2 c1 c2) (hb : Below W.heap.size W W') : Box4 W' bx x A1 A2 c1 c2 := h.keep hb h.lt
set_option maxRecDepth 100000 in
theorem as1_any (x : Lt) (k : Int) (bx : Nat) (A1 A2 : Option Addr) (c1 c2 : Nat) (w : World) (y : Box4 w bx x A1 A2 c1 c2) :
    Calls Tryz.prog 86 #[.int .i64 k, .pointer (some ⟨bx, 0, none⟩)] w fun e w' => e = .returned (.bool (!(idxI k x.st))) ∧ Below w.heap.size w w' := by
  have hbx := y.lt
  obtain ⟨y0, y1, y2, y3⟩ := y
  go_enter Tryz.func86, Tryz.ntmps86
  go_wp2_with (go_at_call 71; refine (hasState_any x.st x.ini k A1 A2 x.ls.length c1 x.es.length c2 _).mono ?_; rintro e w2 ⟨rfl, hb2⟩; have HB2 := Lib.hid hb2; clear hb2)
  go_ret
  exact ⟨rfl, HB2.out⟩
set_option maxRecDepth 100000 in
set_option maxHeartbeats 2000000 in
theorem idxSt_any (x : Lt) (bx : Nat) (A1 A2 : Option Addr) (c1 c2 : Nat) (A : Option Addr) (n c : Nat) (xs : List Int) (w : World) (S2 : Nat → Prop) (y : Box4 w bx x A1 A2 c1 c2) (h : LRow intR w S2 A xs) (hS2 : ∀ b, S2 b → b < w.heap.size) (l : xs.length = n) (m : n ≤ maxLen) :
    Calls Tryz.prog 80 #[.slice A n c, .func (.func 86) #[] #[.pointer (some ⟨bx, 0, none⟩)]] w (IdxAll (fun k => idxI k x.st) xs w) := by
  unfold maxLen at m
  have C := Lib.hid (fun (k : Int) (W : World) (hW : Below w.heap.size w W) => as1_any x k bx A1 A2 c1 c2 W (y.next hW))
  have L := Lib.hid l
  have HR := Lib.hid h
  have HS2 := Lib.hid hS2
  clear h l hS2 y
  go_enter Tryz.func80, Tryz.ntmps80
  go_wp2
  go_loopw [8] (fun i wr => ∃ j : Nat, j ≤ n ∧ i = .int .i64 (j : Int) ∧ Hid (Below w.heap.size w wr) ∧ Hid ((xs.take j).all (fun k => idxI k x.st) = true)) (fun i _ => n - (intOf i).toNat)
  case atStart => exact ⟨0, Nat.zero_le _, rfl, Lib.hid (Below.refl _ _), Lib.hid rfl⟩
  case round =>
    obtain ⟨j, hj, rfl, HB, HE⟩ := hrel
    have hsz := HB.out.size
    by_cases hlt : j < n
    · obtain ⟨b, o, k, rfl, hb, r0, hk⟩ := int_row (HR.out.keep (SameOn.of_below HB.out HS2.out)) (k := j) (by rw [L.out]; exact hlt)
      have lb := World.block_lt_of_cell? wr _ r0
      have C1 := Lib.hid (C.out k wr HB.out)
      rcases td : idxI k x.st with _ | _
      · have HD := Lib.hid (all_false (p := fun k => idxI k x.st) hk.out td)
        rw [td] at C1
        clear td
        go_wp2_with (go_at_call 86; refine (C1.out).mono ?_; rintro e w3 ⟨rfl, hb3⟩; have HB3 := Lib.hid (HB.out.trans (hb3.mono hsz)); clear hb3)
        go_ret
        exact ⟨_, rfl, .inr ⟨HD.out, by omega⟩, HB3.out⟩
      · have HN := Lib.hid (all_take_next (p := fun k => idxI k x.st) HE.out hk.out td)
        rw [td] at C1
        clear td
        go_wp2_with (go_at_call 86; refine (C1.out).mono ?_; rintro e w3 ⟨rfl, hb3⟩; have HB3 := Lib.hid (HB.out.trans (hb3.mono hsz)); clear hb3)
        go_roundw
        case rel => exact ⟨j + 1, by omega, by go_num, HB3, HN⟩
        case measure => simp [intOf]; omega
    · have HN := Lib.hid (show xs.all (fun k => idxI k x.st) = true by
        have ht := HE.out
        rwa [List.take_of_length_le (by rw [L.out]; omega)] at ht)
      go_wp2
      go_ret
      exact ⟨_, rfl, .inl ⟨HN.out, rfl⟩, HB.out⟩
theorem conSt_any (x : Lt) (bx : Nat) (A1 A2 : Option Addr) (c1 c2 : Nat) (A : Option Addr) (n c : Nat) (xs : List Int) (w : World) (S2 : Nat → Prop) (y : Box4 w bx x A1 A2 c1 c2) (h : LRow intR w S2 A xs) (hS2 : ∀ b, S2 b → b < w.heap.size) (l : xs.length = n) (m : n ≤ maxLen) :
    Calls Tryz.prog 47 #[.slice A n c, .func (.func 86) #[] #[.pointer (some ⟨bx, 0, none⟩)]] w fun e w' => e = .returned (.bool (!(xs.all fun k => idxI k x.st))) ∧ Below w.heap.size w w' := by
  have C := Lib.hid (idxSt_any x bx A1 A2 c1 c2 A n c xs w S2 y h hS2 l m)
  clear h l y hS2
  go_enter Tryz.func47, Tryz.ntmps47
  go_wp2_with fail
  refine (C.out).mono ?_
  rintro e w2 ⟨r, rfl, (⟨h1, rfl⟩ | ⟨h1, h2⟩), hb⟩
  · have HB := Lib.hid hb
    have H1 := Lib.hid h1
    clear hb h1
    go_wp2
    go_ret
    exact ⟨by rw [H1.out]; rfl, HB.out⟩
  · have HB := Lib.hid hb
    have H1 := Lib.hid h1
    clear hb h1
    go_wp2
    go_ret
    exact ⟨by rw [H1.out]; rfl, HB.out⟩
set_option maxRecDepth 100000 in
set_option maxHeartbeats 2000000 in
theorem areStates_any (x : Lt) (A1 A2 : Option Addr) (c1 c2 : Nat) (B : Option Addr) (n d : Nat) (xs : List Int) (w : World) (S2 : Nat → Prop) (h : LRow intR w S2 B xs) (hS2 : ∀ b, S2 b → b < w.heap.size) (l : xs.length = n) (m : n ≤ 1048576) :
    Calls Tryz.prog 61 #[ltCells x A1 A2 c1 c2, .slice B n d] w fun e w' => e = .returned (.bool (riB x.st xs)) ∧ Below w.heap.size w w' := by
  have hm : n ≤ maxLen := by unfold maxLen; omega
  have HB := Lib.hid (fun o : Obj => (Below.refl w.heap.size w).alloc (Nat.le_refl _) o)
  have CI := Lib.hid (fun (W : World) (hW : Below w.heap.size w W) => incInt_any B n d xs W S2 (LRow.keep (F := intR) h (SameOn.of_below hW hS2)) l m (fun b hb => Nat.lt_of_lt_of_le (hS2 b hb) hW.size))
  have CS := Lib.hid (fun (W : World) (hW : Below w.heap.size w W) (y : Box4 W w.heap.size x A1 A2 c1 c2) => conSt_any x w.heap.size A1 A2 c1 c2 B n d xs W S2 y (LRow.keep (F := intR) h (SameOn.of_below hW hS2)) (fun b hb => Nat.lt_of_lt_of_le (hS2 b hb) hW.size) l hm)
  clear h hS2 l hm
  go_enter Tryz.func61, Tryz.ntmps61
  rcases ti : inc cmI xs with _ | _
  · have HF := Lib.hid (riB_inc (n := x.st) ti)
    rw [ti] at CI
    clear ti
    go_wp2_with (go_at_call 84; refine (CI.out _ (HB.out _)).mono ?_; rintro e w2 ⟨rfl, hb2⟩; have HB2 := Lib.hid ((HB.out _).trans (hb2.mono (HB.out _).size)); clear hb2)
    go_ret
    exact ⟨by rw [HF.out]; rfl, HB2.out⟩
  · have HF := Lib.hid (show riB x.st xs = xs.all (fun k => idxI k x.st) by unfold riB; rw [ti]; rfl)
    rw [ti] at CI
    clear ti
    go_wp2_with (first
      | (go_at_call 84; refine (CI.out _ (HB.out _)).mono ?_; rintro e w2 ⟨rfl, hb2⟩; have hcc := fun (i : Nat) => hb2.cell (p := ⟨w.heap.size, i, none⟩) (by simp); have y : Box4 w2 w.heap.size x A1 A2 c1 c2 := (⟨(hcc 0).trans (by simp [go_sem]), (hcc 1).trans (by simp [go_sem]), (hcc 2).trans (by simp [go_sem]), (hcc 3).trans (by simp [go_sem])⟩); have HB2 := Lib.hid ((HB.out _).trans (hb2.mono (HB.out _).size)); have C2 := Lib.hid (CS.out w2 HB2.out y); clear hb2 hcc y)
      | (go_at_call 47; refine (C2.out).mono ?_; rintro e w3 ⟨rfl, hb3⟩; have HB3 := Lib.hid (HB2.out.trans (hb3.mono HB2.out.size)); clear hb3))
    go_ret
    exact ⟨by rw [HF.out]; simp, HB3.out⟩
set_option maxRecDepth 100000 in
set_option maxHeartbeats 2000000 in
theorem statesFault_any (x : Lt) (A1 A2 : Option Addr) (c1 c2 : Nat) (B : Option Addr) (n d : Nat) (xs : List Int) (w : World) (S S2 : Nat → Prop) (h1 : LRow txtR w S A1 x.ls) (h2 : LRow edR w S A2 x.es) (hS : ∀ b, S b → b < w.heap.size) (h : LRow intR w S2 B xs) (hS2 : ∀ b, S2 b → b < w.heap.size) (l : xs.length = n) (m : n ≤ 1048576) (ok : okLt x) (ht : TxtTabs w) :
    Calls Tryz.prog 35 #[ltCells x A1 A2 c1 c2, .slice B n d] w fun e w' => e = .returned (.int .i64 (icC x xs)) ∧ Below w.heap.size w w' := by
  have HB := Lib.hid (fun o : Obj => (Below.refl w.heap.size w).alloc (Nat.le_refl _) o)
  have CV := Lib.hid (fun (W : World) (hW : Below w.heap.size w W) => implValidC_any x A1 A2 c1 c2 W S (h1.keep (SameOn.of_below hW hS)) (h2.keep (SameOn.of_below hW hS)) (fun b hb => Nat.lt_of_lt_of_le (hS b hb) hW.size) ok (ht.below hW))
  have CA := Lib.hid (fun (W : World) (hW : Below w.heap.size w W) => areStates_any x A1 A2 c1 c2 B n d xs W S2 (LRow.keep (F := intR) h (SameOn.of_below hW hS2)) (fun b hb => Nat.lt_of_lt_of_le (hS2 b hb) hW.size) l m)
  clear h1 h2 hS ok ht h hS2 l
  go_enter Tryz.func35, Tryz.ntmps35
  go_wp2_with fail
  refine (CV.out _ (HB.out _)).mono ?_
  rintro e w2 ⟨rfl, hb2⟩
  have hs2 := hb2.size
  simp at hs2
  obtain ⟨hcc, _⟩ := bcell hb2
  have HB2 := Lib.hid ((HB.out _).trans (hb2.mono (HB.out _).size))
  have y0 : w2.cell? ⟨w.heap.size, 0, none⟩ = some (.int .i64 x.st) := (hcc _ _ (by simp)).trans (by simp [go_sem])
  have y1 : w2.cell? ⟨w.heap.size, 1, none⟩ = some (.int .i64 x.ini) := (hcc _ _ (by simp)).trans (by simp [go_sem])
  have y2 : w2.cell? ⟨w.heap.size, 2, none⟩ = some (.slice A1 x.ls.length c1) := (hcc _ _ (by simp)).trans (by simp [go_sem])
  have y3 : w2.cell? ⟨w.heap.size, 3, none⟩ = some (.slice A2 x.es.length c2) := (hcc _ _ (by simp)).trans (by simp [go_sem])
  have hpb : w.heap.size < w2.heap.size := by omega
  have C2 := Lib.hid (CA.out w2 HB2.out)
  clear hb2 hcc hs2
  rcases tv : ltB x with _ | _
  · have HF := Lib.hid (icC_inv (xs := xs) tv)
    clear tv
    go_wp2
    go_ret
    exact ⟨by rw [HF.out]; rfl, HB2.out⟩
  · have TV := Lib.hid tv
    clear tv
    rcases tk : riB x.st xs with _ | _
    · have HF := Lib.hid (icC_rng TV.out tk)
      rw [tk] at C2
      clear tk
      go_wp2_with (go_at_call 61; refine (C2.out).mono ?_; rintro e w3 ⟨rfl, hb3⟩; have HB3 := Lib.hid (HB2.out.trans (hb3.mono HB2.out.size)); clear hb3)
      go_ret
      exact ⟨by rw [HF.out]; rfl, HB3.out⟩
    · have HF := Lib.hid (icC_ok TV.out tk)
      rw [tk] at C2
      clear tk
      go_wp2_with (go_at_call 61; refine (C2.out).mono ?_; rintro e w3 ⟨rfl, hb3⟩; have HB3 := Lib.hid (HB2.out.trans (hb3.mono HB2.out.size)); clear hb3)
      go_ret
      exact ⟨by rw [HF.out]; rfl, HB3.out⟩
end Go.Proofs.YtbailpfjgjcbdaaGreatDoor
