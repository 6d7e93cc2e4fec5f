/- Valid transition systems: the program. -/
import Derived.Test.YthbnfjedjijacaaGreatDoorLtQ
namespace Go.Proofs.YthbnfjedjijacaaGreatDoor
open Go.RowKit
theorem isNoLab_any (s : ByteArray) (w : World) (hsz : s.size ≤ 1048576) (ht : TxtTabs w) : Calls Tryz.prog 96 #[.string s] w fun e w' => e = .returned (.bool (!labB s)) ∧ Below w.heap.size w w' := by
  have C := Lib.hid (implIsLabel_any s w hsz ht)
  have HL := Lib.hid (show (lvR s.data.toList).2 = labB s from rfl)
  clear ht
  go_enter Tryz.func96, Tryz.ntmps96
  go_wp2_with (go_at_call 109; refine (C.out).mono ?_; rw [HL.out]; rintro e w2 ⟨rfl, hb⟩; have HB := Lib.hid hb; clear hb)
  go_ret
  exact ⟨rfl, HB.out⟩
/-- Where the first element stands that is not as it should be; -1 if there is none. -/
def IdxAll {α : Type} (q : α → Bool) (xs : List α) (w : World) (e : Ending) (w' : World) : Prop := ∃ r : Int, e = .returned (.int .i64 r) ∧ ((xs.all q = true ∧ r = -1) ∨ (xs.all q = false ∧ 0 ≤ r)) ∧ Below w.heap.size w w'
set_option maxRecDepth 100000 in
set_option maxHeartbeats 2000000 in
theorem idxLab_any (A : Option Addr) (n c : Nat) (xs : List ByteArray) (w : World) (S : Nat → Prop) (h : LRow txtR w S A xs) (l : xs.length = n) (m : n ≤ 1048576) (hS : ∀ b, S b → b < w.heap.size) (ok : ∀ x ∈ xs, okTx x) (ht : TxtTabs w) :
    Calls Tryz.prog 108 #[.slice A n c, .func (.func 96) #[] #[]] w (IdxAll labB xs w) := by
  have L := Lib.hid l
  have HR := Lib.hid h
  have HS := Lib.hid hS
  have OK := Lib.hid ok
  have HT := Lib.hid ht
  clear h l hS ok ht
  go_enter Tryz.func108, Tryz.ntmps108
  go_wp2
  go_loopw [8] (fun i wr => ∃ k : Nat, k ≤ n ∧ i = .int .i64 k ∧ Hid (Below w.heap.size w wr) ∧ Hid ((xs.take k).all labB = true)) (fun i _ => n - (intOf i).toNat)
  case atStart => exact ⟨0, Nat.zero_le _, rfl, Lib.hid (Below.refl _ _), Lib.hid rfl⟩
  case round =>
    obtain ⟨k, hk, rfl, HB, HE⟩ := hrel
    have hsz := HB.out.size
    by_cases hlt : k < n
    · obtain ⟨b, o, cs, u, rfl, hb, hR, hu, hc⟩ := (HR.out.keep (SameOn.of_below HB.out HS.out)).at_ (k := k) (by rw [L.out]; exact hlt)
      obtain ⟨rfl, _⟩ := hR
      have r0 : wr.cell? ⟨b, o + k, none⟩ = some (.string u) := by have := hc 0 _ rfl; simpa [txtR] using this
      have C := Lib.hid (isNoLab_any u wr (OK.out u (List.mem_of_getElem? hu.out)) (HT.out.below HB.out))
      clear hc
      rcases ta : labB u with _ | _
      · have HF := Lib.hid (all_false (p := labB) hu.out ta)
        have TA := Lib.hid ta
        clear ta
        go_wp2_with (go_at_call 96; refine (C.out).mono ?_; rw [TA.out]; rintro e w3 ⟨rfl, hb3⟩; have HB3 := Lib.hid (HB.out.trans (hb3.mono hsz)); clear hb3)
        go_ret
        exact ⟨_, rfl, .inr ⟨HF.out, by omega⟩, HB3.out⟩
      · have HN := Lib.hid (all_take_next (p := labB) HE.out hu.out ta)
        have TA := Lib.hid ta
        clear ta
        go_wp2_with (go_at_call 96; refine (C.out).mono ?_; rw [TA.out]; rintro e w3 ⟨rfl, hb3⟩; have HB3 := Lib.hid (HB.out.trans (hb3.mono hsz)); clear hb3)
        go_roundw
        case rel => exact ⟨k + 1, by omega, by go_num, HB3, HN⟩
        case measure => simp [intOf]; omega
    · have HF := Lib.hid (show xs.all labB = true by
        have ht := HE.out
        rwa [List.take_of_length_le (by rw [L.out]; omega)] at ht)
      go_wp2
      go_ret
      exact ⟨_, rfl, .inl ⟨HF.out, rfl⟩, HB.out⟩
theorem conLab_any (A : Option Addr) (n c : Nat) (xs : List ByteArray) (w : World) (S : Nat → Prop) (h : LRow txtR w S A xs) (l : xs.length = n) (m : n ≤ 1048576) (hS : ∀ b, S b → b < w.heap.size) (ok : ∀ x ∈ xs, okTx x) (ht : TxtTabs w) :
    Calls Tryz.prog 95 #[.slice A n c, .func (.func 96) #[] #[]] w fun e w' => e = .returned (.bool (!(xs.all labB))) ∧ Below w.heap.size w w' := by
  have C := Lib.hid (idxLab_any A n c xs w S h l m hS ok ht)
  clear h l hS ok ht
  go_enter Tryz.func95, Tryz.ntmps95
  go_wp2_with fail
  refine (C.out).mono ?_
  rintro e w2 ⟨r, rfl, (⟨h1, rfl⟩ | ⟨h1, h2⟩), hb⟩
  · have HB := Lib.hid hb
    have H1 := Lib.hid h1
    clear hb h1
    go_wp2
    go_ret
    exact ⟨by rw [H1.out]; rfl, HB.out⟩
  · have HB := Lib.hid hb
    have H1 := Lib.hid h1
    clear hb h1
    go_wp2
    go_ret
    exact ⟨by rw [H1.out]; rfl, HB.out⟩
set_option maxRecDepth 100000 in
set_option maxHeartbeats 4000000 in
theorem areLabels_any (A : Option Addr) (n c : Nat) (xs : List ByteArray) (w : World) (S : Nat → Prop) (h : LRow txtR w S A xs) (l : xs.length = n) (m : n ≤ 1048576) (hS : ∀ b, S b → b < w.heap.size) (ok : ∀ x ∈ xs, okTx x) (ht : TxtTabs w) :
    Calls Tryz.prog 71 #[.slice A n c] w fun e w' => e = .returned (.bool (lsOk xs)) ∧ Below w.heap.size w w' := by
  by_cases h1 : 1 ≤ n
  case neg =>
    have HF := Lib.hid (lsOk_len (ls := xs) (by rw [l]; omega))
    clear h l hS ok ht
    go_enter Tryz.func71, Tryz.ntmps71
    go_wp2
    go_ret
    exact ⟨by rw [HF.out]; rfl, Below.refl _ _⟩
  by_cases h12 : n ≤ 12
  case neg =>
    have HF := Lib.hid (lsOk_len (ls := xs) (by rw [l]; omega))
    clear h l hS ok ht
    go_enter Tryz.func71, Tryz.ntmps71
    go_wp2
    go_ret
    exact ⟨by rw [HF.out]; rfl, Below.refl _ _⟩
  obtain ⟨b, o, cs, u, rfl, hb, hR, hu, hc⟩ := h.at_ (k := 0) (by omega)
  obtain ⟨rfl, _⟩ := hR
  have r0 : w.cell? ⟨b, o, none⟩ = some (.string u) := by have := hc 0 _ rfl; simpa [txtR] using this
  have hT : (u.toList == [116, 97, 117]) = isT u := rfl
  rcases tu : isT u with _ | _
  · rw [tu] at hT
    have HF := Lib.hid (lsOk_head hu.out tu)
    clear h l hS ok ht hc tu
    go_enter Tryz.func71, Tryz.ntmps71
    go_wp2
    go_ret
    exact ⟨by rw [HF.out]; rfl, Below.refl _ _⟩
  rw [tu] at hT
  have CI := Lib.hid (incLab_any (some ⟨b, o, none⟩) n c xs w S h l m hS)
  rcases ti : inc cmL xs with _ | _
  · have HF := Lib.hid (lsOk_inc ti)
    have TI := Lib.hid ti
    clear h l hS ok ht hc tu ti
    go_enter Tryz.func71, Tryz.ntmps71
    go_wp2_with (go_at_call 93; refine (CI.out).mono ?_; rw [TI.out]; rintro e w2 ⟨rfl, hb2⟩; have HB2 := Lib.hid hb2; clear hb2)
    go_ret
    exact ⟨by rw [HF.out]; rfl, HB2.out⟩
  have CC := Lib.hid (fun (W : World) (hW : Below w.heap.size w W) => conLab_any (some ⟨b, o, none⟩) n c xs W S (h.keep (SameOn.of_below hW hS)) l m (fun b hb => Nat.lt_of_lt_of_le (hS b hb) hW.size) ok (ht.below hW))
  have HF := Lib.hid (show lsOk xs = xs.all labB by
    rcases ta : xs.all labB with _ | _
    · exact lsOk_lab ta
    · exact lsOk_yes (by omega) hu.out tu ti ta)
  have TI := Lib.hid ti
  clear h l hS ok ht hc tu ti
  go_enter Tryz.func71, Tryz.ntmps71
  go_wp2_with (first
    | (go_at_call 93; refine (CI.out).mono ?_; rw [TI.out]; rintro e w2 ⟨rfl, hb2⟩; have HB2 := Lib.hid hb2; clear hb2)
    | (go_at_call 95; refine (CC.out _ HB2.out).mono ?_; rintro e w3 ⟨rfl, hb3⟩; have HB3 := Lib.hid (HB2.out.trans (hb3.mono HB2.out.size)); clear hb3))
  go_ret
  exact ⟨by rw [HF.out]; simp, HB3.out⟩
abbrev ltCells (x : Lt) (A1 A2 : Option Addr) (c1 c2 : Nat) : Value := .agg #[.int .i64 x.st, .int .i64 x.ini, .slice A1 x.ls.length c1, .slice A2 x.es.length c2]
set_option maxRecDepth 100000 in
set_option maxHeartbeats 4000000 in
theorem isNoEdge_any (st ini : Int) (A1 A2 : Option Addr) (n1 c1 n2 c2 : Nat) (e : Ed) (w : World) :
    Calls Tryz.prog 75 #[.agg #[.int .i64 st, .int .i64 ini, .slice A1 n1 c1, .slice A2 n2 c2], .agg #[.int .i64 e.f, .int .i64 e.l, .int .i64 e.t]] w fun r w' => r = .returned (.bool (!(inE st n1 e))) ∧ Below w.heap.size w w' := by
  have HB := Lib.hid (fun o1 o2 : Obj => ((Below.refl w.heap.size w).alloc (Nat.le_refl _) o1).alloc (by simp) o2)
  have CH := Lib.hid (fun (k : Int) (W : World) => hasState_any st ini k A1 A2 n1 c1 n2 c2 W)
  by_cases h1 : 0 ≤ e.f ∧ e.f < st
  case neg =>
    have HF := Lib.hid (inE_not (e := e) (n := st) (m := n1) (fun k => h1 k.1))
    have H1 := Lib.hid (idxI_no h1)
    clear h1
    go_enter Tryz.func75, Tryz.ntmps75
    go_wp2_with (go_at_call 70; refine (CH.out _ _).mono ?_; rw [H1.out]; rintro r w2 ⟨rfl, hb2⟩; have HB2 := Lib.hid ((HB.out _ _).trans (hb2.mono (HB.out _ _).size)); clear hb2)
    go_ret
    exact ⟨by rw [HF.out]; rfl, HB2.out⟩
  have H1 := Lib.hid (idxI_yes h1)
  by_cases h2 : 0 ≤ e.l ∧ e.l < (n1 : Int)
  case neg =>
    have HF := Lib.hid (inE_not (e := e) (n := st) (m := n1) (fun k => h2 k.2.1))
    have H2 := Lib.hid (idxI_no h2)
    clear h1 h2
    go_enter Tryz.func75, Tryz.ntmps75
    go_wp2_with (first
      | (go_at_call 70; refine (CH.out _ _).mono ?_; rw [H1.out]; rintro r w2 ⟨rfl, hb2⟩; have hs2 := hb2.size; simp at hs2; obtain ⟨hcc, _⟩ := bcell hb2; have HB2 := Lib.hid ((HB.out _ _).trans (hb2.mono (HB.out _ _).size)); have x1 : w2.cell? ⟨w.heap.size + 1, 1, none⟩ = some (.int .i64 e.l) := (hcc _ _ (by simp)).trans (by simp [go_sem]); have x2 : w2.cell? ⟨w.heap.size, 2, none⟩ = some (.slice A1 n1 c1) := (hcc _ _ (by simp <;> omega)).trans (by simp [go_sem]); clear hb2 hcc)
      | (go_at_call 92; refine (isIndex_any _ _ _).mono ?_; rw [H2.out]; rintro r w3 ⟨rfl, rfl⟩))
    go_ret
    exact ⟨by rw [HF.out]; rfl, HB2.out⟩
  have H2 := Lib.hid (idxI_yes h2)
  have HF := Lib.hid (show inE st n1 e = idxI e.t st by
    unfold inE; rw [H1.out, H2.out]; rfl)
  clear h1 h2
  go_enter Tryz.func75, Tryz.ntmps75
  go_wp2_with fail
  refine (CH.out _ _).mono ?_
  rw [H1.out]
  rintro r w2 ⟨rfl, hb2⟩
  have hs2 := hb2.size
  simp at hs2
  obtain ⟨hcc, _⟩ := bcell hb2
  have HB2 := Lib.hid ((HB.out _ _).trans (hb2.mono (HB.out _ _).size))
  have x1 : w2.cell? ⟨w.heap.size + 1, 1, none⟩ = some (.int .i64 e.l) := (hcc _ _ (by simp)).trans (by simp [go_sem])
  have x3 : w2.cell? ⟨w.heap.size + 1, 2, none⟩ = some (.int .i64 e.t) := (hcc _ _ (by simp)).trans (by simp [go_sem])
  have y0 : w2.cell? ⟨w.heap.size, 0, none⟩ = some (.int .i64 st) := (hcc _ _ (by simp <;> omega)).trans (by simp [go_sem])
  have y1 : w2.cell? ⟨w.heap.size, 1, none⟩ = some (.int .i64 ini) := (hcc _ _ (by simp <;> omega)).trans (by simp [go_sem])
  have y2 : w2.cell? ⟨w.heap.size, 2, none⟩ = some (.slice A1 n1 c1) := (hcc _ _ (by simp <;> omega)).trans (by simp [go_sem])
  have y3 : w2.cell? ⟨w.heap.size, 3, none⟩ = some (.slice A2 n2 c2) := (hcc _ _ (by simp <;> omega)).trans (by simp [go_sem])
  have hp1 : w.heap.size < w2.heap.size := by omega
  have hp2 : w.heap.size + 1 < w2.heap.size := by omega
  clear hb2 hcc
  go_wp2_with (first
    | (go_at_call 92; refine (isIndex_any _ _ _).mono ?_; rw [H2.out]; rintro r w3 ⟨rfl, rfl⟩)
    | (go_at_call 70; refine (CH.out _ _).mono ?_; rintro r w4 ⟨rfl, hb4⟩; have HB4 := Lib.hid (HB2.out.trans (hb4.mono HB2.out.size)); clear hb4))
  go_ret
  exact ⟨by rw [HF.out]; rfl, HB4.out⟩
set_option maxRecDepth 100000 in
set_option maxHeartbeats 2000000 in
theorem idxEd_any (st ini : Int) (A1 A2 : Option Addr) (n1 c1 n2 c2 : Nat) (A : Option Addr) (n c : Nat) (xs : List Ed) (w : World) (S : Nat → Prop) (h : LRow edR w S A xs) (l : xs.length = n) (m : n ≤ 1048576) (hS : ∀ b, S b → b < w.heap.size) :
    Calls Tryz.prog 99 #[.slice A n c, .func (.func 75) #[.agg #[.int .i64 st, .int .i64 ini, .slice A1 n1 c1, .slice A2 n2 c2]] #[]] w (IdxAll (inE st n1) xs w) := by
  have L := Lib.hid l
  have HR := Lib.hid h
  have HS := Lib.hid hS
  clear h l hS
  go_enter Tryz.func99, Tryz.ntmps99
  go_wp2
  go_loopw [8] (fun i wr => ∃ k : Nat, k ≤ n ∧ i = .int .i64 k ∧ Hid (Below w.heap.size w wr) ∧ Hid ((xs.take k).all (inE st n1) = true)) (fun i _ => n - (intOf i).toNat)
  case atStart => exact ⟨0, Nat.zero_le _, rfl, Lib.hid (Below.refl _ _), Lib.hid rfl⟩
  case round =>
    obtain ⟨k, hk, rfl, HB, HE⟩ := hrel
    have hsz := HB.out.size
    by_cases hlt : k < n
    · obtain ⟨b, o, cs, u, rfl, hb, hR, hu, hc⟩ := (HR.out.keep (SameOn.of_below HB.out HS.out)).at_ (k := k) (by rw [L.out]; exact hlt)
      have hR : cs = [Value.int .i64 u.f, Value.int .i64 u.l, Value.int .i64 u.t] := hR
      subst hR
      have r0 : wr.cell? ⟨b, o + k * 3, none⟩ = some (.int .i64 u.f) := hc 0 _ rfl
      have r1 : wr.cell? ⟨b, o + k * 3 + 1, none⟩ = some (.int .i64 u.l) := hc 1 _ rfl
      have r2 : wr.cell? ⟨b, o + k * 3 + 2, none⟩ = some (.int .i64 u.t) := hc 2 _ rfl
      have C := Lib.hid (fun W : World => isNoEdge_any st ini A1 A2 n1 c1 n2 c2 u W)
      have HBX := Lib.hid (fun o : Obj => HB.out.alloc hsz o)
      clear hc
      rcases ta : inE st n1 u with _ | _
      · have HF := Lib.hid (all_false (p := inE st n1) hu.out ta)
        have TA := Lib.hid ta
        clear ta
        go_wp2_with (go_at_call 75; refine (C.out _).mono ?_; rw [TA.out]; rintro e w3 ⟨rfl, hb3⟩; have HB3 := Lib.hid (Below.trans (by first | exact HB.out | exact HBX.out _) (hb3.mono (by first | exact HB.out.size | exact (HBX.out _).size))); clear hb3)
        go_ret
        exact ⟨_, rfl, .inr ⟨HF.out, by omega⟩, HB3.out⟩
      · have HN := Lib.hid (all_take_next (p := inE st n1) HE.out hu.out ta)
        have TA := Lib.hid ta
        clear ta
        go_wp2_with (go_at_call 75; refine (C.out _).mono ?_; rw [TA.out]; rintro e w3 ⟨rfl, hb3⟩; have HB3 := Lib.hid (Below.trans (by first | exact HB.out | exact HBX.out _) (hb3.mono (by first | exact HB.out.size | exact (HBX.out _).size))); clear hb3)
        go_roundw
        case rel => exact ⟨k + 1, by omega, by go_num, HB3, HN⟩
        case measure => simp [intOf]; omega
    · have HF := Lib.hid (show xs.all (inE st n1) = true by
        have ht := HE.out
        rwa [List.take_of_length_le (by rw [L.out]; omega)] at ht)
      go_wp2
      go_ret
      exact ⟨_, rfl, .inl ⟨HF.out, rfl⟩, HB.out⟩
theorem conEd_any (st ini : Int) (A1 A2 : Option Addr) (n1 c1 n2 c2 : Nat) (A : Option Addr) (n c : Nat) (xs : List Ed) (w : World) (S : Nat → Prop) (h : LRow edR w S A xs) (l : xs.length = n) (m : n ≤ 1048576) (hS : ∀ b, S b → b < w.heap.size) :
    Calls Tryz.prog 74 #[.slice A n c, .func (.func 75) #[.agg #[.int .i64 st, .int .i64 ini, .slice A1 n1 c1, .slice A2 n2 c2]] #[]] w fun e w' => e = .returned (.bool (!(xs.all (inE st n1)))) ∧ Below w.heap.size w w' := by
  have C := Lib.hid (idxEd_any st ini A1 A2 n1 c1 n2 c2 A n c xs w S h l m hS)
  clear h l hS
  go_enter Tryz.func74, Tryz.ntmps74
  go_wp2_with fail
  refine (C.out).mono ?_
  rintro e w2 ⟨r, rfl, (⟨h1, rfl⟩ | ⟨h1, h2⟩), hb⟩
  · have HB := Lib.hid hb
    have H1 := Lib.hid h1
    clear hb h1
    go_wp2
    go_ret
    exact ⟨by rw [H1.out]; rfl, HB.out⟩
  · have HB := Lib.hid hb
    have H1 := Lib.hid h1
    clear hb h1
    go_wp2
    go_ret
    exact ⟨by rw [H1.out]; rfl, HB.out⟩
end Go.Proofs.YthbnfjedjijacaaGreatDoor
