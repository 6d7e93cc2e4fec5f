/- Texts compared; increasing lists: plain mathematics. -/
/- Texts compared by the program. -/
/- What a valid transition system is, as plain comparisons. -/
/- Valid transition systems: the program's parts. -/
import Derived.WalkKit
import Derived.Lib.Hide
import Derived.Test.YtbailpfjgjcbdaaGreatDoorLow
import Derived.Test.YtbailpfjgjcbdaaGreatDoorProg
import Derived.BigQuiet
import Derived.StillTailTactics
import Derived.Laws.Cover1
import Derived.ProofKit
import Derived.Outline
import Derived.Test.YtbailpfjgjcbdaaGreatDoorLv
import Derived.OwnWalk
import Derived.Test.YtbailpfjgjcbdaaGreatDoorBx
namespace Go.Proofs.YtbailpfjgjcbdaaGreatDoor
open Go.RowKit
theorem bl_irrefl : ∀ l : List UInt8, Op.bytesLess l l = false
  | [] => rfl
  | a :: l => by
    unfold Op.bytesLess
    rw [bl_irrefl l, Bool.and_false, Bool.or_false]
    exact decide_eq_false (by simp [UInt8.lt_irrefl])
theorem bl_asymm : ∀ {x y : List UInt8}, Op.bytesLess x y = true → Op.bytesLess y x = false
  | [], [], h => by simp [Op.bytesLess] at h
  | [], _ :: _, _ => by simp [Op.bytesLess]
  | _ :: _, [], h => by simp [Op.bytesLess] at h
  | a :: x, b :: y, h => by
    unfold Op.bytesLess at h ⊢
    rw [Bool.or_eq_true, Bool.and_eq_true] at h
    rw [Bool.or_eq_false_iff]
    rcases h with h | ⟨h1, h2⟩
    · have h' := of_decide_eq_true h
      refine ⟨decide_eq_false fun h3 => absurd (UInt8.lt_trans h' h3) (UInt8.lt_irrefl a), ?_⟩
      have : (b == a) = false := by
        rw [Bool.eq_false_iff]
        intro e
        rw [beq_iff_eq] at e
        rw [e] at h'; exact UInt8.lt_irrefl a h'
      rw [this]; rfl
    · have e : a = b := by simpa using h1
      subst e
      exact ⟨decide_eq_false (by simp [UInt8.lt_irrefl]), by rw [bl_asymm h2]; simp⟩
theorem bl_tri : ∀ {x y : List UInt8}, Op.bytesLess x y = false → Op.bytesLess y x = false → x = y
  | [], [], _, _ => rfl
  | [], _ :: _, h, _ => by simp [Op.bytesLess] at h
  | _ :: _, [], _, h => by simp [Op.bytesLess] at h
  | a :: x, b :: y, h1, h2 => by
    unfold Op.bytesLess at h1 h2
    rw [Bool.or_eq_false_iff] at h1 h2
    have k1 := of_decide_eq_false h1.1
    have k2 := of_decide_eq_false h2.1
    have e : a = b := UInt8.le_antisymm (UInt8.not_lt.1 k2) (UInt8.not_lt.1 k1)
    subst e
    rw [beq_self_eq_true, Bool.true_and] at h1 h2
    rw [bl_tri h1.2 h2.2]
def lsB (a b : ByteArray) : Bool := Op.bytesLess a.toList b.toList
def eqB (a b : ByteArray) : Bool := a.toList == b.toList
theorem lsB_irrefl (a : ByteArray) : lsB a a = false := bl_irrefl _
theorem lsB_asymm {a b : ByteArray} (h : lsB a b = true) : lsB b a = false := bl_asymm h
theorem eqB_tri {a b : ByteArray} (h : lsB a b = false) : eqB a b = !(lsB b a) := by
  unfold eqB
  rcases e : lsB b a with _ | _
  · rw [bl_tri h e]; simp
  · rw [Bool.not_true, Bool.eq_false_iff]
    intro h2
    have h3 : a.toList = b.toList := by simpa using h2
    unfold lsB at e
    rw [h3, bl_irrefl] at e; cases e
theorem eqB_less {a b : ByteArray} (h : lsB a b = true) : eqB a b = false := by
  unfold eqB
  rw [Bool.eq_false_iff]
  intro h2
  have h3 : a.toList = b.toList := by simpa using h2
  unfold lsB at h
  rw [h3, bl_irrefl] at h; cases h
/-- Go's test 'greater' on texts is 'less' the other way round. -/
theorem gtr_eq (a b : ByteArray) : (!(lsB a b || eqB a b)) = lsB b a := by
  rcases e : lsB a b with _ | _
  · rw [eqB_tri e]; simp
  · rw [lsB_asymm e]; rfl
theorem leq_eq (a b : ByteArray) : (lsB a b || eqB a b) = !(lsB b a) := by
  rw [← gtr_eq a b]; simp
def cmS (a b : ByteArray) : Int := if lsB a b = true then -1 else if lsB b a = true then 1 else 0
/-- Each element is less than the next one. -/
def inc {α : Type} (c : α → α → Int) : List α → Bool
  | [] => true
  | [_] => true
  | x :: y :: r => decide (c x y < 0) && inc c (y :: r)
theorem inc_snoc {α : Type} (c : α → α → Int) : ∀ (l : List α) (x y : α), inc c (l ++ [x, y]) = (inc c (l ++ [x]) && decide (c x y < 0))
  | [], x, y => by simp [inc]
  | [a], x, y => by simp [inc]
  | a :: b :: l, x, y => by
    have h := inc_snoc c (b :: l) x y
    simp only [List.cons_append] at h ⊢
    simp only [inc]
    rw [h, Bool.and_assoc]
theorem inc_step {α : Type} {c : α → α → Int} {xs : List α} {k : Nat} {x y : α} (hx : xs[k]? = some x) (hy : xs[k + 1]? = some y) : inc c (xs.take (k + 2)) = (inc c (xs.take (k + 1)) && decide (c x y < 0)) := by
  rw [take_one _ _ _ hy, take_one _ _ _ hx, List.append_assoc]
  exact inc_snoc c _ x y
theorem inc_pre {α : Type} (c : α → α → Int) : ∀ (l r : List α), inc c (l ++ r) = true → inc c l = true
  | [], _, _ => rfl
  | [_], _, _ => rfl
  | a :: b :: l, r, h => by
    simp only [List.cons_append, inc] at h ⊢
    rw [Bool.and_eq_true] at h ⊢
    exact ⟨h.1, inc_pre c (b :: l) r h.2⟩
theorem inc_bad {α : Type} {c : α → α → Int} {xs : List α} {k : Nat} {x y : α} (hx : xs[k]? = some x) (hy : xs[k + 1]? = some y) (h : ¬ c x y < 0) : inc c xs = false := by
  rcases e : inc c xs with _ | _
  · rfl
  · have h1 := inc_pre c (xs.take (k + 2)) (xs.drop (k + 2)) (by rw [List.take_append_drop]; exact e)
    rw [inc_step hx hy, decide_eq_false h] at h1
    simp at h1
theorem inc_short {α : Type} (c : α → α → Int) (xs : List α) : inc c (xs.take 1) = true := by
  rcases xs with _ | ⟨x, xs⟩ <;> simp [inc]
theorem all_take_next {α : Type} {p : α → Bool} {xs : List α} {k : Nat} {x : α} (h : (xs.take k).all p = true) (hx : xs[k]? = some x) (hp : p x = true) : (xs.take (k + 1)).all p = true := by
  rw [take_one _ _ _ hx, List.all_append, h]; simp [hp]
theorem all_false {α : Type} {p : α → Bool} {xs : List α} {k : Nat} {x : α} (hx : xs[k]? = some x) (hp : p x = false) : xs.all p = false := by
  rw [Bool.eq_false_iff]
  intro h
  have := (List.all_eq_true.1 h) x (List.mem_of_getElem? hx)
  rw [hp] at this; cases this
theorem any_take_next {α : Type} {p : α → Bool} {xs : List α} {k : Nat} {x : α} (h : (xs.take k).any p = false) (hx : xs[k]? = some x) (hp : p x = false) : (xs.take (k + 1)).any p = false := by
  rw [take_one _ _ _ hx, List.any_append, h]; simp [hp]
theorem any_true {α : Type} {p : α → Bool} {xs : List α} {k : Nat} {x : α} (hx : xs[k]? = some x) (hp : p x = true) : xs.any p = true :=
  List.any_eq_true.2 ⟨x, List.mem_of_getElem? hx, hp⟩
end Go.Proofs.YtbailpfjgjcbdaaGreatDoor

namespace Go.Proofs.YtbailpfjgjcbdaaGreatDoor
open Go.RowKit
theorem isNaN_any (s : ByteArray) (w : World) : Calls Tryz.prog 120 #[.string s] w fun e w' => e = .returned (.bool false) ∧ w' = w := by
  go_enter Tryz.func120, Tryz.ntmps120
  go_wp2
  go_ret
  exact ⟨rfl, rfl⟩
set_option maxRecDepth 100000 in
theorem cmpStr_any (s t : ByteArray) (w : World) : Calls Tryz.prog 111 #[.string s, .string t] w fun e w' => e = .returned (.int .i64 (cmS s t)) ∧ w' = w := by
  rcases h1 : lsB s t with _ | _
  · have he := eqB_tri h1
    rcases h2 : lsB t s with _ | _
    · have HF := Lib.hid (show cmS s t = 0 by unfold cmS; rw [h1, h2]; rfl)
      have hb : Op.bytesLess s.toList t.toList = false := h1
      have hq : (s.toList == t.toList) = true := by rw [h2] at he; exact he
      clear h1 h2 he
      go_enter Tryz.func111, Tryz.ntmps111
      go_wp2_with (go_at_call 120; refine (isNaN_any _ _).mono ?_; rintro e w' ⟨rfl, rfl⟩)
      go_ret
      exact ⟨by rw [HF.out]; rfl, rfl⟩
    · have HF := Lib.hid (show cmS s t = 1 by unfold cmS; rw [h1, h2]; rfl)
      have hb : Op.bytesLess s.toList t.toList = false := h1
      have hq : (s.toList == t.toList) = false := by rw [h2] at he; exact he
      clear h1 h2 he
      go_enter Tryz.func111, Tryz.ntmps111
      go_wp2_with (go_at_call 120; refine (isNaN_any _ _).mono ?_; rintro e w' ⟨rfl, rfl⟩)
      go_ret
      exact ⟨by rw [HF.out]; rfl, rfl⟩
  · have HF := Lib.hid (show cmS s t = -1 by unfold cmS; rw [h1]; rfl)
    have hb : Op.bytesLess s.toList t.toList = true := h1
    clear h1
    go_enter Tryz.func111, Tryz.ntmps111
    go_wp2_with (go_at_call 120; refine (isNaN_any _ _).mono ?_; rintro e w' ⟨rfl, rfl⟩)
    go_ret
    exact ⟨by rw [HF.out]; rfl, rfl⟩
def orI (a b : Int) : Int := if a = 0 then b else a
theorem cmpOr_any (g : Nat) (a b : Int) (w : World) (h0 : w.cell? ⟨g, 0, none⟩ = some (.int .i64 a)) (h1 : w.cell? ⟨g, 1, none⟩ = some (.int .i64 b)) :
    Calls Tryz.prog 97 #[.slice (some ⟨g, 0, none⟩) 2 2] w fun e w' => e = .returned (.int .i64 (orI a b)) ∧ Below w.heap.size w w' := by
  have H0 := Lib.hid h0
  have H1 := Lib.hid h1
  clear h0 h1
  go_enter Tryz.func97, Tryz.ntmps97
  go_wp2
  go_loopw [8] (fun i wr => ∃ k : Nat, k ≤ 2 ∧ i = .int .i64 k ∧ Hid (Drawn w wr) ∧ Hid (0 < k → a = 0) ∧ Hid (1 < k → b = 0)) (fun i _ => 2 - (intOf i).toNat)
  case atStart => exact ⟨0, by omega, rfl, Lib.hid (Drawn.refl _), Lib.hid (by omega), Lib.hid (by omega)⟩
  case round =>
    obtain ⟨k, hk, rfl, HD, HA, HB⟩ := hrel
    by_cases hk0 : k = 0
    · subst hk0
      have r := (SameOn.of_drawn (S := fun _ => True) HD.out g 0 trivial).trans H0.out
      by_cases ha : a = 0
      · have hne : (a != 0) = false := by simp [ha]
        have HZ := Lib.hid ha
        clear ha
        go_wp2
        go_roundw
        case rel => exact ⟨1, by omega, by go_num, HD, Lib.hid (fun _ => HZ.out), Lib.hid (by omega)⟩
        case measure => simp [intOf]
      · have hne : (a != 0) = true := by simp [ha]
        have HF := Lib.hid (show orI a b = a from if_neg ha)
        clear ha
        go_wp2
        go_ret
        exact ⟨by rw [HF.out]; rfl, HD.out.below _⟩
    by_cases hk1 : k = 1
    · subst hk1
      have r := (SameOn.of_drawn (S := fun _ => True) HD.out g 1 trivial).trans H1.out
      have HZ := Lib.hid (HA.out (by omega))
      by_cases hb : b = 0
      · have hne : (b != 0) = false := by simp [hb]
        have HY := Lib.hid hb
        clear hb
        go_wp2
        go_roundw
        case rel => exact ⟨2, by omega, by go_num, HD, Lib.hid (fun _ => HZ.out), Lib.hid (fun _ => HY.out)⟩
        case measure => simp [intOf]
      · have hne : (b != 0) = true := by simp [hb]
        have HF := Lib.hid (show orI a b = b from if_pos HZ.out)
        clear hb
        go_wp2
        go_ret
        exact ⟨by rw [HF.out]; rfl, HD.out.below _⟩
    · obtain rfl : k = 2 := by omega
      have HF := Lib.hid (show orI a b = 0 by unfold orI; rw [if_pos (HA.out (by omega)), HB.out (by omega)])
      clear hk0 hk1
      go_wp2
      go_ret
      exact ⟨by rw [HF.out]; rfl, HD.out.below _⟩
end Go.Proofs.YtbailpfjgjcbdaaGreatDoor

namespace Go.Proofs.YtbailpfjgjcbdaaGreatDoor
open Go.RowKit
def isT (s : ByteArray) : Bool := s.toList == [116, 97, 117]
noncomputable def labB (s : ByteArray) : Bool := (lvR s.data.toList).2
def cmI (a b : Int) : Int := if a < b then -1 else if b < a then 1 else 0
def trI (b : Bool) : Int := if b then 1 else 0
def orL : List Int → Int
  | [] => 0
  | x :: r => if x = 0 then orL r else x
theorem orL_cons (x : Int) (r : List Int) : orL (x :: r) = if x = 0 then orL r else x := rfl
def cmL (a b : ByteArray) : Int := orL [cmI (trI (!isT a)) (trI (!isT b)), cmS a b]
def cmE (a b : Ed) : Int := orL [cmI a.f b.f, cmI a.l b.l, cmI a.t b.t]
def lesE (a b : Ed) : Bool := if a.f = b.f then (if a.l = b.l then decide (a.t < b.t) else decide (a.l < b.l)) else decide (a.f < b.f)
theorem cmI_lt {a b : Int} (h : a < b) : cmI a b = -1 := if_pos h
theorem cmI_gt {a b : Int} (h : b < a) : cmI a b = 1 := by unfold cmI; rw [if_neg (by omega), if_pos h]
theorem cmI_eq (a : Int) : cmI a a = 0 := by unfold cmI; rw [if_neg (by omega), if_neg (by omega)]
theorem cmI_zero {a b : Int} : cmI a b = 0 ↔ a = b := by
  unfold cmI
  split
  · constructor <;> intro h <;> omega
  · split
    · constructor <;> intro h <;> omega
    · constructor <;> intro h <;> omega
theorem cmI_neg {a b : Int} : cmI a b < 0 ↔ a < b := by
  unfold cmI
  split
  · constructor <;> intro h <;> omega
  · split
    · constructor <;> intro h <;> omega
    · constructor <;> intro h <;> omega
theorem cmE_less (a b : Ed) : cmE a b < 0 ↔ lesE a b = true := by
  unfold cmE lesE
  rw [orL_cons, orL_cons, orL_cons]
  by_cases h1 : a.f = b.f
  · rw [if_pos (cmI_zero.2 h1), if_pos h1]
    by_cases h2 : a.l = b.l
    · rw [if_pos (cmI_zero.2 h2), if_pos h2]
      by_cases h3 : a.t = b.t
      · rw [if_pos (cmI_zero.2 h3), decide_eq_false (by omega)]
        simp [orL]
      · rw [if_neg (fun e => h3 (cmI_zero.1 e)), decide_eq_true_iff]
        exact cmI_neg
    · rw [if_neg (fun e => h2 (cmI_zero.1 e)), if_neg h2, decide_eq_true_iff]
      exact cmI_neg
  · rw [if_neg (fun e => h1 (cmI_zero.1 e)), if_neg h1, decide_eq_true_iff]
    exact cmI_neg
theorem cmE_not {a b : Ed} (h : lesE a b = false) : ¬ cmE a b < 0 := fun e => by rw [(cmE_less a b).1 e] at h; cases h
theorem cmS_neg (a b : ByteArray) : cmS a b < 0 ↔ lsB a b = true := by
  unfold cmS
  rcases h : lsB a b with _ | _
  · simp only [Bool.false_eq_true, if_false]
    split <;> simp
  · simp
theorem isT_eq {a b : ByteArray} (h : isT a = true) (h2 : isT b = true) : cmS a b = 0 := by
  have e1 : a.toList = [116, 97, 117] := by simpa [isT] using h
  have e2 : b.toList = [116, 97, 117] := by simpa [isT] using h2
  unfold cmS lsB
  rw [e1, e2, bl_irrefl]
  simp
theorem cmL_T {a b : ByteArray} (h : isT b = true) : ¬ cmL a b < 0 := by
  unfold cmL
  rw [h, orL_cons, orL_cons]
  rcases ha : isT a with _ | _
  · simp [trI, cmI]
  · rw [isT_eq ha h]
    simp [trI, cmI, orL]
theorem cmL_first {a b : ByteArray} (h : isT a = true) (h2 : isT b = false) : cmL a b < 0 := by
  unfold cmL
  rw [h, h2, orL_cons]
  simp [trI, cmI]
theorem cmL_rest {a b : ByteArray} (h : isT a = false) (h2 : isT b = false) : cmL a b < 0 ↔ lsB a b = true := by
  rw [← cmS_neg]
  unfold cmL
  rw [h, h2, orL_cons, orL_cons]
  simp only [trI, cmI, Bool.not_false, if_true]
  by_cases e : cmS a b = 0
  · rw [e]; simp [orL]
  · simp [e]
theorem cmL_not {a b : ByteArray} (h : cmL a b < 0) : isT b = false := by
  rcases hb : isT b with _ | _
  · rfl
  · exact absurd h (cmL_T hb)
theorem labB_tau {s : ByteArray} (h : isT s = true) : labB s = true := by
  have e1 : s.toList = [116, 97, 117] := by simpa [isT] using h
  rw [ByteArray.toList_eq] at e1
  have e2 : s.data.toList = [116, 97, 117] := e1
  unfold labB
  have hn : nameP [116, 97, 117] := ⟨by simp, by simp, fun i b hb => by
    match i, hb with
    | 0, hb => simp at hb; subst hb; exact .inl (by decide)
    | 1, hb => simp at hb; subst hb; exact .inl (by decide)
    | 2, hb => simp at hb; subst hb; exact .inl (by decide)⟩
  rw [e2, lvR_yes (vs := []) ((lab_plain (by decide)).2 ⟨hn, rfl⟩)]
/-- Labels of a valid system. -/
noncomputable def lsOk (ls : List ByteArray) : Bool := decide (1 ≤ ls.length ∧ ls.length ≤ 12) && ((ls.take 1).all isT && (inc cmL ls && ls.all labB))
def idxI (k n : Int) : Bool := decide (0 ≤ k ∧ k < n)
theorem idxI_iff {k n : Int} : idxI k n = true ↔ 0 ≤ k ∧ k < n := by unfold idxI; exact decide_eq_true_iff
theorem idxI_yes {k n : Int} (h : 0 ≤ k ∧ k < n) : idxI k n = true := idxI_iff.2 h
theorem idxI_no {k n : Int} (h : ¬ (0 ≤ k ∧ k < n)) : idxI k n = false := by unfold idxI; exact decide_eq_false h
def inR (k lo hi : Int) : Bool := decide (lo ≤ k ∧ k ≤ hi)
theorem inR_yes {k lo hi : Int} (h : lo ≤ k ∧ k ≤ hi) : inR k lo hi = true := by unfold inR; exact decide_eq_true h
theorem inR_no {k lo hi : Int} (h : ¬ (lo ≤ k ∧ k ≤ hi)) : inR k lo hi = false := by unfold inR; exact decide_eq_false h
theorem inR_idx (k n : Int) : inR k 0 (n - 1) = idxI k n := by
  by_cases h : 0 ≤ k ∧ k < n
  · rw [idxI_yes h, inR_yes (by omega)]
  · rw [idxI_no h, inR_no (by omega)]
def inE (n m : Int) (e : Ed) : Bool := idxI e.f n && (idxI e.l m && idxI e.t n)
noncomputable def ltB (x : Lt) : Bool := decide (1 ≤ x.st ∧ x.st ≤ 40) && (decide (0 ≤ x.ini ∧ x.ini < x.st) && (lsOk x.ls && (decide (x.es.length ≤ 300) && (inc cmE x.es && x.es.all (inE x.st x.ls.length)))))
theorem lsOk_len {ls : List ByteArray} (h : ¬ (1 ≤ ls.length ∧ ls.length ≤ 12)) : lsOk ls = false := by unfold lsOk; rw [decide_eq_false h]; rfl
theorem lsOk_head {ls : List ByteArray} {u : ByteArray} (hu : ls[0]? = some u) (h : isT u = false) : lsOk ls = false := by
  have e : ls.take 1 = [u] := by rw [take_one _ _ _ hu]; rfl
  unfold lsOk; rw [e]; simp [h]
theorem lsOk_inc {ls : List ByteArray} (h : inc cmL ls = false) : lsOk ls = false := by unfold lsOk; rw [h]; simp
theorem lsOk_lab {ls : List ByteArray} (h : ls.all labB = false) : lsOk ls = false := by unfold lsOk; rw [h]; simp
theorem lsOk_yes {ls : List ByteArray} {u : ByteArray} (hl : 1 ≤ ls.length ∧ ls.length ≤ 12) (hu : ls[0]? = some u) (h : isT u = true) (h1 : inc cmL ls = true) (h2 : ls.all labB = true) : lsOk ls = true := by
  have e : ls.take 1 = [u] := by rw [take_one _ _ _ hu]; rfl
  unfold lsOk; rw [decide_eq_true hl, e, h1, h2]; simp [h]
theorem ltB_st {x : Lt} (h : ¬ (1 ≤ x.st ∧ x.st ≤ 40)) : ltB x = false := by unfold ltB; rw [decide_eq_false h]; rfl
theorem ltB_ini {x : Lt} (h : ¬ (0 ≤ x.ini ∧ x.ini < x.st)) : ltB x = false := by unfold ltB; rw [decide_eq_false h]; simp
theorem ltB_ls {x : Lt} (h : lsOk x.ls = false) : ltB x = false := by unfold ltB; rw [h]; simp
theorem ltB_len {x : Lt} (h : ¬ x.es.length ≤ 300) : ltB x = false := by unfold ltB; rw [decide_eq_false h]; simp
theorem ltB_inc {x : Lt} (h : inc cmE x.es = false) : ltB x = false := by unfold ltB; rw [h]; simp
theorem ltB_in {x : Lt} (h : x.es.all (inE x.st x.ls.length) = false) : ltB x = false := by unfold ltB; rw [h]; simp
theorem ltB_yes {x : Lt} (h1 : 1 ≤ x.st ∧ x.st ≤ 40) (h2 : 0 ≤ x.ini ∧ x.ini < x.st) (h3 : lsOk x.ls = true) (h4 : x.es.length ≤ 300) (h5 : inc cmE x.es = true) (h6 : x.es.all (inE x.st x.ls.length) = true) : ltB x = true := by
  unfold ltB; rw [decide_eq_true h1, decide_eq_true h2, h3, decide_eq_true h4, h5, h6]; rfl
theorem ltB_parts {x : Lt} (h : ltB x = true) : (1 ≤ x.st ∧ x.st ≤ 40) ∧ (0 ≤ x.ini ∧ x.ini < x.st) ∧ lsOk x.ls = true ∧ x.es.length ≤ 300 ∧ inc cmE x.es = true ∧ x.es.all (inE x.st x.ls.length) = true := by
  unfold ltB at h
  rw [Bool.and_eq_true, Bool.and_eq_true, Bool.and_eq_true, Bool.and_eq_true, Bool.and_eq_true, decide_eq_true_iff, decide_eq_true_iff, decide_eq_true_iff] at h
  exact h
theorem inE_iff {n m : Int} {e : Ed} : inE n m e = true ↔ (0 ≤ e.f ∧ e.f < n) ∧ (0 ≤ e.l ∧ e.l < m) ∧ 0 ≤ e.t ∧ e.t < n := by
  unfold inE
  rw [Bool.and_eq_true, Bool.and_eq_true, idxI_iff, idxI_iff, idxI_iff]
theorem inE_not {n m : Int} {e : Ed} (h : ¬ ((0 ≤ e.f ∧ e.f < n) ∧ (0 ≤ e.l ∧ e.l < m) ∧ 0 ≤ e.t ∧ e.t < n)) : inE n m e = false := by
  rcases hb : inE n m e with _ | _
  · rfl
  · exact absurd (inE_iff.1 hb) h
end Go.Proofs.YtbailpfjgjcbdaaGreatDoor

namespace Go.Proofs.YtbailpfjgjcbdaaGreatDoor
open Go.RowKit
theorem isIndex_any (k n : Int) (w : World) : Calls Tryz.prog 93 #[.int .i64 k, .int .i64 n] w fun e w' => e = .returned (.bool (idxI k n)) ∧ w = w' := by
  by_cases h1 : 0 ≤ k
  · by_cases h2 : k < n
    · have H := Lib.hid (idxI_yes ⟨h1, h2⟩)
      go_enter Tryz.func93, Tryz.ntmps93
      go_wp2
      go_ret
      exact ⟨by rw [H.out]; rfl, rfl⟩
    · have H := Lib.hid (idxI_no (k := k) (n := n) (fun e => h2 e.2))
      go_enter Tryz.func93, Tryz.ntmps93
      go_wp2
      go_ret
      exact ⟨by rw [H.out]; rfl, rfl⟩
  · have H := Lib.hid (idxI_no (k := k) (n := n) (fun e => h1 e.1))
    go_enter Tryz.func93, Tryz.ntmps93
    go_wp2
    go_ret
    exact ⟨by rw [H.out]; rfl, rfl⟩
theorem hasState_any (st ini k : Int) (A1 A2 : Option Addr) (n1 c1 n2 c2 : Nat) (w : World) : Calls Tryz.prog 71 #[.agg #[.int .i64 st, .int .i64 ini, .slice A1 n1 c1, .slice A2 n2 c2], .int .i64 k] w fun e w' => e = .returned (.bool (idxI k st)) ∧ Below w.heap.size w w' := by
  have HB := Lib.hid (fun o : Obj => (Below.refl w.heap.size w).alloc (Nat.le_refl _) o)
  go_enter Tryz.func71, Tryz.ntmps71
  go_wp2_with (go_at_call 93; refine (isIndex_any _ _ _).mono ?_; rintro e w' ⟨rfl, rfl⟩)
  go_ret
  exact ⟨rfl, HB.out _⟩
theorem isNaNI_any (s : Int) (w : World) : Calls Tryz.prog 102 #[.int .i64 s] w fun e w' => e = .returned (.bool false) ∧ w' = w := by
  have h : (s != s) = false := by simp
  go_enter Tryz.func102, Tryz.ntmps102
  go_wp2
  go_ret
  exact ⟨rfl, rfl⟩
theorem cmpInt_any (a b : Int) (w : World) : Calls Tryz.prog 85 #[.int .i64 a, .int .i64 b] w fun e w' => e = .returned (.int .i64 (cmI a b)) ∧ w' = w := by
  by_cases h1 : a < b
  · have HF := Lib.hid (cmI_lt h1)
    go_enter Tryz.func85, Tryz.ntmps85
    go_wp2_with (go_at_call 102; refine (isNaNI_any _ _).mono ?_; rintro e w' ⟨rfl, rfl⟩)
    go_ret
    exact ⟨by rw [HF.out]; rfl, rfl⟩
  · by_cases h2 : b < a
    · have HF := Lib.hid (cmI_gt h2)
      go_enter Tryz.func85, Tryz.ntmps85
      go_wp2_with (go_at_call 102; refine (isNaNI_any _ _).mono ?_; rintro e w' ⟨rfl, rfl⟩)
      go_ret
      exact ⟨by rw [HF.out]; rfl, rfl⟩
    · obtain rfl : a = b := by omega
      have HF := Lib.hid (cmI_eq a)
      clear h1 h2
      have h1 : ¬ a < a := by omega
      go_enter Tryz.func85, Tryz.ntmps85
      go_wp2_with (go_at_call 102; refine (isNaNI_any _ _).mono ?_; rintro e w' ⟨rfl, rfl⟩)
      go_ret
      exact ⟨by rw [HF.out]; rfl, rfl⟩
theorem truthI_any (b : Bool) (w : World) : Calls Tryz.prog 110 #[.bool b] w fun e w' => e = .returned (.int .i64 (trI b)) ∧ w' = w := by
  cases b
  · go_enter Tryz.func110, Tryz.ntmps110
    go_wp2
    go_ret
    exact ⟨rfl, rfl⟩
  · go_enter Tryz.func110, Tryz.ntmps110
    go_wp2
    go_ret
    exact ⟨rfl, rfl⟩
/-- The first number of a row that is not 0. -/
theorem orN_any (g n : Nat) (xs : List Int) (w : World) (h : ∀ k u, xs[k]? = some u → w.cell? ⟨g, k, none⟩ = some (.int .i64 u)) (l : xs.length = n) (m : n ≤ 100) :
    Calls Tryz.prog 97 #[.slice (some ⟨g, 0, none⟩) n n] w fun e w' => e = .returned (.int .i64 (orL xs)) ∧ Below w.heap.size w w' := by
  have H := Lib.hid h
  have L := Lib.hid l
  clear h l
  go_enter Tryz.func97, Tryz.ntmps97
  go_wp2
  go_loopw [8] (fun i wr => ∃ k : Nat, k ≤ n ∧ i = .int .i64 k ∧ Hid (Drawn w wr) ∧ Hid (orL xs = orL (xs.drop k))) (fun i _ => n - (intOf i).toNat)
  case atStart => exact ⟨0, by omega, rfl, Lib.hid (Drawn.refl _), Lib.hid rfl⟩
  case round =>
    obtain ⟨k, hk, rfl, HD, HE⟩ := hrel
    by_cases hlt : k < n
    · obtain ⟨u, hu⟩ : ∃ u, xs[k]? = some u := ⟨_, List.getElem?_eq_getElem (by rw [L.out]; exact hlt)⟩
      have r := (SameOn.of_drawn (S := fun _ => True) HD.out g k trivial).trans (H.out k u hu)
      have HU := Lib.hid (show orL (xs.drop k) = if u = 0 then orL (xs.drop (k + 1)) else u by rw [drop_one xs k u hu]; rfl)
      clear hu
      by_cases ha : u = 0
      · have hne : (u != 0) = false := by simp [ha]
        have HZ := Lib.hid (show orL xs = orL (xs.drop (k + 1)) by rw [HE.out, HU.out, if_pos ha])
        clear ha
        go_wp2
        go_roundw
        case rel => exact ⟨k + 1, by omega, by go_num, HD, HZ⟩
        case measure => simp [intOf]; omega
      · have hne : (u != 0) = true := by simp [ha]
        have HF := Lib.hid (show orL xs = u by rw [HE.out, HU.out, if_neg ha])
        clear ha
        go_wp2
        go_ret
        exact ⟨by rw [HF.out]; rfl, HD.out.below _⟩
    · have HF := Lib.hid (show orL xs = 0 by rw [HE.out, List.drop_eq_nil_of_le (by rw [L.out]; omega)]; rfl)
      go_wp2
      go_ret
      exact ⟨by rw [HF.out]; rfl, HD.out.below _⟩
end Go.Proofs.YtbailpfjgjcbdaaGreatDoor
