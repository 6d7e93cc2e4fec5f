/- What a valid transition system is, as plain comparisons. -/
import Derived.Test.YthbnfjedjijacaaGreatDoorStrM
import Derived.Test.YthbnfjedjijacaaGreatDoorLvI
import Derived.Test.YthbnfjedjijacaaGreatDoorLow
namespace Go.Proofs.YthbnfjedjijacaaGreatDoor
open Go.RowKit
def isT (s : ByteArray) : Bool := s.toList == [116, 97, 117]
noncomputable def labB (s : ByteArray) : Bool := (lvR s.data.toList).2
def cmI (a b : Int) : Int := if a < b then -1 else if b < a then 1 else 0
def trI (b : Bool) : Int := if b then 1 else 0
def orL : List Int → Int
  | [] => 0
  | x :: r => if x = 0 then orL r else x
theorem orL_cons (x : Int) (r : List Int) : orL (x :: r) = if x = 0 then orL r else x := rfl
def cmL (a b : ByteArray) : Int := orL [cmI (trI (!isT a)) (trI (!isT b)), cmS a b]
def cmE (a b : Ed) : Int := orL [cmI a.f b.f, cmI a.l b.l, cmI a.t b.t]
def lesE (a b : Ed) : Bool := if a.f = b.f then (if a.l = b.l then decide (a.t < b.t) else decide (a.l < b.l)) else decide (a.f < b.f)
theorem cmI_lt {a b : Int} (h : a < b) : cmI a b = -1 := if_pos h
theorem cmI_gt {a b : Int} (h : b < a) : cmI a b = 1 := by unfold cmI; rw [if_neg (by omega), if_pos h]
theorem cmI_eq (a : Int) : cmI a a = 0 := by unfold cmI; rw [if_neg (by omega), if_neg (by omega)]
theorem cmI_zero {a b : Int} : cmI a b = 0 ↔ a = b := by
  unfold cmI
  split
  · constructor <;> intro h <;> omega
  · split
    · constructor <;> intro h <;> omega
    · constructor <;> intro h <;> omega
theorem cmI_neg {a b : Int} : cmI a b < 0 ↔ a < b := by
  unfold cmI
  split
  · constructor <;> intro h <;> omega
  · split
    · constructor <;> intro h <;> omega
    · constructor <;> intro h <;> omega
theorem cmE_less (a b : Ed) : cmE a b < 0 ↔ lesE a b = true := by
  unfold cmE lesE
  rw [orL_cons, orL_cons, orL_cons]
  by_cases h1 : a.f = b.f
  · rw [if_pos (cmI_zero.2 h1), if_pos h1]
    by_cases h2 : a.l = b.l
    · rw [if_pos (cmI_zero.2 h2), if_pos h2]
      by_cases h3 : a.t = b.t
      · rw [if_pos (cmI_zero.2 h3), decide_eq_false (by omega)]
        simp [orL]
      · rw [if_neg (fun e => h3 (cmI_zero.1 e)), decide_eq_true_iff]
        exact cmI_neg
    · rw [if_neg (fun e => h2 (cmI_zero.1 e)), if_neg h2, decide_eq_true_iff]
      exact cmI_neg
  · rw [if_neg (fun e => h1 (cmI_zero.1 e)), if_neg h1, decide_eq_true_iff]
    exact cmI_neg
theorem cmE_not {a b : Ed} (h : lesE a b = false) : ¬ cmE a b < 0 := fun e => by rw [(cmE_less a b).1 e] at h; cases h
theorem cmS_neg (a b : ByteArray) : cmS a b < 0 ↔ lsB a b = true := by
  unfold cmS
  rcases h : lsB a b with _ | _
  · simp only [Bool.false_eq_true, if_false]
    split <;> simp
  · simp
theorem isT_eq {a b : ByteArray} (h : isT a = true) (h2 : isT b = true) : cmS a b = 0 := by
  have e1 : a.toList = [116, 97, 117] := by simpa [isT] using h
  have e2 : b.toList = [116, 97, 117] := by simpa [isT] using h2
  unfold cmS lsB
  rw [e1, e2, bl_irrefl]
  simp
theorem cmL_T {a b : ByteArray} (h : isT b = true) : ¬ cmL a b < 0 := by
  unfold cmL
  rw [h, orL_cons, orL_cons]
  rcases ha : isT a with _ | _
  · simp [trI, cmI]
  · rw [isT_eq ha h]
    simp [trI, cmI, orL]
theorem cmL_first {a b : ByteArray} (h : isT a = true) (h2 : isT b = false) : cmL a b < 0 := by
  unfold cmL
  rw [h, h2, orL_cons]
  simp [trI, cmI]
theorem cmL_rest {a b : ByteArray} (h : isT a = false) (h2 : isT b = false) : cmL a b < 0 ↔ lsB a b = true := by
  rw [← cmS_neg]
  unfold cmL
  rw [h, h2, orL_cons, orL_cons]
  simp only [trI, cmI, Bool.not_false, if_true]
  by_cases e : cmS a b = 0
  · rw [e]; simp [orL]
  · simp [e]
theorem cmL_not {a b : ByteArray} (h : cmL a b < 0) : isT b = false := by
  rcases hb : isT b with _ | _
  · rfl
  · exact absurd h (cmL_T hb)
theorem labB_tau {s : ByteArray} (h : isT s = true) : labB s = true := by
  have e1 : s.toList = [116, 97, 117] := by simpa [isT] using h
  rw [ByteArray.toList_eq] at e1
  have e2 : s.data.toList = [116, 97, 117] := e1
  unfold labB
  have hn : nameP [116, 97, 117] := ⟨by simp, by simp, fun i b hb => by
    match i, hb with
    | 0, hb => simp at hb; subst hb; exact .inl (by decide)
    | 1, hb => simp at hb; subst hb; exact .inl (by decide)
    | 2, hb => simp at hb; subst hb; exact .inl (by decide)⟩
  rw [e2, lvR_yes (vs := []) ((lab_plain (by decide)).2 ⟨hn, rfl⟩)]
/-- Labels of a valid system. -/
noncomputable def lsOk (ls : List ByteArray) : Bool := decide (1 ≤ ls.length ∧ ls.length ≤ 12) && ((ls.take 1).all isT && (inc cmL ls && ls.all labB))
def idxI (k n : Int) : Bool := decide (0 ≤ k ∧ k < n)
theorem idxI_iff {k n : Int} : idxI k n = true ↔ 0 ≤ k ∧ k < n := by unfold idxI; exact decide_eq_true_iff
theorem idxI_yes {k n : Int} (h : 0 ≤ k ∧ k < n) : idxI k n = true := idxI_iff.2 h
theorem idxI_no {k n : Int} (h : ¬ (0 ≤ k ∧ k < n)) : idxI k n = false := by unfold idxI; exact decide_eq_false h
def inR (k lo hi : Int) : Bool := decide (lo ≤ k ∧ k ≤ hi)
theorem inR_yes {k lo hi : Int} (h : lo ≤ k ∧ k ≤ hi) : inR k lo hi = true := by unfold inR; exact decide_eq_true h
theorem inR_no {k lo hi : Int} (h : ¬ (lo ≤ k ∧ k ≤ hi)) : inR k lo hi = false := by unfold inR; exact decide_eq_false h
theorem inR_idx (k n : Int) : inR k 0 (n - 1) = idxI k n := by
  by_cases h : 0 ≤ k ∧ k < n
  · rw [idxI_yes h, inR_yes (by omega)]
  · rw [idxI_no h, inR_no (by omega)]
def inE (n m : Int) (e : Ed) : Bool := idxI e.f n && (idxI e.l m && idxI e.t n)
noncomputable def ltB (x : Lt) : Bool := decide (1 ≤ x.st ∧ x.st ≤ 40) && (decide (0 ≤ x.ini ∧ x.ini < x.st) && (lsOk x.ls && (decide (x.es.length ≤ 300) && (inc cmE x.es && x.es.all (inE x.st x.ls.length)))))
theorem lsOk_len {ls : List ByteArray} (h : ¬ (1 ≤ ls.length ∧ ls.length ≤ 12)) : lsOk ls = false := by unfold lsOk; rw [decide_eq_false h]; rfl
theorem lsOk_head {ls : List ByteArray} {u : ByteArray} (hu : ls[0]? = some u) (h : isT u = false) : lsOk ls = false := by
  have e : ls.take 1 = [u] := by rw [take_one _ _ _ hu]; rfl
  unfold lsOk; rw [e]; simp [h]
theorem lsOk_inc {ls : List ByteArray} (h : inc cmL ls = false) : lsOk ls = false := by unfold lsOk; rw [h]; simp
theorem lsOk_lab {ls : List ByteArray} (h : ls.all labB = false) : lsOk ls = false := by unfold lsOk; rw [h]; simp
theorem lsOk_yes {ls : List ByteArray} {u : ByteArray} (hl : 1 ≤ ls.length ∧ ls.length ≤ 12) (hu : ls[0]? = some u) (h : isT u = true) (h1 : inc cmL ls = true) (h2 : ls.all labB = true) : lsOk ls = true := by
  have e : ls.take 1 = [u] := by rw [take_one _ _ _ hu]; rfl
  unfold lsOk; rw [decide_eq_true hl, e, h1, h2]; simp [h]
theorem ltB_st {x : Lt} (h : ¬ (1 ≤ x.st ∧ x.st ≤ 40)) : ltB x = false := by unfold ltB; rw [decide_eq_false h]; rfl
theorem ltB_ini {x : Lt} (h : ¬ (0 ≤ x.ini ∧ x.ini < x.st)) : ltB x = false := by unfold ltB; rw [decide_eq_false h]; simp
theorem ltB_ls {x : Lt} (h : lsOk x.ls = false) : ltB x = false := by unfold ltB; rw [h]; simp
theorem ltB_len {x : Lt} (h : ¬ x.es.length ≤ 300) : ltB x = false := by unfold ltB; rw [decide_eq_false h]; simp
theorem ltB_inc {x : Lt} (h : inc cmE x.es = false) : ltB x = false := by unfold ltB; rw [h]; simp
theorem ltB_in {x : Lt} (h : x.es.all (inE x.st x.ls.length) = false) : ltB x = false := by unfold ltB; rw [h]; simp
theorem ltB_yes {x : Lt} (h1 : 1 ≤ x.st ∧ x.st ≤ 40) (h2 : 0 ≤ x.ini ∧ x.ini < x.st) (h3 : lsOk x.ls = true) (h4 : x.es.length ≤ 300) (h5 : inc cmE x.es = true) (h6 : x.es.all (inE x.st x.ls.length) = true) : ltB x = true := by
  unfold ltB; rw [decide_eq_true h1, decide_eq_true h2, h3, decide_eq_true h4, h5, h6]; rfl
theorem ltB_parts {x : Lt} (h : ltB x = true) : (1 ≤ x.st ∧ x.st ≤ 40) ∧ (0 ≤ x.ini ∧ x.ini < x.st) ∧ lsOk x.ls = true ∧ x.es.length ≤ 300 ∧ inc cmE x.es = true ∧ x.es.all (inE x.st x.ls.length) = true := by
  unfold ltB at h
  rw [Bool.and_eq_true, Bool.and_eq_true, Bool.and_eq_true, Bool.and_eq_true, Bool.and_eq_true, decide_eq_true_iff, decide_eq_true_iff, decide_eq_true_iff] at h
  exact h
theorem inE_iff {n m : Int} {e : Ed} : inE n m e = true ↔ (0 ≤ e.f ∧ e.f < n) ∧ (0 ≤ e.l ∧ e.l < m) ∧ 0 ≤ e.t ∧ e.t < n := by
  unfold inE
  rw [Bool.and_eq_true, Bool.and_eq_true, idxI_iff, idxI_iff, idxI_iff]
theorem inE_not {n m : Int} {e : Ed} (h : ¬ ((0 ≤ e.f ∧ e.f < n) ∧ (0 ≤ e.l ∧ e.l < m) ∧ 0 ≤ e.t ∧ e.t < n)) : inE n m e = false := by
  rcases hb : inE n m e with _ | _
  · rfl
  · exact absurd (inE_iff.1 hb) h
end Go.Proofs.YthbnfjedjijacaaGreatDoor
