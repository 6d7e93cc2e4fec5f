/- Successors by a label: plain mathematics. -/
import Derived.Test.YtbailpfjgjcbdaaGreatDoorRea
namespace Go.Proofs.YtbailpfjgjcbdaaGreatDoor
open Go.RowKit
set_option linter.unusedVariables false
def hasU (ls : List ByteArray) (u : ByteArray) : Bool := ls.any fun s => eqB s u
def fndN (ls : List ByteArray) (u : ByteArray) : Nat := ls.findIdx fun s => eqB s u
def fndI (ls : List ByteArray) (u : ByteArray) : Int := if hasU ls u = true then (fndN ls u : Int) else -1
theorem fndI_no {ls : List ByteArray} {u : ByteArray} (h : hasU ls u = false) : fndI ls u = -1 := by unfold fndI; rw [h]; rfl
theorem fndI_yes {ls : List ByteArray} {u : ByteArray} (h : hasU ls u = true) : fndI ls u = (fndN ls u : Int) := by unfold fndI; rw [h]; rfl
theorem eqB_eq {a b : ByteArray} : eqB a b = true ↔ a = b := by
  unfold eqB
  rw [beq_iff_eq, ByteArray.toList_eq, ByteArray.toList_eq]
  constructor
  · intro h
    cases a with | mk a => cases b with | mk b => exact congrArg ByteArray.mk (Array.ext' h)
  · rintro rfl; rfl
theorem hasU_hit {ls : List ByteArray} {u s : ByteArray} {k : Nat} (hs : ls[k]? = some s) (h : eqB s u = true) : hasU ls u = true := List.any_eq_true.2 ⟨s, List.mem_of_getElem? hs, h⟩
theorem fndN_hit {ls : List ByteArray} {u s : ByteArray} {k : Nat} (hn : (ls.take k).all (fun s => !(eqB s u)) = true) (hs : ls[k]? = some s) (h : eqB s u = true) : fndN ls u = k := by
  obtain ⟨hk, e⟩ := List.getElem?_eq_some_iff.1 hs
  unfold fndN
  refine (List.findIdx_eq (p := fun s => eqB s u) hk).2 ⟨by rw [e]; exact h, fun j hj => ?_⟩
  have hm : ls[j] ∈ ls.take k := List.mem_of_getElem? (i := j) (by rw [List.getElem?_take, if_pos hj]; exact List.getElem?_eq_getElem (by omega))
  have := List.all_eq_true.1 hn _ hm
  simpa using this
theorem hasU_none {ls : List ByteArray} {u : ByteArray} (h : ls.all (fun s => !(eqB s u)) = true) : hasU ls u = false := by
  unfold hasU
  rw [Bool.eq_false_iff]
  intro e
  obtain ⟨s, hs, hp⟩ := List.any_eq_true.1 e
  have := List.all_eq_true.1 h s hs
  rw [hp] at this; cases this
theorem fndN_lt {ls : List ByteArray} {u : ByteArray} (h : hasU ls u = true) : fndN ls u < ls.length := by
  unfold fndN
  rw [List.findIdx_lt_length]
  obtain ⟨s, hs, hp⟩ := List.any_eq_true.1 h
  exact ⟨s, hs, hp⟩
/-- The labels of a valid system are told apart. -/
theorem bl_trans : ∀ {x y z : List UInt8}, Op.bytesLess x y = true → Op.bytesLess y z = true → Op.bytesLess x z = true
  | _, _, [], _, h2 => by cases ‹List UInt8› <;> simp [Op.bytesLess] at h2
  | [], _, _ :: _, _, _ => by simp [Op.bytesLess]
  | _ :: _, [], _ :: _, h1, _ => by simp [Op.bytesLess] at h1
  | a :: x, b :: y, c :: z, h1, h2 => by
    unfold Op.bytesLess at h1 h2 ⊢
    rw [Bool.or_eq_true, Bool.and_eq_true] at h1 h2 ⊢
    rcases h1 with h1 | ⟨e1, h1⟩
    · have h1' := of_decide_eq_true h1
      rcases h2 with h2 | ⟨e2, h2⟩
      · exact .inl (decide_eq_true (UInt8.lt_trans h1' (of_decide_eq_true h2)))
      · have e : b = c := by simpa using e2
        subst e; exact .inl h1
    · have e : a = b := by simpa using e1
      subst e
      rcases h2 with h2 | ⟨e2, h2⟩
      · exact .inl h2
      · exact .inr ⟨e2, bl_trans h1 h2⟩
theorem cmS_trans {a b c : ByteArray} (h1 : lsB a b = true) (h2 : lsB b c = true) : lsB a c = true := bl_trans h1 h2
theorem cmL_pair {ls : List ByteArray} (h : inc cmL ls = true) : ∀ {d i : Nat} {a b : ByteArray}, ls[i]? = some a → ls[i + (d + 1)]? = some b → isT b = false ∧ (isT a = true ∨ lsB a b = true)
  | 0, i, a, b, ha, hb => by
    by_cases hc : cmL a b < 0
    · refine ⟨cmL_not hc, ?_⟩
      rcases ta : isT a with _ | _
      · exact .inr ((cmL_rest ta (cmL_not hc)).1 hc)
      · exact .inl rfl
    · rw [inc_bad ha hb hc] at h; cases h
  | d + 1, i, a, b, ha, hb => by
    have hk := (List.getElem?_eq_some_iff.1 hb).1
    have hm : ls[i + (d + 1)]? = some ls[i + (d + 1)] := List.getElem?_eq_getElem (by omega)
    have h1 := cmL_pair h ha hm
    have h2 := cmL_pair (d := 0) h hm (show ls[i + (d + 1) + (0 + 1)]? = some b by rw [show i + (d + 1) + (0 + 1) = i + (d + 1 + 1) by omega]; exact hb)
    refine ⟨h2.1, ?_⟩
    rcases h1.2 with h | h
    · exact .inl h
    · rcases h2.2 with h' | h'
      · rw [h1.1] at h'; cases h'
      · exact .inr (cmS_trans h h')
theorem lab_one {x : Lt} (hv : ltB x = true) {i j : Nat} {s u : ByteArray} (hi : x.ls[i]? = some s) (hj : x.ls[j]? = some u) (he : eqB s u = true) : i = j := by
  have h := (ltB_parts hv).2.2.1
  unfold lsOk at h
  rw [Bool.and_eq_true, Bool.and_eq_true, Bool.and_eq_true] at h
  have e := eqB_eq.1 he
  subst e
  have hne : ∀ {i d : Nat}, x.ls[i]? = some s → x.ls[i + (d + 1)]? = some s → False := fun a b => by
    have := cmL_pair h.2.2.1 a b
    rcases this.2 with h' | h'
    · rw [this.1] at h'; cases h'
    · unfold lsB at h'; rw [bl_irrefl] at h'; cases h'
  rcases Nat.lt_trichotomy i j with hl | hl | hl
  · exact (hne (d := j - i - 1) hi (by rw [show i + (j - i - 1 + 1) = j by omega]; exact hj)).elim
  · exact hl
  · exact (hne (d := i - j - 1) hj (by rw [show j + (i - j - 1 + 1) = i by omega]; exact hi)).elim
/-- An edge's label is the one that is found. -/
theorem lab_fnd {x : Lt} (hv : ltB x = true) {u s : ByteArray} (hu : hasU x.ls u = true) {l : Int} (h0 : 0 ≤ l) (hs : x.ls[l.toNat]? = some s) : eqB s u = (l == (fndN x.ls u : Int)) := by
  have hn := fndN_lt hu
  have hf : eqB x.ls[fndN x.ls u] u = true := List.findIdx_getElem (p := fun s => eqB s u) (w := hn)
  rcases he : eqB s u with _ | _
  · symm
    rw [beq_eq_false_iff_ne]
    intro e
    have e2 : l.toNat = fndN x.ls u := by omega
    rw [e2, List.getElem?_eq_getElem hn] at hs
    injection hs with hs
    rw [hs, he] at hf; cases hf
  · symm
    have e := eqB_eq.1 he
    have ef := eqB_eq.1 hf
    have := lab_one hv hs (List.getElem?_eq_getElem hn) (by rw [eqB_eq, e, ef])
    rw [beq_iff_eq]; omega
def sucP (k n : Int) (e : Ed) : Bool := e.f == k && e.l == n
def sucE (x : Lt) (k n : Int) : List Int := (x.es.filter (sucP k n)).map Ed.t
def sucT (x : Lt) (k n : Int) (j : Nat) : List Int := ((x.es.take j).filter (sucP k n)).map Ed.t
noncomputable def sucC (x : Lt) (k : Int) (u : ByteArray) : Int := if stC x k = 0 then (if hasU x.ls u = true then 0 else 3) else stC x k
noncomputable def sucR (x : Lt) (k : Int) (u : ByteArray) : List Int := if sucC x k u = 0 then sucE x k (fndN x.ls u) else []
theorem sucC_st {x : Lt} {k : Int} {u : ByteArray} (h : ¬ stC x k = 0) : sucC x k u = stC x k := if_neg h
theorem sucC_no {x : Lt} {k : Int} {u : ByteArray} (h : stC x k = 0) (h2 : hasU x.ls u = false) : sucC x k u = 3 := by unfold sucC; rw [if_pos h, h2]; rfl
theorem sucC_ok {x : Lt} {k : Int} {u : ByteArray} (h : stC x k = 0) (h2 : hasU x.ls u = true) : sucC x k u = 0 := by unfold sucC; rw [if_pos h, h2]; rfl
theorem sucR_ok {x : Lt} {k : Int} {u : ByteArray} (h : sucC x k u = 0) : sucR x k u = sucE x k (fndN x.ls u) := if_pos h
theorem sucR_no {x : Lt} {k : Int} {u : ByteArray} (h : ¬ sucC x k u = 0) : sucR x k u = [] := if_neg h
theorem sucT_zero (x : Lt) (k n : Int) : sucT x k n 0 = [] := rfl
theorem sucT_yes {x : Lt} {k n : Int} {j : Nat} {e : Ed} (he : x.es[j]? = some e) (h : sucP k n e = true) : sucT x k n (j + 1) = sucT x k n j ++ [e.t] := by
  unfold sucT; rw [take_one _ _ _ he, List.filter_append, List.filter_cons, if_pos h, List.filter_nil, List.map_append]; rfl
theorem sucT_no {x : Lt} {k n : Int} {j : Nat} {e : Ed} (he : x.es[j]? = some e) (h : sucP k n e = false) : sucT x k n (j + 1) = sucT x k n j := by
  unfold sucT; rw [take_one _ _ _ he, List.filter_append, List.filter_cons, if_neg (by rw [h]; decide), List.filter_nil, List.append_nil]
theorem sucT_len (x : Lt) (k n : Int) (j : Nat) : (sucT x k n j).length ≤ j := by
  unfold sucT
  rw [List.length_map]
  exact Nat.le_trans (List.length_filter_le _ _) (by rw [List.length_take]; omega)
theorem sucT_all {x : Lt} {k n : Int} {j : Nat} (h : x.es.length ≤ j) : sucT x k n j = sucE x k n := by unfold sucT sucE; rw [List.take_of_length_le h]
theorem sucE_len (x : Lt) (k n : Int) : (sucE x k n).length ≤ x.es.length := by
  unfold sucE; rw [List.length_map]; exact List.length_filter_le _ _
theorem sucR_len (x : Lt) (k : Int) (u : ByteArray) : (sucR x k u).length ≤ x.es.length := by
  unfold sucR; split
  · exact sucE_len ..
  · simp
end Go.Proofs.YtbailpfjgjcbdaaGreatDoor
