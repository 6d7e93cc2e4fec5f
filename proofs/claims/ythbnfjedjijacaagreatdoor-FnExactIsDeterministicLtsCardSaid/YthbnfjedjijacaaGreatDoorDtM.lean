/- Deterministic systems and the edges out of a state: plain mathematics. -/
import Derived.Test.YthbnfjedjijacaaGreatDoorLtA
namespace Go.Proofs.YthbnfjedjijacaaGreatDoor
open Go.RowKit
def besE (a b : Ed) : Bool := a.f == b.f && a.l == b.l
/-- Whether edge k speaks against a deterministic system. -/
def badK (es : List Ed) : Nat → Bool
  | 0 => match es[0]? with
    | none => false
    | some e => e.l == 0
  | k + 1 => match es[k + 1]?, es[k]? with
    | some e, some u => e.l == 0 || besE e u
    | _, _ => false
def sglB (es : List Ed) (n : Nat) : Bool := (List.range n).all fun k => !badK es k
noncomputable def detB (x : Lt) : Bool := ltB x && sglB x.es x.es.length
theorem badK_zero {es : List Ed} {e : Ed} (h : es[0]? = some e) : badK es 0 = (e.l == 0) := by simp only [badK, h]
theorem badK_succ {es : List Ed} {k : Nat} {e u : Ed} (h : es[k + 1]? = some e) (hu : es[k]? = some u) : badK es (k + 1) = (e.l == 0 || besE e u) := by simp only [badK, h, hu]
theorem badK_tau {es : List Ed} {k : Nat} {e : Ed} (h : es[k]? = some e) (hl : (e.l == 0) = true) : badK es k = true := by
  rcases k with _ | k
  · rw [badK_zero h]; exact hl
  · have hk := (List.getElem?_eq_some_iff.1 h).1
    rw [badK_succ h (List.getElem?_eq_getElem (show k < es.length by omega)), hl]; rfl
theorem sglB_zero (es : List Ed) : sglB es 0 = true := rfl
theorem sglB_succ (es : List Ed) (k : Nat) : sglB es (k + 1) = (sglB es k && !badK es k) := by
  unfold sglB
  rw [List.range_succ, List.all_append]
  simp
theorem sglB_next {es : List Ed} {k : Nat} (h : sglB es k = true) (hb : badK es k = false) : sglB es (k + 1) = true := by rw [sglB_succ, h, hb]; rfl
theorem sglB_bad {es : List Ed} {k : Nat} (hk : k < es.length) (h : badK es k = true) : sglB es es.length = false := by
  rw [Bool.eq_false_iff]
  intro h2
  have h3 := List.all_eq_true.1 h2 k (List.mem_range.2 hk)
  rw [h] at h3
  cases h3
theorem detB_no {x : Lt} (h : ltB x = false) : detB x = false := by unfold detB; rw [h]; rfl
theorem detB_eq {x : Lt} (h : ltB x = true) : detB x = sglB x.es x.es.length := by unfold detB; rw [h]; rfl
/-- The first label of a valid system alone is tau. -/
theorem lab_tau {x : Lt} (hv : ltB x = true) {k : Nat} {u : ByteArray} (hu : x.ls[k]? = some u) : isT u = decide (k = 0) := by
  have h := (ltB_parts hv).2.2.1
  unfold lsOk at h
  rw [Bool.and_eq_true, Bool.and_eq_true, Bool.and_eq_true] at h
  obtain ⟨_, h1, h2, _⟩ := h
  rcases k with _ | k
  · have e : x.ls.take 1 = [u] := by rw [take_one _ _ _ hu]; rfl
    rw [e] at h1
    simpa using h1
  · have hk := (List.getElem?_eq_some_iff.1 hu).1
    have hp : x.ls[k]? = some x.ls[k] := List.getElem?_eq_getElem (by omega)
    by_cases h : cmL x.ls[k] u < 0
    · rw [cmL_not h]; simp
    · rw [inc_bad hp hu h] at h2; cases h2
/-- The edges out of a state. -/
def outE (x : Lt) (k : Int) : List Ed := x.es.filter fun e => e.f == k
noncomputable def stC (x : Lt) (k : Int) : Int := if ltB x = true then (if idxI k x.st = true then 0 else 2) else 1
noncomputable def outR (x : Lt) (k : Int) : List Ed := if stC x k = 0 then outE x k else []
theorem stC_inv {x : Lt} {k : Int} (h : ltB x = false) : stC x k = 1 := by unfold stC; rw [h]; rfl
theorem stC_rng {x : Lt} {k : Int} (h : ltB x = true) (h2 : idxI k x.st = false) : stC x k = 2 := by unfold stC; rw [h, h2]; rfl
theorem stC_ok {x : Lt} {k : Int} (h : ltB x = true) (h2 : idxI k x.st = true) : stC x k = 0 := by unfold stC; rw [h, h2]; rfl
theorem stC_parts {x : Lt} {k : Int} (h : stC x k = 0) : ltB x = true ∧ idxI k x.st = true := by
  unfold stC at h
  split at h
  · split at h
    · exact ⟨by assumption, by assumption⟩
    · cases h
  · cases h
theorem outR_ok {x : Lt} {k : Int} (h : stC x k = 0) : outR x k = outE x k := if_pos h
theorem outR_no {x : Lt} {k : Int} (h : ¬ stC x k = 0) : outR x k = [] := if_neg h
def outT (x : Lt) (k : Int) (j : Nat) : List Ed := (x.es.take j).filter fun e => e.f == k
theorem outT_zero (x : Lt) (k : Int) : outT x k 0 = [] := rfl
theorem outT_yes {x : Lt} {k : Int} {j : Nat} {e : Ed} (he : x.es[j]? = some e) (h : (e.f == k) = true) : outT x k (j + 1) = outT x k j ++ [e] := by
  unfold outT; rw [take_one _ _ _ he, List.filter_append]; simp [h]
theorem outT_no {x : Lt} {k : Int} {j : Nat} {e : Ed} (he : x.es[j]? = some e) (h : (e.f == k) = false) : outT x k (j + 1) = outT x k j := by
  unfold outT; rw [take_one _ _ _ he, List.filter_append]; simp [h]
theorem outT_len (x : Lt) (k : Int) (j : Nat) : (outT x k j).length ≤ j := by
  have h1 := List.length_filter_le (fun e : Ed => e.f == k) (x.es.take j)
  have h2 := List.length_take_le j x.es
  unfold outT; omega
theorem outT_all {x : Lt} {k : Int} {j : Nat} (h : x.es.length ≤ j) : outT x k j = outE x k := by unfold outT outE; rw [List.take_of_length_le h]
theorem outR_len (x : Lt) (k : Int) : (outR x k).length ≤ x.es.length := by
  unfold outR
  split
  · exact List.length_filter_le _ _
  · exact Nat.zero_le _
theorem ok_out {x : Lt} {k : Int} (ok : okLt x) : okList okAny (outR x k) := by
  have h1 := outR_len x k
  have h2 := ok.2.1
  exact ⟨by omega, fun _ _ => trivial⟩
theorem cnt_out {x : Lt} {k : Int} (ok : okLt x) : cntL edM (outR x k) ≤ 100000000 := by
  have h1 := cnt_ed (outR x k)
  have h2 := wL_z (outR x k)
  have h3 := outR_len x k
  have h4 := ok.2.1
  omega
/-- The cells of edges. -/
def edC (e : Ed) : List Value := [.int .i64 e.f, .int .i64 e.l, .int .i64 e.t]
def edCs (xs : List Ed) : List Value := xs.flatMap edC
theorem edCs_nil : edCs [] = [] := rfl
theorem edCs_snoc (xs : List Ed) (e : Ed) : edCs (xs ++ [e]) = edCs xs ++ edC e := by simp [edCs]
theorem edCs_len : ∀ xs : List Ed, (edCs xs).length = xs.length * 3
  | [] => rfl
  | a :: r => by
    have h := edCs_len r
    unfold edCs at h ⊢
    rw [List.flatMap_cons, List.length_append, h, List.length_cons]
    show 3 + _ = _
    omega
theorem edCs_at : ∀ {xs : List Ed} {j : Nat} {e : Ed}, xs[j]? = some e → ((edCs xs).drop (j * 3)).take 3 = edC e
  | [], _, _, h => by simp at h
  | a :: r, 0, e, h => by simp at h; subst h; rfl
  | a :: r, j + 1, e, h => by
    have h2 : r[j]? = some e := by simpa using h
    have h3 := edCs_at h2
    unfold edCs at h3 ⊢
    rw [List.flatMap_cons, show (j + 1) * 3 = 3 + j * 3 by omega, ← List.drop_drop]
    exact h3
theorem ol_ed {w : World} {lo n c : Nat} {A : Option Addr} {xs : List Ed} {T : TypeId} (h : w.ownsRow lo T 3 (.slice A n c) n (edCs xs)) (hl : xs.length = n) : OL edO T w (In lo w.heap.size) A n c xs :=
  ⟨hl, fun g hg => h.lt g hg, edCs xs, fun _ _ => False, own_low h (Nat.zero_le _), fun _ _ he => edCs_at he, fun _ _ _ e => e.elim, fun _ _ _ _ _ _ e => e.elim⟩
end Go.Proofs.YthbnfjedjijacaaGreatDoor
