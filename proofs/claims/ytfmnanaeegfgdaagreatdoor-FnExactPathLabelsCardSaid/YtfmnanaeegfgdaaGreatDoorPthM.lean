/- Paths of a transition system, as mathematics. -/
import Derived.Test.YtfmnanaeegfgdaaGreatDoorLtA
namespace Go.Proofs.YtfmnanaeegfgdaaGreatDoor
open Go.RowKit
def edAt (x : Lt) (i : Int) : Ed := x.es.getD i.toNat default
/-- Where a path ends. -/
def endP (x : Lt) (p : List Int) : Int := match p.getLast? with
  | none => x.ini
  | some i => (edAt x i).t
/-- Whether the first k edges of a path begin where the ones before them end. -/
def stB (x : Lt) (p : List Int) (k : Nat) : Bool := (List.range k).all fun j => (edAt x (p.getD j 0)).f == endP x (p.take j)
def rngB (x : Lt) (p : List Int) : Bool := p.all fun i => idxI i x.es.length
noncomputable def pathC (x : Lt) (p : List Int) : Int := if ltB x = true then (if rngB x p = true then (if stB x p p.length = true then 0 else 7) else 2) else 1
noncomputable def pathE (x : Lt) (p : List Int) : Int := if pathC x p = 0 then endP x p else 0
theorem endP_nil (x : Lt) : endP x [] = x.ini := rfl
theorem endP_snoc (x : Lt) (p : List Int) (i : Int) : endP x (p ++ [i]) = (edAt x i).t := by unfold endP; rw [List.getLast?_append]; rfl
theorem endP_take {x : Lt} {p : List Int} {k : Nat} {i : Int} (h : p[k]? = some i) : endP x (p.take (k + 1)) = (edAt x i).t := by rw [take_one _ _ _ h, endP_snoc]
theorem edAt_of {x : Lt} {k : Nat} {e : Ed} (h : x.es[k]? = some e) : edAt x (k : Int) = e := by
  unfold edAt
  rw [Int.toNat_natCast, List.getD_eq_getElem?_getD, h]; rfl
theorem stB_zero (x : Lt) (p : List Int) : stB x p 0 = true := rfl
theorem stB_succ {x : Lt} {p : List Int} {k : Nat} {i : Int} (h : p[k]? = some i) : stB x p (k + 1) = (stB x p k && ((edAt x i).f == endP x (p.take k))) := by
  unfold stB
  rw [List.range_succ, List.all_append]
  have e : p.getD k 0 = i := by rw [List.getD_eq_getElem?_getD, h]; rfl
  rw [List.all_cons, List.all_nil, Bool.and_true, e]
theorem stB_no {x : Lt} {p : List Int} {k : Nat} {i : Int} (h : p[k]? = some i) (hn : ((edAt x i).f == endP x (p.take k)) = false) : stB x p p.length = false := by
  have hk := (List.getElem?_eq_some_iff.1 h).1
  rcases hb : stB x p p.length with _ | _
  · rfl
  · have := List.all_eq_true.1 hb k (List.mem_range.2 hk)
    have e : p.getD k 0 = i := by rw [List.getD_eq_getElem?_getD, h]; rfl
    rw [e, hn] at this
    cases this
theorem rngB_at {x : Lt} {p : List Int} (h : rngB x p = true) {k : Nat} {i : Int} (hi : p[k]? = some i) : 0 ≤ i ∧ i < x.es.length :=
  idxI_iff.1 (List.all_eq_true.1 h i (List.mem_of_getElem? hi))
theorem rngB_take {x : Lt} {p : List Int} (h : rngB x p = true) (k : Nat) : rngB x (p.take k) = true :=
  List.all_eq_true.2 fun i hi => List.all_eq_true.1 h i (List.mem_of_mem_take hi)
theorem pathC_inv {x : Lt} {p : List Int} (h : ltB x = false) : pathC x p = 1 := by unfold pathC; rw [h]; rfl
theorem pathC_rng {x : Lt} {p : List Int} (h : ltB x = true) (h2 : rngB x p = false) : pathC x p = 2 := by unfold pathC; rw [h, h2]; rfl
theorem pathC_ord {x : Lt} {p : List Int} (h : ltB x = true) (h2 : rngB x p = true) (h3 : stB x p p.length = false) : pathC x p = 7 := by unfold pathC; rw [h, h2, h3]; rfl
theorem pathC_ok {x : Lt} {p : List Int} (h : ltB x = true) (h2 : rngB x p = true) (h3 : stB x p p.length = true) : pathC x p = 0 := by unfold pathC; rw [h, h2, h3]; rfl
theorem pathE_ok {x : Lt} {p : List Int} (h : pathC x p = 0) : pathE x p = endP x p := by unfold pathE; rw [if_pos h]
theorem pathE_no {x : Lt} {p : List Int} (h : ¬ pathC x p = 0) : pathE x p = 0 := by unfold pathE; rw [if_neg h]
end Go.Proofs.YtfmnanaeegfgdaaGreatDoor
