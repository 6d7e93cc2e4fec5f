/- The reachable part: plain mathematics. -/
import Derived.Test.YtbailpfjgjcbdaaGreatDoorIcM
namespace Go.Proofs.YtbailpfjgjcbdaaGreatDoor
open Go.RowKit
/-- Where a number stands; -1 if it does not. -/
def plN (xs : List Int) (k : Int) : Nat := xs.findIdx fun u => u == k
def plI (xs : List Int) (k : Int) : Int := if xs.any (fun u => u == k) then (plN xs k : Int) else -1
theorem plI_no {xs : List Int} {k : Int} (h : xs.any (fun u => u == k) = false) : plI xs k = -1 := by unfold plI; rw [h]; rfl
theorem plI_hit {xs : List Int} {k : Int} {j : Nat} (hn : (xs.take j).all (fun u => !(u == k)) = true) (hj : xs[j]? = some k) : plI xs k = (j : Int) := by
  obtain ⟨hl, e⟩ := List.getElem?_eq_some_iff.1 hj
  have ha : xs.any (fun u => u == k) = true := List.any_eq_true.2 ⟨k, List.mem_of_getElem? hj, by simp⟩
  unfold plI plN
  rw [if_pos ha]
  congr 1
  refine (List.findIdx_eq (p := fun u => u == k) hl).2 ⟨by rw [e]; simp, fun i hi => ?_⟩
  have hm : xs[i] ∈ xs.take j := List.mem_of_getElem? (i := i) (by rw [List.getElem?_take, if_pos hi]; exact List.getElem?_eq_getElem (by omega))
  have := List.all_eq_true.1 hn _ hm
  simpa using this
theorem plI_none {xs : List Int} {k : Int} (h : xs.all (fun u => !(u == k)) = true) : plI xs k = -1 := plI_no (by
  rw [Bool.eq_false_iff]
  intro e
  obtain ⟨u, hu, hp⟩ := List.any_eq_true.1 e
  have := List.all_eq_true.1 h u hu
  rw [hp] at this; cases this)
theorem plI_at {xs : List Int} (hu : xs.Pairwise (· < ·)) {j : Nat} {k : Int} (hj : xs[j]? = some k) : plI xs k = (j : Int) := by
  refine plI_hit ?_ hj
  rw [List.all_eq_true]
  intro u hm
  obtain ⟨i, hi⟩ := List.getElem?_of_mem hm
  rw [List.getElem?_take] at hi
  split at hi
  · rename_i hij
    obtain ⟨hl, e⟩ := List.getElem?_eq_some_iff.1 hi
    obtain ⟨hl2, e2⟩ := List.getElem?_eq_some_iff.1 hj
    have := List.pairwise_iff_getElem.1 hu i j hl hl2 hij
    rw [e, e2] at this
    have : ¬ u = k := by omega
    simp [this]
  · cases hi
theorem plI_mem {xs : List Int} {k : Int} : 0 ≤ plI xs k ↔ k ∈ xs := by
  unfold plI
  rcases h : xs.any (fun u => u == k) with _ | _
  · constructor
    · intro h2; simp at h2
    · intro h2
      have h3 : xs.any (fun u => u == k) = true := List.any_eq_true.2 ⟨k, h2, by simp⟩
      rw [h] at h3; cases h3
  · obtain ⟨u, hu, hp⟩ := List.any_eq_true.1 h
    have e : u = k := by simpa using hp
    subst e
    simp [hu]
theorem plI_lt {xs : List Int} {k : Int} : plI xs k < xs.length + 1 := by
  unfold plI
  split
  · have : plN xs k ≤ xs.length := List.findIdx_le_length
    omega
  · omega
theorem plI_ge {xs : List Int} {k : Int} : -1 ≤ plI xs k := by
  unfold plI
  split <;> omega
def reEd (xs : List Int) (e : Ed) : Ed := ⟨plI xs e.f, e.l, plI xs e.t⟩
def kpE (xs : List Int) (e : Ed) : Bool := decide (0 ≤ plI xs e.f) && decide (0 ≤ plI xs e.t)
def rpT (x : Lt) (xs : List Int) (j : Nat) : List Ed := ((x.es.take j).filter (kpE xs)).map (reEd xs)
theorem rpT_yes {x : Lt} {xs : List Int} {j : Nat} {e : Ed} (he : x.es[j]? = some e) (h : kpE xs e = true) : rpT x xs (j + 1) = rpT x xs j ++ [reEd xs e] := by
  unfold rpT; rw [take_one _ _ _ he, List.filter_append, List.filter_cons, if_pos h, List.filter_nil, List.map_append]; rfl
theorem rpT_no {x : Lt} {xs : List Int} {j : Nat} {e : Ed} (he : x.es[j]? = some e) (h : kpE xs e = false) : rpT x xs (j + 1) = rpT x xs j := by
  unfold rpT; rw [take_one _ _ _ he, List.filter_append, List.filter_cons, if_neg (by rw [h]; decide), List.filter_nil, List.append_nil]
theorem rpT_len (x : Lt) (xs : List Int) (j : Nat) : (rpT x xs j).length ≤ j := by
  unfold rpT
  rw [List.length_map]
  exact Nat.le_trans (List.length_filter_le _ _) (by rw [List.length_take]; omega)
def rpE (x : Lt) (xs : List Int) : List Ed := rpT x xs x.es.length
theorem rpT_all {x : Lt} {xs : List Int} {j : Nat} (h : x.es.length ≤ j) : rpT x xs j = rpE x xs := by unfold rpE rpT; rw [List.take_of_length_le h, List.take_of_length_le (Nat.le_refl _)]
def rpY (x : Lt) (xs : List Int) : Lt := ⟨(xs.length : Int), plI xs x.ini, x.ls, rpE x xs⟩
/-- The program's way: state after state. -/
def rpP (x : Lt) (xs ks : List Int) : List Ed := ks.flatMap fun k => (outE x k).map (reEd xs)
theorem rpP_snoc (x : Lt) (xs ks : List Int) (k : Int) : rpP x xs (ks ++ [k]) = rpP x xs ks ++ (outE x k).map (reEd xs) := by unfold rpP; rw [List.flatMap_append]; simp
theorem rpP_len (x : Lt) (xs : List Int) : ∀ ks : List Int, (rpP x xs ks).length ≤ x.es.length * ks.length
  | [] => by simp [rpP]
  | k :: ks => by
    have h := rpP_len x xs ks
    have h2 : (outE x k).length ≤ x.es.length := List.length_filter_le _ _
    unfold rpP at h ⊢
    rw [List.flatMap_cons, List.length_append, List.length_map, List.length_cons, Nat.mul_succ]
    omega
theorem filter_or : ∀ {es : List Ed} {p q : Ed → Bool}, es.Pairwise (fun a b => a.f ≤ b.f) → (∀ a b, p a = true → q b = true → a.f < b.f) → es.filter (fun e => p e || q e) = es.filter p ++ es.filter q
  | [], _, _, _, _ => rfl
  | e :: es, p, q, hs, h => by
    rw [List.pairwise_cons] at hs
    have ih := filter_or hs.2 h
    rcases hp : p e with _ | _
    · rcases hq : q e with _ | _
      · rw [List.filter_cons_of_neg (by simp [hp, hq]), List.filter_cons_of_neg (by simp [hp]), List.filter_cons_of_neg (by simp [hq])]
        exact ih
      · have hn : es.filter p = [] := List.filter_eq_nil_iff.2 fun a ha hpa => by
          have h1 := hs.1 a ha
          have h2 := h a e hpa hq
          omega
        rw [List.filter_cons_of_pos (by simp [hq]), List.filter_cons_of_neg (by simp [hp]), List.filter_cons_of_pos (by simp [hq]), ih, hn]
        rfl
    · rw [List.filter_cons_of_pos (by simp [hp]), List.filter_cons_of_pos (by simp [hp])]
      rcases hq : q e with _ | _
      · rw [List.filter_cons_of_neg (by simp [hq]), ih]; rfl
      · have := h e e hp hq
        omega
theorem flat_filter : ∀ {ks : List Int} {es : List Ed}, ks.Pairwise (· < ·) → es.Pairwise (fun a b => a.f ≤ b.f) → (ks.flatMap fun k => es.filter fun e => e.f == k) = es.filter fun e => ks.any fun k => e.f == k
  | [], es, _, _ => by simp
  | k :: ks, es, hk, he => by
    rw [List.pairwise_cons] at hk
    rw [List.flatMap_cons, flat_filter hk.2 he, ← filter_or he]
    · refine List.filter_congr fun e _ => ?_
      simp
    · intro a b ha hb
      have h1 : a.f = k := by simpa using ha
      obtain ⟨u, hu, h2⟩ := List.any_eq_true.1 hb
      have h3 : b.f = u := by simpa using h2
      have := hk.1 u hu
      omega
theorem inc_pw {α : Type} {c : α → α → Int} {R : α → α → Prop} (hc : ∀ a b, c a b < 0 → R a b) (ht : ∀ a b d, R a b → R b d → R a d) : ∀ {xs : List α}, inc c xs = true → xs.Pairwise R
  | [], _ => List.Pairwise.nil
  | [a], _ => List.pairwise_singleton _ _
  | a :: b :: r, h => by
    unfold inc at h
    rw [Bool.and_eq_true] at h
    have h1 := hc _ _ (of_decide_eq_true h.1)
    have h2 := inc_pw hc ht h.2
    rw [List.pairwise_cons]
    refine ⟨fun d hd => ?_, h2⟩
    rcases List.mem_cons.1 hd with rfl | hd
    · exact h1
    · exact ht _ _ _ h1 ((List.pairwise_cons.1 h2).1 d hd)
theorem es_up {x : Lt} (hv : ltB x = true) : x.es.Pairwise (fun a b => a.f ≤ b.f) :=
  inc_pw (c := cmE) (R := fun a b : Ed => a.f ≤ b.f) (fun a b h => by
    have h1 := (cmE_less a b).1 h
    unfold lesE at h1
    split at h1
    · omega
    · have := of_decide_eq_true h1; omega) (fun a b d h1 h2 => Int.le_trans h1 h2) (ltB_parts hv).2.2.2.2.1
theorem rpP_all {x : Lt} (hv : ltB x = true) : rpP x (rchL x) (rchL x) = rpE x (rchL x) := by
  unfold rpP rpE rpT outE
  rw [List.take_of_length_le (Nat.le_refl _)]
  have h1 : ((rchL x).flatMap fun k => (x.es.filter fun e => e.f == k).map (reEd (rchL x))) = ((rchL x).flatMap fun k => x.es.filter fun e => e.f == k).map (reEd (rchL x)) := by rw [List.map_flatMap]
  rw [h1, flat_filter (rchL_up x) (es_up hv)]
  congr 1
  refine List.filter_congr fun e he => ?_
  rw [Bool.eq_iff_iff]
  unfold kpE
  rw [Bool.and_eq_true, decide_eq_true_iff, decide_eq_true_iff, plI_mem, plI_mem, List.any_eq_true]
  constructor
  · rintro ⟨k, hk, h⟩
    have e1 : e.f = k := by simpa using h
    subst e1
    exact ⟨hk, (mem_rchL hv).2 (.step he ((mem_rchL hv).1 hk))⟩
  · rintro ⟨h1, _⟩
    exact ⟨e.f, h1, by simp⟩
def ltZ : Lt := ⟨0, 0, [], []⟩
noncomputable def rpR (x : Lt) : Lt := if ltB x = true then rpY x (rchL x) else ltZ
theorem rpR_no {x : Lt} (h : ltB x = false) : rpR x = ltZ := by unfold rpR; rw [h]; rfl
theorem rpR_yes {x : Lt} (h : ltB x = true) : rpR x = rpY x (rchL x) := if_pos h
end Go.Proofs.YtbailpfjgjcbdaaGreatDoor
