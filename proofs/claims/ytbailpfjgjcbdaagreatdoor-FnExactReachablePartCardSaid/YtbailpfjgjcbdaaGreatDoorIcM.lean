/- Closures over edges: plain mathematics. -/
import Derived.Test.YtbailpfjgjcbdaaGreatDoorSuM
import Derived.Test.YtbailpfjgjcbdaaGreatDoorRea
namespace Go.Proofs.YtbailpfjgjcbdaaGreatDoor
open Go.RowKit
/-- What edges lead to from some numbers. -/
inductive Cl (es : List Ed) (st : List Int) : Int → Prop
  | ini {k : Int} : k ∈ st → Cl es st k
  | step {e : Ed} : e ∈ es → Cl es st e.f → Cl es st e.t
theorem cl_closed {es : List Ed} {st : List Int} {P : Int → Prop} (h0 : ∀ k ∈ st, P k) (h1 : ∀ e ∈ es, P e.f → P e.t) {k : Int} (h : Cl es st k) : P k := by
  induction h with
  | ini hk => exact h0 _ hk
  | step he _ ih => exact h1 _ he ih
noncomputable def clB (es : List Ed) (st : List Int) (k : Int) : Bool := @decide (Cl es st k) (Classical.propDecidable _)
theorem clB_iff {es : List Ed} {st : List Int} {k : Int} : clB es st k = true ↔ Cl es st k := by unfold clB; exact @decide_eq_true_iff _ (Classical.propDecidable _)
noncomputable def clL (n : Nat) (es : List Ed) (st : List Int) : List Int := (nums n).filter (clB es st)
theorem clL_congr {n : Nat} {es : List Ed} {st st' : List Int} (h : ∀ k, k ∈ st ↔ k ∈ st') : clL n es st = clL n es st' := by
  unfold clL
  refine List.filter_congr fun k _ => ?_
  rw [Bool.eq_iff_iff, clB_iff, clB_iff]
  exact ⟨fun hk => cl_closed (P := Cl es st') (fun k hk => .ini ((h k).1 hk)) (fun e he hf => .step he hf) hk, fun hk => cl_closed (P := Cl es st) (fun k hk => .ini ((h k).2 hk)) (fun e he hf => .step he hf) hk⟩
theorem clL_nil (n : Nat) (es : List Ed) : clL n es [] = [] := by
  unfold clL
  refine List.filter_eq_nil_iff.2 fun k _ => ?_
  rw [clB_iff]
  exact fun h => cl_closed (P := fun _ => False) (fun k hk => by cases hk) (fun _ _ hf => hf) h
def tauE (x : Lt) : List Ed := x.es.filter fun e => e.l == 0
theorem mem_tauE {x : Lt} {e : Ed} : e ∈ tauE x ↔ e ∈ x.es ∧ e.l = 0 := by
  unfold tauE
  rw [List.mem_filter]
  simp
def inSt (x : Lt) (st : List Int) : Prop := ∀ k ∈ st, 0 ≤ k ∧ k < x.st
noncomputable def cloL (x : Lt) (st : List Int) : List Int := clL x.st.toNat (tauE x) st
theorem cloL_nil (x : Lt) : cloL x [] = [] := clL_nil _ _
theorem cl_in {x : Lt} (hv : ltB x = true) {st : List Int} (hs : inSt x st) {k : Int} (h : Cl (tauE x) st k) : 0 ≤ k ∧ k < x.st :=
  cl_closed (P := fun k => 0 ≤ k ∧ k < x.st) hs (fun _ he _ => (inE_iff.1 (List.all_eq_true.1 (ltB_parts hv).2.2.2.2.2 _ (mem_tauE.1 he).1)).2.2) h
theorem mem_cloL {x : Lt} (hv : ltB x = true) {st : List Int} (hs : inSt x st) {k : Int} : k ∈ cloL x st ↔ Cl (tauE x) st k := by
  unfold cloL clL
  rw [List.mem_filter, mem_nums, clB_iff]
  constructor
  · exact fun h => h.2
  · intro h
    have := cl_in hv hs h
    exact ⟨by omega, h⟩
theorem cloL_in {x : Lt} (hv : ltB x = true) (st : List Int) : inSt x (cloL x st) := fun k hk => by
  unfold cloL clL at hk
  rw [List.mem_filter, mem_nums] at hk
  have := (ltB_parts hv).1
  omega
theorem cloL_up (x : Lt) (st : List Int) : (cloL x st).Pairwise (· < ·) := (nums_up _).filter _
theorem cloL_len (x : Lt) (st : List Int) : (cloL x st).length ≤ x.st.toNat := by
  have h := List.length_filter_le (clB (tauE x) st) (nums x.st.toNat)
  have h2 : (nums x.st.toNat).length = x.st.toNat := by unfold nums; rw [List.length_map, List.length_range]
  unfold cloL clL
  omega
theorem cloL_40 {x : Lt} (hv : ltB x = true) (st : List Int) : (cloL x st).length ≤ 40 := by
  have h1 := cloL_len x st
  have h2 := (ltB_parts hv).1
  omega
theorem mem_suc {x : Lt} {k n t : Int} : t ∈ sucE x k n ↔ ∃ e ∈ x.es, (e.f = k ∧ e.l = n) ∧ e.t = t := by
  unfold sucE sucP
  rw [List.mem_map]
  constructor
  · rintro ⟨e, he, h⟩
    rw [List.mem_filter] at he
    exact ⟨e, he.1, by simpa using he.2, h⟩
  · rintro ⟨e, he, h1, h2⟩
    exact ⟨e, List.mem_filter.2 ⟨he, by simpa using h1⟩, h2⟩
theorem mem_suc0 {x : Lt} {k t : Int} : t ∈ sucE x k 0 ↔ ∃ e ∈ tauE x, e.f = k ∧ e.t = t := by
  rw [mem_suc]
  constructor
  · rintro ⟨e, he, ⟨h1, h2⟩, h3⟩
    exact ⟨e, mem_tauE.2 ⟨he, h2⟩, h1, h3⟩
  · rintro ⟨e, he, h1, h3⟩
    exact ⟨e, (mem_tauE.1 he).1, ⟨h1, (mem_tauE.1 he).2⟩, h3⟩
/-- A search that has met ks and still has ws before it. -/
structure GS (es : List Ed) (st ks ws : List Int) : Prop where
  nd : ks.Nodup
  sk : ∀ k ∈ ks, Cl es st k
  sw : ∀ k ∈ ws, Cl es st k
  cl : ∀ e ∈ es, e.f ∈ ks → e.t ∈ ks ∨ e.t ∈ ws
  ini : ∀ k ∈ st, k ∈ ks ∨ k ∈ ws
theorem GS.start (es : List Ed) (st : List Int) : GS es st [] st :=
  ⟨List.nodup_nil, fun k h => (by cases h), fun k h => .ini h, fun e _ h => (by cases h), fun k h => .inr h⟩
theorem GS.skip {es : List Ed} {st ks ws : List Int} {k : Int} (h : GS es st ks (k :: ws)) (hk : k ∈ ks) : GS es st ks ws := by
  have go : ∀ t, t ∈ ks ∨ t ∈ k :: ws → t ∈ ks ∨ t ∈ ws := fun t ht => by
    rcases ht with h1 | h1
    · exact .inl h1
    · rcases List.mem_cons.1 h1 with h2 | h2
      · rw [h2]; exact .inl hk
      · exact .inr h2
  exact ⟨h.nd, h.sk, fun u hu => h.sw u (List.mem_cons_of_mem _ hu), fun e he hf => go _ (h.cl e he hf), fun u hu => go _ (h.ini u hu)⟩
theorem GS.step {es : List Ed} {st ks ws : List Int} {k : Int} (h : GS es st ks (k :: ws)) (hk : k ∉ ks) {nx : List Int} (hn : ∀ t, t ∈ nx ↔ ∃ e ∈ es, e.f = k ∧ e.t = t) : GS es st (ks ++ [k]) (ws ++ nx) := by
  have hrk : Cl es st k := h.sw k (by simp)
  have go : ∀ t, t ∈ ks ∨ t ∈ k :: ws → t ∈ ks ++ [k] ∨ t ∈ ws ++ nx := fun t ht => by
    rw [List.mem_append, List.mem_append, List.mem_singleton]
    rcases ht with h1 | h1
    · exact .inl (.inl h1)
    · rcases List.mem_cons.1 h1 with h2 | h2
      · exact .inl (.inr h2)
      · exact .inr (.inl h2)
  refine ⟨?_, fun u hu => ?_, fun u hu => ?_, fun e he hf => ?_, fun u hu => go _ (h.ini u hu)⟩
  · rw [List.nodup_append]
    refine ⟨h.nd, by simp, fun a ha b hb => ?_⟩
    rw [List.mem_singleton] at hb
    subst hb
    intro e; subst e; exact hk ha
  · rw [List.mem_append, List.mem_singleton] at hu
    rcases hu with hu | rfl
    · exact h.sk u hu
    · exact hrk
  · rw [List.mem_append] at hu
    rcases hu with hu | hu
    · exact h.sw u (List.mem_cons_of_mem _ hu)
    · obtain ⟨e, he, h1, h2⟩ := (hn u).1 hu
      rw [← h2]
      exact .step he (by rw [h1]; exact hrk)
  · rw [List.mem_append, List.mem_singleton] at hf
    rcases hf with hf | hf
    · exact go _ (h.cl e he hf)
    · exact .inr (List.mem_append.2 (.inr ((hn _).2 ⟨e, he, hf, rfl⟩)))
theorem GS.done {es : List Ed} {st ks : List Int} (h : GS es st ks []) (k : Int) : k ∈ ks ↔ Cl es st k := by
  refine ⟨h.sk k, fun hr => ?_⟩
  have no : ∀ t : Int, t ∈ ks ∨ t ∈ ([] : List Int) → t ∈ ks := fun t ht => by
    rcases ht with h1 | h1
    · exact h1
    · cases h1
  exact cl_closed (P := fun k => k ∈ ks) (fun u hu => no _ (h.ini u hu)) (fun e he hf => no _ (h.cl e he hf)) hr
theorem gs_len {x : Lt} {st ks ws : List Int} (hv : ltB x = true) (hs : inSt x st) (h : GS (tauE x) st ks ws) : ks.length ≤ 40 := by
  have hp := List.mergeSort_perm ks (fun a b : Int => decide (a ≤ b))
  have hso := List.pairwise_mergeSort (le := fun a b : Int => decide (a ≤ b)) (fun a b c h1 h2 => decide_eq_true (by have := of_decide_eq_true h1; have := of_decide_eq_true h2; omega)) (fun a b => by simp only [Bool.or_eq_true, decide_eq_true_iff]; omega) ks
  have hd : (ks.mergeSort (fun a b => decide (a ≤ b))).Nodup := hp.symm.nodup h.nd
  have hu : (ks.mergeSort (fun a b => decide (a ≤ b))).Pairwise (· < ·) := (hso.and hd).imp fun {a b} h => by
    have h1 := of_decide_eq_true h.1
    have h2 : a ≠ b := h.2
    omega
  have hst := (ltB_parts hv).1
  have h3 := up_len (lo := 0) (hi := x.st) hu (fun k hk => cl_in hv hs (h.sk k (hp.mem_iff.1 hk))) (by omega)
  rw [hp.length_eq] at h3
  omega
/-- The marks of a list. -/
structure MkS (n : Nat) (st : List Int) (sb : List Bool) : Prop where
  len : sb.length = n
  at_ : ∀ i : Nat, i < n → sb[i]? = some (decide ((i : Int) ∈ st))
theorem MkS.zero (n : Nat) : MkS n [] (List.replicate n false) := ⟨List.length_replicate, fun i hi => by rw [List.getElem?_replicate, if_pos hi]; simp⟩
theorem MkS.set {n : Nat} {st : List Int} {sb : List Bool} (h : MkS n st sb) {t : Nat} (ht : t < n) : MkS n (st ++ [(t : Int)]) (sb.set t true) := by
  refine ⟨by rw [List.length_set]; exact h.len, fun i hi => ?_⟩
  by_cases e : t = i
  · subst e
    rw [List.getElem?_set_self (by rw [h.len]; exact ht)]
    simp
  · rw [List.getElem?_set_ne e, h.at_ i hi]
    have e2 : ¬ (i : Int) = (t : Int) := by omega
    simp [List.mem_append, e2]
structure GMid (n : Nat) (es : List Ed) (st : List Int) (sb : List Bool) : Prop where
  len : sb.length = n
  ini : ∀ k ∈ st, sb[k.toNat]? = some true
  snd : ∀ j : Nat, sb[j]? = some true → Cl es st (j : Int)
theorem MkS.mid {n : Nat} {es : List Ed} {st : List Int} {sb : List Bool} (h : MkS n st sb) (hs : ∀ k ∈ st, 0 ≤ k ∧ k < (n : Int)) : GMid n es st sb := by
  refine ⟨h.len, fun k hk => ?_, fun j hj => ?_⟩
  · have := hs k hk
    rw [h.at_ k.toNat (by omega), Int.toNat_of_nonneg this.1]
    simp [hk]
  · have hl := (List.getElem?_eq_some_iff.1 hj).1
    rw [h.at_ j (by have := h.len; omega)] at hj
    injection hj with hj
    exact .ini (of_decide_eq_true hj)
def clo0 (x : Lt) (sb : List Bool) (j : Nat) : Prop := ∀ e ∈ x.es.take j, e.l = 0 → sb[e.f.toNat]? = some true → sb[e.t.toNat]? = some true
theorem clo0_zero (x : Lt) (sb : List Bool) : clo0 x sb 0 := fun e he => by simp at he
theorem clo0_next {x : Lt} {sb : List Bool} {j : Nat} {e : Ed} (h : clo0 x sb j) (he : x.es[j]? = some e) (hs : e.l = 0 → sb[e.f.toNat]? = some true → sb[e.t.toNat]? = some true) : clo0 x sb (j + 1) := by
  intro u hu
  rw [take_one _ _ _ he, List.mem_append, List.mem_singleton] at hu
  rcases hu with hu | rfl
  · exact h u hu
  · exact hs
theorem GMid.set {n : Nat} {es : List Ed} {st : List Int} {sb : List Bool} {e : Ed} {t : Nat} (h : GMid n es st sb) (he : e ∈ es) (hf : sb[e.f.toNat]? = some true) (h0 : 0 ≤ e.f) (ht : e.t = (t : Int)) : GMid n es st (sb.set t true) := by
  refine ⟨by rw [List.length_set]; exact h.len, fun k hk => ?_, fun j hj => ?_⟩
  · have hi := h.ini k hk
    rw [List.getElem?_set]
    split
    · split
      · rfl
      · rename_i h1 h2
        have := (List.getElem?_eq_some_iff.1 hi).1
        omega
    · exact hi
  · rw [List.getElem?_set] at hj
    split at hj
    · rename_i h1
      subst h1
      rw [← ht]
      refine .step he ?_
      have := h.snd _ hf
      rwa [Int.toNat_of_nonneg h0] at this
    · exact h.snd j hj
theorem gmid_done {x : Lt} {n : Nat} {st : List Int} {sb : List Bool} (h : GMid n (tauE x) st sb) (hc : clo0 x sb x.es.length) {j : Nat} {b : Bool} (hb : sb[j]? = some b) : b = clB (tauE x) st (j : Int) := by
  rcases b with _ | _
  · symm
    rw [Bool.eq_false_iff]
    intro hr
    have h2 := cl_closed (P := fun k => sb[k.toNat]? = some true) h.ini (fun e he hf => hc e (by rw [List.take_of_length_le (Nat.le_refl _)]; exact (mem_tauE.1 he).1) (mem_tauE.1 he).2 hf) (clB_iff.1 hr)
    have h3 : sb[(j : Int).toNat]? = some true := h2
    rw [Int.toNat_natCast, hb] at h3
    cases h3
  · exact (clB_iff.2 (h.snd j hb)).symm
theorem gmid_all {x : Lt} {st : List Int} {sb : List Bool} (h : GMid x.st.toNat (tauE x) st sb) (hc : clo0 x sb x.es.length) : selB sb x.st.toNat = cloL x st := by
  unfold selB cloL clL
  refine List.filter_congr fun k hk => ?_
  have h1 := mem_nums.1 hk
  have h2 : k.toNat < sb.length := by rw [h.len]; omega
  have h3 := gmid_done h hc (List.getElem?_eq_getElem h2)
  rw [List.getD_eq_getElem?_getD, List.getElem?_eq_getElem h2]
  show sb[k.toNat] = _
  rw [h3, Int.toNat_of_nonneg h1.1]
/-- Strictly increasing lists of states. -/
def riB (n : Int) (xs : List Int) : Bool := inc cmI xs && xs.all (fun k => idxI k n)
theorem riB_in {x : Lt} {xs : List Int} (h : riB x.st xs = true) : inSt x xs := by
  unfold riB at h
  rw [Bool.and_eq_true] at h
  exact fun k hk => idxI_iff.1 (List.all_eq_true.1 h.2 k hk)
theorem riB_yes {n : Int} {xs : List Int} (h1 : inc cmI xs = true) (h2 : xs.all (fun k => idxI k n) = true) : riB n xs = true := by unfold riB; rw [h1, h2]; rfl
theorem riB_inc {n : Int} {xs : List Int} (h1 : inc cmI xs = false) : riB n xs = false := by unfold riB; rw [h1]; rfl
theorem riB_all {n : Int} {xs : List Int} (h2 : xs.all (fun k => idxI k n) = false) : riB n xs = false := by unfold riB; rw [h2]; simp
theorem inc_up : ∀ {xs : List Int}, inc cmI xs = true → xs.Pairwise (· < ·)
  | [], _ => List.Pairwise.nil
  | [a], _ => List.pairwise_singleton _ _
  | a :: b :: r, h => by
    unfold inc at h
    rw [Bool.and_eq_true] at h
    have h1 := cmI_neg.1 (of_decide_eq_true h.1)
    have h2 := inc_up h.2
    rw [List.pairwise_cons]
    refine ⟨fun c hc => ?_, h2⟩
    rcases List.mem_cons.1 hc with rfl | hc
    · exact h1
    · have := (List.pairwise_cons.1 h2).1 c hc; omega
theorem riB_len {x : Lt} {xs : List Int} (hv : ltB x = true) (h : riB x.st xs = true) : xs.length ≤ 40 := by
  have h1 := riB_in h
  unfold riB at h
  rw [Bool.and_eq_true] at h
  have hst := (ltB_parts hv).1
  have h3 := up_len (lo := 0) (hi := x.st) (inc_up h.1) h1 (by omega)
  omega
/-- The answer of InternalClosure. -/
noncomputable def icC (x : Lt) (xs : List Int) : Int := if ltB x = true then (if riB x.st xs = true then 0 else 2) else 1
noncomputable def icR (x : Lt) (xs : List Int) : List Int := if icC x xs = 0 then cloL x xs else []
theorem icC_inv {x : Lt} {xs : List Int} (h : ltB x = false) : icC x xs = 1 := by unfold icC; rw [h]; rfl
theorem icC_rng {x : Lt} {xs : List Int} (h : ltB x = true) (h2 : riB x.st xs = false) : icC x xs = 2 := by unfold icC; rw [h, h2]; rfl
theorem icC_ok {x : Lt} {xs : List Int} (h : ltB x = true) (h2 : riB x.st xs = true) : icC x xs = 0 := by unfold icC; rw [h, h2]; rfl
theorem icC_parts {x : Lt} {xs : List Int} (h : icC x xs = 0) : ltB x = true ∧ riB x.st xs = true := by
  unfold icC at h
  split at h
  · split at h
    · exact ⟨by assumption, by assumption⟩
    · cases h
  · cases h
theorem icR_ok {x : Lt} {xs : List Int} (h : icC x xs = 0) : icR x xs = cloL x xs := if_pos h
theorem icR_no {x : Lt} {xs : List Int} (h : ¬ icC x xs = 0) : icR x xs = [] := if_neg h
theorem icR_len (x : Lt) (xs : List Int) : (icR x xs).length ≤ 40 := by
  unfold icR
  split
  · rename_i h; exact cloL_40 (icC_parts h).1 xs
  · exact Nat.zero_le _
theorem ok_icR (x : Lt) (xs : List Int) : okList okAny (icR x xs) := ⟨by have h := icR_len x xs; omega, fun _ _ => trivial⟩
theorem cnt_icR (x : Lt) (xs : List Int) : cntL intM (icR x xs) ≤ 100000000 := by
  have h1 := cnt_int (icR x xs)
  have h2 := wL_z (icR x xs)
  have h3 := icR_len x xs
  omega
end Go.Proofs.YtbailpfjgjcbdaaGreatDoor
