/- Plain words for moving the variables of an expression. -/
import Derived.WalkKit
import Derived.Lib.Hide
import Derived.Test.YtkcbmblpalmmhaaMem
import Derived.Test.YtkcbmblpalmmhaaTmM
namespace Go.Proofs.Ytkcbmblpalmmhaa
open Go.RowKit
section
variable {f : Tm → Tm} {es : List Tm}
/-- Up to place k each term is turned, from there on it is as it was. -/
def midF (f : Tm → Tm) (es : List Tm) (k : Nat) : List Tm := (es.take k).map f ++ es.drop k
theorem midF_zero (f : Tm → Tm) (es : List Tm) : midF f es 0 = es := by simp [midF]
theorem midF_all {k : Nat} (h : es.length ≤ k) : midF f es k = es.map f := by
  unfold midF; rw [List.take_of_length_le h, List.drop_eq_nil_of_le h, List.append_nil]
theorem midF_len {k : Nat} (h : k ≤ es.length) : (midF f es k).length = es.length := by
  unfold midF; rw [List.length_append, List.length_map, List.length_take, List.length_drop]; omega
theorem midF_at {k : Nat} {t : Tm} (h : es[k]? = some t) : (midF f es k)[k]? = some t := by
  have hk := (List.getElem?_eq_some_iff.1 h).1
  have hl : ((es.take k).map f).length = k := by rw [List.length_map, List.length_take]; omega
  unfold midF
  rw [List.getElem?_append_right (by omega), hl, Nat.sub_self, List.getElem?_drop]
  simpa using h
theorem midF_succ {k : Nat} {t : Tm} (h : es[k]? = some t) : (midF f es k).set k (f t) = midF f es (k + 1) := by
  have hk := (List.getElem?_eq_some_iff.1 h).1
  have hl : ((es.take k).map f).length = k := by rw [List.length_map, List.length_take]; omega
  unfold midF
  rw [drop_one _ _ _ h, List.set_append_right _ _ (by omega), hl, Nat.sub_self, List.set_cons_zero, take_one _ _ _ h, List.map_append, List.append_assoc]
  rfl
theorem set_same {l : List Tm} {k : Nat} {t : Tm} (h : l[k]? = some t) : l.set k t = l := by
  obtain ⟨hk, rfl⟩ := List.getElem?_eq_some_iff.1 h
  simp
theorem midF_same {k : Nat} {t : Tm} (h : es[k]? = some t) (e : f t = t) : midF f es k = midF f es (k + 1) := by
  rw [← midF_succ h, e]
  exact (set_same (midF_at h)).symm
end
/-- One store turns the value of one term. -/
theorem tvs_setv {es : List Tm} {t : Tm} {k : Nat} {u : Int} (h : es[k]? = some t) : (tvs es).set (k * 2 + 1) (.int .i64 u) = tvs (es.set k ⟨t.k, u⟩) := by
  induction es generalizing k with
  | nil => simp at h
  | cons a r ih =>
    cases k with
    | zero => simp at h; subst h; rfl
    | succ k =>
      have := ih (k := k) (by simpa using h)
      rw [show (k + 1) * 2 + 1 = k * 2 + 1 + 1 + 1 by omega, tvs_cons, List.set_cons_succ, List.set_cons_succ, this, List.set_cons_succ, tvs_cons]
def shT (from_ by_ : Int) (t : Tm) : Tm := if t.k = 1 ∧ from_ ≤ t.v then ⟨t.k, t.v + by_⟩ else t
theorem shT_yes {p q : Int} {t : Tm} (h1 : t.k = 1) (h2 : p ≤ t.v) : shT p q t = ⟨t.k, t.v + q⟩ := by unfold shT; rw [if_pos ⟨h1, h2⟩]
theorem shT_kind {p q : Int} {t : Tm} (h : t.k ≠ 1) : shT p q t = t := by unfold shT; rw [if_neg (fun e => h e.1)]
theorem shT_low {p q : Int} {t : Tm} (h : ¬ p ≤ t.v) : shT p q t = t := by unfold shT; rw [if_neg (fun e => h e.2)]
theorem shT_ar (p q : Int) (t : Tm) : ar (shT p q t) = ar t := by
  unfold shT; split
  · rfl
  · rfl
theorem scan_map {v v' : Int} {f : Tm → Tm} (hf : ∀ t, ar (f t) = ar t) : ∀ {es : List Tm} {n : Int}, scan v es n = true → (∀ t ∈ es, tmB v' (f t) = true) → scan v' (es.map f) n = true := by
  intro es
  induction es with
  | nil => intro n h _; exact h
  | cons t r ih =>
    intro n h ha
    unfold scan at h
    split at h
    · cases h
    · rename_i hn
      have hn' : ¬ (n = 0 ∨ tmB v' (f t) = false) := by
        rintro (h0 | h0)
        · exact hn (.inl h0)
        · have := ha t (by simp)
          rw [this] at h0; cases h0
      rw [List.map_cons]
      unfold scan
      rw [if_neg hn', hf]
      exact ih h (fun x hx => ha x (by simp [hx]))
/-- The result of moving variables, and its code. -/
def shiftR (es : List Tm) (p q : Int) : List Tm × Int :=
  if exB 29 60 es = false then ([], 1) else if ¬ ((0 ≤ p ∧ p ≤ 29) ∧ (-29 ≤ q ∧ q ≤ 29)) then ([], 2) else if exB 29 60 (es.map (shT p q)) = false then ([], 2) else (es.map (shT p q), 0)
theorem shiftR_bad {es : List Tm} {p q : Int} (h : exB 29 60 es = false) : shiftR es p q = ([], 1) := by unfold shiftR; rw [if_pos h]
theorem shiftR_far {es : List Tm} {p q : Int} (h : exB 29 60 es = true) (h2 : ¬ ((0 ≤ p ∧ p ≤ 29) ∧ (-29 ≤ q ∧ q ≤ 29))) : shiftR es p q = ([], 2) := by unfold shiftR; rw [if_neg (by rw [h]; simp), if_pos h2]
theorem shiftR_out {es : List Tm} {p q : Int} (h : exB 29 60 es = true) (h2 : (0 ≤ p ∧ p ≤ 29) ∧ (-29 ≤ q ∧ q ≤ 29)) (h3 : exB 29 60 (es.map (shT p q)) = false) : shiftR es p q = ([], 2) := by
  unfold shiftR; rw [if_neg (by rw [h]; simp), if_neg (fun e => e h2), if_pos h3]
theorem shiftR_yes {es : List Tm} {p q : Int} (h : exB 29 60 es = true) (h2 : (0 ≤ p ∧ p ≤ 29) ∧ (-29 ≤ q ∧ q ≤ 29)) (h3 : exB 29 60 (es.map (shT p q)) = true) : shiftR es p q = (es.map (shT p q), 0) := by
  unfold shiftR; rw [if_neg (by rw [h]; simp), if_neg (fun e => e h2), if_neg (by rw [h3]; simp)]
theorem exB_scan {v m : Int} {es : List Tm} (h : exB v m es = true) : scan v es 1 = true ∧ (es.length : Int) ≤ m := by
  unfold exB at h
  rw [Bool.and_eq_true, decide_eq_true_iff] at h
  exact ⟨h.2, h.1⟩
theorem exB_mk {v m : Int} {es : List Tm} (h1 : scan v es 1 = true) (h2 : (es.length : Int) ≤ m) : exB v m es = true := by
  unfold exB; rw [h1, decide_eq_true h2]; rfl
/-- The terms of an expression have small numbers. -/
theorem exB_small {v m : Int} {es : List Tm} (h : exB v m es = true) (hv : v ≤ 64) : ∀ t ∈ es, 0 ≤ t.v ∧ t.v ≤ 63 ∧ 0 ≤ t.k ∧ t.k ≤ 3 := by
  intro t ht
  have hb := scan_all (exB_scan h).1 t ht
  unfold tmB at hb
  repeat (first | (cases hb; done) | (have := of_decide_eq_true hb; omega) | split at hb)
theorem exB_all {p q : Int} {es : List Tm} (h : exB 29 60 es = true) (ha : ∀ t ∈ es, tmB 29 (shT p q t) = true) : exB 29 60 (es.map (shT p q)) = true :=
  exB_mk (scan_map (shT_ar p q) (exB_scan h).1 ha) (by rw [List.length_map]; exact (exB_scan h).2)
theorem exB_some {p q : Int} {es : List Tm} {k : Nat} {t : Tm} (hx : es[k]? = some t) (ht : tmB 29 (shT p q t) = false) : exB 29 60 (es.map (shT p q)) = false := by
  rcases e : exB 29 60 (es.map (shT p q)) with _ | _
  · rfl
  · have := scan_all (exB_scan e).1 (shT p q t) (List.mem_map_of_mem (List.mem_of_getElem? hx))
    rw [ht] at this; cases this
end Go.Proofs.Ytkcbmblpalmmhaa
