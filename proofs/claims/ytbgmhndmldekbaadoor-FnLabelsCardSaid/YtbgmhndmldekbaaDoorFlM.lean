/- Labels that are made, and lists compared both ways: plain mathematics. -/
import Derived.Test.YtbgmhndmldekbaaDoorCmpM
import Derived.Test.YtbgmhndmldekbaaDoorLvI
namespace Go.Proofs.YtbgmhndmldekbaaDoor
open Go.RowKit Go.Lib
theorem cmpL_swap : ∀ xs ys : List Int, cmpL ys xs = -(cmpL xs ys)
  | [], [] => rfl
  | [], _ :: _ => rfl
  | _ :: _, [] => rfl
  | x :: xs, y :: ys => by
    unfold cmpL
    by_cases h1 : x < y
    · rw [if_neg (by omega), if_pos h1, if_pos h1]; rfl
    · by_cases h2 : y < x
      · rw [if_pos h2, if_neg h1, if_pos h2]
      · rw [if_neg h2, if_neg h1, if_neg h1, if_neg h2]
        exact cmpL_swap xs ys
theorem cmpL_zero : ∀ {xs ys : List Int}, cmpL xs ys = 0 ↔ xs = ys
  | [], [] => by simp [cmpL]
  | [], _ :: _ => by simp [cmpL]
  | _ :: _, [] => by simp [cmpL]
  | x :: xs, y :: ys => by
    unfold cmpL
    by_cases h1 : x < y
    · rw [if_pos h1]
      constructor
      · intro h; omega
      · intro h; injection h with h3 _; omega
    · by_cases h2 : y < x
      · rw [if_neg h1, if_pos h2]
        constructor
        · intro h; omega
        · intro h; injection h with h3 _; omega
      · rw [if_neg h1, if_neg h2, cmpL_zero]
        have e : x = y := by omega
        subst e
        constructor
        · intro h; rw [h]
        · intro h; injection h
theorem cmpL_in : ∀ xs ys : List Int, cmpL xs ys = -1 ∨ cmpL xs ys = 0 ∨ cmpL xs ys = 1
  | [], [] => .inr (.inl rfl)
  | [], _ :: _ => .inl rfl
  | _ :: _, [] => .inr (.inr rfl)
  | x :: xs, y :: ys => by
    unfold cmpL
    by_cases h1 : x < y
    · rw [if_pos h1]; exact .inl rfl
    · by_cases h2 : y < x
      · rw [if_neg h1, if_pos h2]; exact .inr (.inr rfl)
      · rw [if_neg h1, if_neg h2]; exact cmpL_in xs ys
theorem lab_name {nm : List UInt8} {vs : List Int} (h : LabOk nm vs) : labName (make nm vs) = nm := by
  rw [labName_yes ⟨nm, h, rfl⟩]
  unfold make
  split
  · exact preL_plain (name_no40 h.1)
  · exact preL_open (name_no40 h.1) _
theorem lab_vals {nm : List UInt8} {vs : List Int} (h : LabOk nm vs) : lvR (make nm vs) = (vs, true) := lvR_yes ⟨nm, h, rfl⟩
/-- The names that are drawn. -/
def drawnN (l : List UInt8) : Prop := l = [97] ∨ l = [98] ∨ l = [115, 101, 110, 100] ∨ l = [103, 101, 116] ∨ l = [120, 55]
def goodL (l : List UInt8) : Bool := (List.range l.length).all fun i => smallI (l.getD i 0).toNat || (decide (i ≠ 0) && digitI (l.getD i 0).toNat)
theorem good_all {l : List UInt8} (h : goodL l = true) : ∀ i b, l[i]? = some b → goodB i b := fun i b hb => by
  obtain ⟨hi, e⟩ := List.getElem?_eq_some_iff.1 hb
  have h1 := List.all_eq_true.1 h i (List.mem_range.2 hi)
  rw [List.getD_eq_getElem?_getD, hb] at h1
  rw [Bool.or_eq_true, Bool.and_eq_true, decide_eq_true_iff] at h1
  exact h1
theorem drawn_name {l : List UInt8} (h : drawnN l) : nameP l ∧ l ≠ tauB := by
  rcases h with rfl | rfl | rfl | rfl | rfl
  · exact ⟨⟨by decide, by decide, good_all (by decide)⟩, by decide⟩
  · exact ⟨⟨by decide, by decide, good_all (by decide)⟩, by decide⟩
  · exact ⟨⟨by decide, by decide, good_all (by decide)⟩, by decide⟩
  · exact ⟨⟨by decide, by decide, good_all (by decide)⟩, by decide⟩
  · exact ⟨⟨by decide, by decide, good_all (by decide)⟩, by decide⟩
theorem drawn_ok {l : List UInt8} {vs : List Int} (h : drawnN l) (hl : vs.length ≤ 2) (hv : vs.all inMod = true) : LabOk l vs :=
  ⟨(drawn_name h).1, hl, fun e => absurd e (drawn_name h).2, hv⟩
theorem itoa_len {v : Int} (h : 0 ≤ v ∧ v ≤ 63) : (Lib.itoa v).length ≤ 18 := by
  obtain ⟨u, rfl⟩ := Int.eq_ofNat_of_zero_le h.1
  rw [itoa_nat]
  exact dec_short (by omega)
theorem decs_lenF {vs : List Int} (hl : vs.length ≤ 2) (hv : vs.all inMod = true) : (decs vs).length ≤ 100 := by
  have hb : ∀ v ∈ vs, 0 ≤ v ∧ v ≤ 63 := fun v h => by
    have := List.all_eq_true.1 hv v h
    exact of_decide_eq_true this
  match vs, hl, hb with
  | [], _, _ => simp [decs, Lib.join]
  | [a], _, hb =>
    have h1 := itoa_len (hb a (by simp))
    simp [decs, Lib.join]
    omega
  | [a, b], _, hb =>
    have h1 := itoa_len (hb a (by simp))
    have h2 := itoa_len (hb b (by simp))
    simp [decs, Lib.join]
    omega
theorem make_len {nm : List UInt8} {vs : List Int} (h : LabOk nm vs) : (make nm vs).length ≤ 1000 := by
  have h1 : nm.length ≤ 10 := h.1.2.1
  have h2 := decs_lenF h.2.1 h.2.2.2
  unfold make
  split
  · omega
  · rw [List.length_append, List.length_cons, List.length_append, List.length_cons, List.length_nil]
    omega
end Go.Proofs.YtbgmhndmldekbaaDoor
