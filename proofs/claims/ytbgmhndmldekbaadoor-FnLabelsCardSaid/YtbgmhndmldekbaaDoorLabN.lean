/- A label's text grows by one value; when there is none. -/
import Derived.Test.YtbgmhndmldekbaaDoorMath
import Derived.Test.YtbgmhndmldekbaaDoorName
namespace Go.Proofs.YtbgmhndmldekbaaDoor
open Go.Lib
/-- The bytes behind k values, ahead of the last parenthesis. -/
def partL (nm : List UInt8) (vs : List Int) (k : Nat) : List UInt8 := if k = 0 then nm else nm ++ 40 :: decs (vs.take k)
theorem part_zero (nm : List UInt8) (vs : List Int) : partL nm vs 0 = nm := rfl
theorem itoa_small {v : Int} (h : inMod v = true) : ∃ u : Nat, v = (u : Int) ∧ u < 64 ∧ itoa v = decDigits u := by
  simp only [inMod, decide_eq_true_eq] at h
  obtain ⟨u, rfl⟩ := Int.eq_ofNat_of_zero_le h.1
  exact ⟨u, rfl, by omega, itoa_nat u⟩
theorem part_first {nm : List UInt8} {vs : List Int} {u : Nat} (h : vs[0]? = some (u : Int)) : nm ++ [40] ++ decDigits u = partL nm vs 1 := by
  unfold partL
  rw [if_neg (by decide), decs_first vs _ h, itoa_nat]
  simp
theorem part_next {nm : List UInt8} {vs : List Int} {u k : Nat} (hk : k ≠ 0) (h : vs[k]? = some (u : Int)) : partL nm vs k ++ [44] ++ decDigits u = partL nm vs (k + 1) := by
  unfold partL
  rw [if_neg hk, if_neg (by omega), decs_next vs k _ hk h, itoa_nat]
  simp
theorem part_all {nm : List UInt8} {vs : List Int} (h : vs ≠ []) : partL nm vs vs.length ++ [41] = make nm vs := by
  unfold partL make
  rw [if_neg (by rwa [List.length_eq_zero_iff]), if_neg h, List.take_length]
  simp
theorem part_none (nm : List UInt8) : partL nm [] 0 = make nm [] := by simp [partL, make]
theorem part_len {nm : List UInt8} {vs : List Int} (hn : nm.length ≤ 10) (h2 : vs.length ≤ 2) (hv : vs.all inMod = true) (k : Nat) : (partL nm vs k).length ≤ 60 ∧ nm.length ≤ (partL nm vs k).length := by
  have hb := inMod_bounds hv
  have h1 := decs_short (vs.take k) (fun v hm => by have := hb v (List.mem_of_mem_take hm); omega)
  rw [List.length_take] at h1
  unfold partL
  split
  · omega
  · rw [List.length_append, List.length_cons]; omega
theorem ok_name {nm : List UInt8} {vs : List Int} (h : nameB nm = false) : ¬ LabOk nm vs := fun hk => by rw [nameB_yes hk.1] at h; cases h
theorem ok_long {nm : List UInt8} {vs : List Int} (h : 2 < vs.length) : ¬ LabOk nm vs := fun hk => by have := hk.2.1; omega
theorem ok_tau {nm : List UInt8} {vs : List Int} (h : nm = tauB) (hv : vs ≠ []) : ¬ LabOk nm vs := fun hk => hv (hk.2.2.1 h)
theorem ok_val {nm : List UInt8} {vs : List Int} (h : vs.all inMod = false) : ¬ LabOk nm vs := fun hk => by rw [hk.2.2.2] at h; cases h
theorem ok_bad {vs : List Int} {k : Nat} {v : Int} (hk : vs[k]? = some v) (h : inMod v = false) : vs.all inMod = false := by
  rw [Bool.eq_false_iff]
  intro ha
  have := List.all_eq_true.1 ha v (List.mem_of_getElem? hk)
  rw [h] at this; cases this
theorem tau_iff {s : ByteArray} : (s.toList == [116, 97, 117]) = true ↔ s.data.toList = tauB := by
  rw [ByteArray.toList_eq]
  exact beq_iff_eq
theorem tau_no {s : ByteArray} (h : (s.toList == [116, 97, 117]) = false) : s.data.toList ≠ tauB := fun e => by rw [tau_iff.2 e] at h; cases h
theorem tau_name : nameB tauB = true := by
  refine nameB_yes ⟨by decide, by decide, fun i b h => ?_⟩
  unfold goodB
  match i with
  | 0 => injection h with h; subst h; left; rfl
  | 1 => injection h with h; subst h; left; rfl
  | 2 => injection h with h; subst h; left; rfl
  | n + 3 => simp [tauB] at h
theorem lab_str {nm : List UInt8} {vs : List Int} {l : List UInt8} (h : LabOk nm vs) (e : l = make nm vs) : (⟨(labText nm vs).toArray⟩ : ByteArray) = ⟨l.toArray⟩ := by rw [labText_yes h, e]
theorem lab_none {nm : List UInt8} {vs : List Int} (h : ¬ LabOk nm vs) : (⟨(labText nm vs).toArray⟩ : ByteArray) = ⟨#[]⟩ := by rw [labText_no h]
theorem name_le {l : List UInt8} (h : nameB l = true) : 1 ≤ l.length ∧ l.length ≤ 10 := ⟨(nameB_iff.1 h).1, (nameB_iff.1 h).2.1⟩
end Go.Proofs.YtbgmhndmldekbaaDoor
