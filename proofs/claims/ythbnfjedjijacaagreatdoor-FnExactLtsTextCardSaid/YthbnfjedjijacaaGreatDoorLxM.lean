/- The text of a transition system, as lists of bytes. -/
import Derived.Test.YthbnfjedjijacaaGreatDoorLtA
import Derived.Test.YthbnfjedjijacaaGreatDoorMath
namespace Go.Proofs.YthbnfjedjijacaaGreatDoor
open Go.RowKit Go.Lib
def byl (u : ByteArray) : List UInt8 := u.data.toList
theorem byl_back (u : ByteArray) : (⟨(byl u).toArray⟩ : ByteArray) = u := by unfold byl; cases u; simp
def partT (ps : List (List UInt8)) : List UInt8 := if ps = [] then [45] else join ps [32]
def edN (e : Ed) : List Int := [e.f, e.l, e.t]
def edgeT (e : Ed) : List UInt8 := join ((edN e).map itoa) [58]
def headT (x : Lt) : List UInt8 := join ([x.st, x.ini].map itoa) [32]
def labT (x : Lt) : List (List UInt8) := (x.ls.drop 1).map byl
def ltxP (x : Lt) : List (List UInt8) := [headT x, partT (labT x), partT (x.es.map edgeT)]
noncomputable def ltx (x : Lt) : ByteArray := if ltB x = true then ⟨(join (ltxP x) [124]).toArray⟩ else ⟨#[]⟩
theorem ltx_yes {x : Lt} (h : ltB x = true) : ltx x = ⟨(join (ltxP x) [124]).toArray⟩ := by unfold ltx; rw [if_pos h]
theorem ltx_no {x : Lt} (h : ltB x = false) : ltx x = ⟨#[]⟩ := by unfold ltx; rw [if_neg (by rw [h]; exact Bool.false_ne_true)]
theorem join_le (sep : List UInt8) (M : Nat) : ∀ ps : List (List UInt8), (∀ p ∈ ps, p.length ≤ M) → (join ps sep).length ≤ ps.length * (M + sep.length)
  | [], _ => by simp [join]
  | [p], h => by
    rw [join_one]
    have := h p (by simp)
    rw [List.length_singleton, Nat.one_mul]
    omega
  | p :: q :: r, h => by
    have ih := join_le sep M (q :: r) (fun u hu => h u (by simp [hu]))
    have h1 := h p (by simp)
    rw [join_two, List.length_append, List.length_append, List.length_cons (a := p), Nat.succ_mul]
    omega
theorem app_ba (a b : List UInt8) : (⟨(a ++ b).toArray⟩ : ByteArray) = ⟨a.toArray⟩ ++ ⟨b.toArray⟩ := by
  apply ByteArray.ext
  apply Array.ext'
  simp [ByteArray.data_append]
/-- What has been written after k elements. -/
def acc (pre : List UInt8) (ps : List (List UInt8)) (k : Nat) : ByteArray := ⟨(pre ++ join (ps.take k) [32]).toArray⟩
theorem acc_zero (pre : List UInt8) (ps : List (List UInt8)) : acc pre ps 0 = ⟨pre.toArray⟩ := by unfold acc; rw [List.take_zero]; simp [join]
theorem acc_first {pre p : List UInt8} {ps : List (List UInt8)} (h : ps[0]? = some p) : acc pre ps 1 = acc pre ps 0 ++ ⟨p.toArray⟩ := by
  rw [acc_zero]
  unfold acc
  have e : ps.take 1 = [p] := by
    cases ps with
    | nil => cases h
    | cons a r => injection h with h; subst h; rfl
  rw [e, join_one, app_ba]
theorem acc_next {pre p : List UInt8} {ps : List (List UInt8)} {k : Nat} (hk : k ≠ 0) (h : ps[k]? = some p) : acc pre ps (k + 1) = acc pre ps k ++ ⟨#[32]⟩ ++ ⟨p.toArray⟩ := by
  obtain ⟨hlt, _⟩ := List.getElem?_eq_some_iff.1 h
  have e : ps.take (k + 1) = ps.take k ++ [p] := by rw [List.take_add_one, h]; rfl
  unfold acc
  rw [e, join_snoc _ _ _ (fun e2 => by have := congrArg List.length e2; rw [List.length_take, List.length_nil] at this; omega), ← List.append_assoc, ← List.append_assoc, app_ba, app_ba]
theorem acc_none {pre : List UInt8} {ps : List (List UInt8)} (h : ps = []) : acc pre ps 0 ++ ⟨#[45]⟩ = ⟨(pre ++ partT ps).toArray⟩ := by
  rw [acc_zero]; unfold partT; rw [if_pos h, app_ba]
theorem acc_all {pre : List UInt8} {ps : List (List UInt8)} {k : Nat} (h : ps ≠ []) (hk : k = ps.length) : acc pre ps k = ⟨(pre ++ partT ps).toArray⟩ := by
  unfold acc partT; rw [if_neg h, List.take_of_length_le (by omega)]
theorem acc_size {pre : List UInt8} {ps : List (List UInt8)} {M k : Nat} (h : ∀ p ∈ ps, p.length ≤ M) : (acc pre ps k).size ≤ pre.length + ps.length * (M + 1) := by
  have h1 := join_le [32] M (ps.take k) (fun p hp => h p (List.mem_of_mem_take hp))
  have h2 : (ps.take k).length * (M + 1) ≤ ps.length * (M + 1) := Nat.mul_le_mul_right _ (by rw [List.length_take]; omega)
  have e : (acc pre ps k).size = pre.length + (join (ps.take k) [32]).length := by unfold acc; simp [ByteArray.size]
  rw [List.length_singleton] at h1
  omega
theorem edgeT_ba (e : Ed) : (⟨(itoa e.f).toArray⟩ : ByteArray) ++ ⟨#[58]⟩ ++ ⟨(itoa e.l).toArray⟩ ++ ⟨#[58]⟩ ++ ⟨(itoa e.t).toArray⟩ = ⟨(edgeT e).toArray⟩ := by
  unfold edgeT edN
  simp only [List.map_cons, List.map_nil]
  rw [join_two, join_two, join_one, ← List.append_assoc, ← List.append_assoc, ← List.append_assoc, app_ba, app_ba, app_ba, app_ba]
theorem headT_ba (x : Lt) : (⟨(itoa x.st).toArray⟩ : ByteArray) ++ ⟨#[32]⟩ ++ ⟨(itoa x.ini).toArray⟩ = ⟨(headT x).toArray⟩ := by
  unfold headT
  simp only [List.map_cons, List.map_nil]
  rw [join_two, join_one, ← List.append_assoc, app_ba, app_ba]
theorem ltx_ba (a b c : List UInt8) : join [a, b, c] [124] = a ++ [124] ++ b ++ [124] ++ c := by
  rw [join_two, join_two, join_one]; simp
theorem edN_len (e : Ed) : (edN e).length = 3 := rfl
theorem edgeT_ne (e : Ed) : edgeT e ≠ [] := by
  unfold edgeT edN
  simp only [List.map_cons, List.map_nil]
  rw [join_two]
  intro h
  have := itoa_ne e.f
  simp at h
theorem labB_ne {u : ByteArray} (h : labB u = true) : byl u ≠ [] := by
  intro e
  have e : u.data.toList = [] := e
  unfold labB at h
  rw [e, lvR_no] at h
  · cases h
  · rintro vs ⟨nm, ok, hl⟩; exact make_ne ok.1 hl
theorem join_ne {ps : List (List UInt8)} (h : ps ≠ []) (hn : ∀ p ∈ ps, p ≠ []) : join ps [32] ≠ [] := by
  match ps, h with
  | [p], _ => rw [join_one]; exact hn p (by simp)
  | p :: q :: r, _ =>
    rw [join_two]
    intro e
    have := hn p (by simp)
    simp at e
end Go.Proofs.YthbnfjedjijacaaGreatDoor
