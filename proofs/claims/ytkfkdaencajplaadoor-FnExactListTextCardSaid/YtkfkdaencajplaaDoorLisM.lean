/- The text of a list of numbers grows by one number. -/
import Derived.Test.YtkfkdaencajplaaDoorLabM
import Derived.Lib.ItoaLen
namespace Go.Proofs.YtkfkdaencajplaaDoor
open Go.Lib
theorem join_snoc (sep : List UInt8) : ∀ (ps : List (List UInt8)) (p : List UInt8), ps ≠ [] → join (ps ++ [p]) sep = join ps sep ++ (sep ++ p)
  | [], _, h => absurd rfl h
  | [q], p, _ => by
    show join (q :: p :: []) sep = _
    rw [join_two, join_one, join_one]
  | q :: r :: ps, p, _ => by
    show join (q :: r :: (ps ++ [p])) sep = _
    rw [join_two, join_two]
    have := join_snoc sep (r :: ps) p (by simp)
    rw [List.cons_append] at this
    rw [this]
    simp
theorem decs_one (v : Int) : decs [v] = itoa v := by unfold decs; exact join_one _ _
theorem decs_snoc {vs : List Int} (h : vs ≠ []) (v : Int) : decs (vs ++ [v]) = decs vs ++ [44] ++ itoa v := by
  unfold decs
  rw [List.map_append]
  show join (vs.map itoa ++ [itoa v]) [44] = _
  rw [join_snoc _ _ _ (by simpa using h)]
  simp
theorem decs_first (vs : List Int) (v : Int) (h : vs[0]? = some v) : decs (vs.take 1) = itoa v := by
  rw [show vs.take 1 = [v] by cases vs with
    | nil => cases h
    | cons a r => injection h with h; subst h; rfl]
  exact decs_one v
theorem decs_next (vs : List Int) (k : Nat) (v : Int) (hk : k ≠ 0) (h : vs[k]? = some v) : decs (vs.take (k + 1)) = decs (vs.take k) ++ [44] ++ itoa v := by
  have e : vs.take (k + 1) = vs.take k ++ [v] := by rw [List.take_add_one, h]; rfl
  rw [e]
  refine decs_snoc ?_ v
  intro e2
  have := congrArg List.length e2
  obtain ⟨hlt, _⟩ := List.getElem?_eq_some_iff.1 h
  rw [List.length_take, List.length_nil] at this
  omega
def inMax (v : Int) : Bool := decide (-1000000000000 ≤ v ∧ v ≤ 1000000000000)
/-- The text of a list of numbers. -/
def listT (vs : List Int) : List UInt8 := if vs = [] then [45] else decs vs
def fitsL (vs : List Int) : Bool := decide (vs.length ≤ 64) && vs.all inMax
def listText (vs : List Int) : List UInt8 := if fitsL vs = true then listT vs else []
open Classical in
/-- What is read of the text of a list. -/
noncomputable def readL (l : List UInt8) : Option (List Int) :=
  if l = [45] then some [] else if h : ∃ vs, Read inMax (pcs 44 l) vs ∧ vs.length ≤ 64 then some h.choose else none
theorem readL_dash : readL [45] = some [] := by unfold readL; rw [if_pos rfl]
theorem readL_yes {l : List UInt8} {vs : List Int} (hl : l ≠ [45]) (h : Read inMax (pcs 44 l) vs) (hn : vs.length ≤ 64) : readL l = some vs := by
  unfold readL
  have hex : ∃ vs, Read inMax (pcs 44 l) vs ∧ vs.length ≤ 64 := ⟨vs, h, hn⟩
  rw [if_neg hl, dif_pos hex, hex.choose_spec.1.inj h]
theorem readL_no {l : List UInt8} (hl : l ≠ [45]) (h : ∀ vs, Read inMax (pcs 44 l) vs → ¬ vs.length ≤ 64) : readL l = none := by
  unfold readL
  rw [if_neg hl, dif_neg (fun ⟨vs, h1, h2⟩ => h vs h1 h2)]
theorem dec_ge (n : Int) : 1 ≤ (itoa n).length := List.length_pos_iff.2 (itoa_ne n)
theorem decs_len (vs : List Int) : vs.length ≤ (decs vs).length := by
  unfold decs
  have : ∀ (ps : List (List UInt8)), (∀ p ∈ ps, 1 ≤ p.length) → ps.length ≤ (join ps [44]).length := by
    intro ps
    induction ps with
    | nil => intro _; simp
    | cons p ps ih =>
      intro hp
      cases ps with
      | nil => rw [join_one]; simpa using hp p (by simp)
      | cons q qs =>
        rw [join_two, List.length_append, List.length_append]
        have h1 := ih (fun x hx => hp x (by simp [hx]))
        have h2 := hp p (by simp)
        simp only [List.length_cons, List.length_nil] at *
        omega
  have := this (vs.map itoa) (fun p hp => by obtain ⟨v, _, rfl⟩ := List.mem_map.1 hp; exact dec_ge v)
  simpa using this
theorem itoa_le {n : Int} (h : -9223372036854775808 ≤ n) (h1 : n ≤ 9223372036854775807) : (itoa n).length ≤ 21 := itoa_length_le n h h1
/-- The texts of at most 64 numbers are short. -/
theorem decs_short : ∀ (vs : List Int), (∀ v ∈ vs, -9223372036854775808 ≤ v ∧ v ≤ 9223372036854775807) → (decs vs).length ≤ 22 * vs.length
  | [], _ => by simp [decs, join]
  | [v], h => by rw [decs_one]; have := itoa_le (h v (by simp)).1 (h v (by simp)).2; simp; omega
  | v :: u :: r, h => by
    have ih := decs_short (u :: r) (fun x hx => h x (by simp [hx]))
    have h1 := itoa_le (h v (by simp)).1 (h v (by simp)).2
    have e : decs (v :: u :: r) = itoa v ++ ([44] ++ decs (u :: r)) := by unfold decs; simp only [List.map_cons]; exact join_two _ _ _ _
    rw [e, List.length_append, List.length_append]
    simp only [List.length_cons, List.length_nil] at *
    omega
end Go.Proofs.YtkfkdaencajplaaDoor
