/- The pieces of a text between bytes: the model's, the library's; what joining them gives. -/
import Derived.Lib.SplitLaws
import Derived.Lib.Join
namespace Go.Proofs.Ytjnmndjhlllfkaa
open Go.Lib
def pcs (b : UInt8) : List UInt8 → List (List UInt8)
  | [] => [[]]
  | c :: r => if c = b then [] :: pcs b r else
    match pcs b r with
    | [] => [[c]]
    | p :: ps => (c :: p) :: ps
theorem pcs_ne (b : UInt8) : ∀ l, pcs b l ≠ []
  | [] => by simp [pcs]
  | c :: r => by
    simp only [pcs]
    split
    · simp
    · split <;> simp
theorem pcs_none (b : UInt8) : ∀ p : List UInt8, b ∉ p → pcs b p = [p]
  | [], _ => rfl
  | c :: r, h => by
    have h1 : c ≠ b := fun e => h (by simp [e])
    have h2 : b ∉ r := fun e => h (by simp [e])
    simp only [pcs, if_neg h1, pcs_none b r h2]
theorem pcs_hit (b : UInt8) (r : List UInt8) : ∀ p : List UInt8, b ∉ p → pcs b (p ++ b :: r) = p :: pcs b r
  | [], _ => by simp [pcs]
  | c :: q, h => by
    have h1 : c ≠ b := fun e => h (by simp [e])
    have h2 : b ∉ q := fun e => h (by simp [e])
    simp only [List.cons_append, pcs, if_neg h1, pcs_hit b r q h2]
theorem pcs_count (b : UInt8) : ∀ l : List UInt8, (pcs b l).length = l.count b + 1
  | [] => rfl
  | c :: r => by
    have ih := pcs_count b r
    simp only [pcs]
    by_cases h : c = b
    · subst h; simp [ih]
    · rw [if_neg h, List.count_cons_of_ne h, ← ih]
      cases hp : pcs b r with
      | nil => exact absurd hp (pcs_ne b r)
      | cons p ps => simp
theorem pcs_no (b : UInt8) : ∀ (l : List UInt8), ∀ p ∈ pcs b l, b ∉ p
  | [], p, h => by simp [pcs] at h; simp [h]
  | c :: r, p, h => by
    simp only [pcs] at h
    by_cases hc : c = b
    · rw [if_pos hc] at h
      rcases List.mem_cons.1 h with h | h
      · simp [h]
      · exact pcs_no b r p h
    · rw [if_neg hc] at h
      cases hp : pcs b r with
      | nil => exact absurd hp (pcs_ne b r)
      | cons q qs =>
        rw [hp] at h
        rcases List.mem_cons.1 h with h | h
        · subst h
          have := pcs_no b r q (by rw [hp]; simp)
          simp [this, Ne.symm hc]
        · exact pcs_no b r p (by rw [hp]; simp [h])
theorem join_two (p q : List UInt8) (ps : List (List UInt8)) (sep : List UInt8) : join (p :: q :: ps) sep = p ++ (sep ++ join (q :: ps) sep) := by
  rw [join_cons, join_cons]; simp [joinTail]
theorem join_pcs (b : UInt8) : ∀ l : List UInt8, join (pcs b l) [b] = l
  | [] => by simp [pcs, join_one]
  | c :: r => by
    have ih := join_pcs b r
    cases hp : pcs b r with
    | nil => exact absurd hp (pcs_ne b r)
    | cons q qs =>
      rw [hp] at ih
      by_cases hc : c = b
      · simp only [pcs, if_pos hc, hp]
        rw [join_two, ih, hc]; simp
      · simp only [pcs, if_neg hc, hp]
        rw [join_cons] at ih ⊢
        rw [List.cons_append, ih]
theorem pcs_join (b : UInt8) : ∀ ps : List (List UInt8), ps ≠ [] → (∀ p ∈ ps, b ∉ p) → pcs b (join ps [b]) = ps
  | [], h, _ => absurd rfl h
  | [p], _, h => by rw [join_one]; exact pcs_none b p (h p (by simp))
  | p :: q :: ps, _, h => by
    rw [join_two, List.singleton_append, pcs_hit b _ p (h p (by simp)), pcs_join b (q :: ps) (by simp) (fun x hx => h x (by simp [hx]))]
theorem pcs_split : ∀ (n : Nat) (b : UInt8) (l : List UInt8), l.length ≤ n → b ∈ l → ∃ p r, l = p ++ b :: r ∧ b ∉ p
  | 0, b, l, hn, h => by cases l with
    | nil => cases h
    | cons c r => simp at hn
  | n + 1, b, l, hn, h => by
    cases l with
    | nil => cases h
    | cons c r =>
      by_cases hc : c = b
      · exact ⟨[], r, by simp [hc], by simp⟩
      · obtain ⟨p, s, h1, h2⟩ := pcs_split n b r (by simpa using hn) (by rcases List.mem_cons.1 h with h | h; exact absurd h.symm hc; exact h)
        exact ⟨c :: p, s, by simp [h1], by simp [h2, Ne.symm hc]⟩
theorem index_none (b : UInt8) : ∀ l : List UInt8, b ∉ l → index l [b] = -1
  | [], _ => rfl
  | c :: r, h => by
    have h1 : b ≠ c := fun e => h (by simp [e])
    have h2 : b ∉ r := fun e => h (by simp [e])
    simp only [index, List.isPrefixOf, index_none b r h2]
    simp [h1]
theorem index_hit (b : UInt8) (r : List UInt8) : ∀ p : List UInt8, b ∉ p → index (p ++ b :: r) [b] = (p.length : Int)
  | [], _ => by simp [index, List.isPrefixOf]
  | c :: q, h => by
    have h1 : b ≠ c := fun e => h (by simp [e])
    have h2 : b ∉ q := fun e => h (by simp [e])
    simp only [List.cons_append, index, List.isPrefixOf, index_hit b r q h2]
    have h3 : ¬ ((q.length : Int) = -1) := by omega
    simp [h1, h3]
theorem splitK_pcs (b : UInt8) : ∀ (k : Nat) (l : List UInt8), l.count b = k → splitK [b] 0 k l = pcs b l
  | 0, l, h => by
    have : b ∉ l := fun e => by have := List.count_pos_iff.2 e; omega
    rw [pcs_none b l this]; rfl
  | k + 1, l, h => by
    have : b ∈ l := List.count_pos_iff.1 (by omega)
    obtain ⟨p, r, rfl, hp⟩ := pcs_split _ b l (Nat.le_refl _) this
    have hc : r.count b = k := by
      rw [List.count_append, List.count_eq_zero.2 hp, List.count_cons_self] at h
      omega
    unfold splitK
    rw [index_hit b r p hp, pcs_hit b r p hp]
    have h3 : ¬ ((p.length : Int) = -1) := by omega
    have h4 : (((p.length : Int) == -1) = true) = False := by simp [h3]
    rw [if_neg (by rw [h4]; exact id)]
    simp only [Int.toNat_natCast, Nat.add_zero, List.take_left', List.length_singleton]
    rw [show List.drop (p.length + 1) (p ++ b :: r) = r by rw [← List.singleton_append (x := b), ← List.append_assoc]; exact List.drop_left' (by simp)]
    rw [splitK_pcs b k r hc]
theorem countB_one (s : ByteArray) (b : UInt8) : countB s ⟨#[b]⟩ = s.data.toList.count b := by
  unfold countB; exact count_one b _
/-- The library's pieces at one byte. -/
theorem splitB_pcs (s : ByteArray) (b : UInt8) : splitB ⟨#[b]⟩ 0 (countB s ⟨#[b]⟩) s = (pcs b s.data.toList).map fun l => ⟨l.toArray⟩ := by
  have h1 := splitB_data ⟨#[b]⟩ 0 (countB s ⟨#[b]⟩) s
  have h2 : splitK [b] 0 (countB s ⟨#[b]⟩) s.data.toList = pcs b s.data.toList := splitK_pcs b _ _ (countB_one s b).symm
  have h3 := congrArg (List.map fun l : List UInt8 => (⟨l.toArray⟩ : ByteArray)) (h1.trans h2)
  rw [← h3, List.map_map]
  exact (List.map_id _).symm.trans (List.map_congr_left fun x _ => by cases x; rfl)
/-- The text up to a byte and behind it. -/
theorem cut_one_none (b : UInt8) (l : List UInt8) (h : b ∉ l) : cut l [b] = (l, [], false) := by
  unfold cut; rw [index_none b l h, if_neg (by decide)]
theorem cut_one_hit (b : UInt8) (p r : List UInt8) (h : b ∉ p) : cut (p ++ b :: r) [b] = (p, r, true) := by
  unfold cut; rw [index_hit b r p h, if_pos (by omega)]
  simp only [Int.toNat_natCast, List.length_singleton]
  rw [List.take_left' rfl, show List.drop (p.length + 1) (p ++ b :: r) = r by rw [← List.singleton_append (x := b), ← List.append_assoc]; exact List.drop_left' (by simp)]
end Go.Proofs.Ytjnmndjhlllfkaa
