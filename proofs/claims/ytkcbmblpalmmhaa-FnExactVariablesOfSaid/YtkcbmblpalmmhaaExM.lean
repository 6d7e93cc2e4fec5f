/- Expressions as trees: each valid list of terms is the prefix form of one; where operations end. -/
import Derived.WalkKit
import Derived.Lib.Hide
import Derived.Test.YtkcbmblpalmmhaaMem
import Derived.Test.YtkcbmblpalmmhaaTmM
import Derived.Test.YtkcbmblpalmmhaaShiftM
namespace Go.Proofs.Ytkcbmblpalmmhaa
open Go.RowKit
inductive Ex where
  | leaf (t : Tm) : Ex
  | one (t : Tm) (a : Ex) : Ex
  | two (t : Tm) (a b : Ex) : Ex
def Ex.flat : Ex → List Tm
  | .leaf t => [t]
  | .one t a => t :: a.flat
  | .two t a b => t :: (a.flat ++ b.flat)
def Ex.ok (v : Int) : Ex → Prop
  | .leaf t => tmB v t = true ∧ ar t = 0
  | .one t a => tmB v t = true ∧ ar t = 1 ∧ a.ok v
  | .two t a b => tmB v t = true ∧ ar t = 2 ∧ a.ok v ∧ b.ok v
theorem Ex.flat_pos (x : Ex) : 1 ≤ x.flat.length := by cases x <;> simp [Ex.flat]
theorem scan_parse {v : Int} : ∀ (es : List Tm) (n : Int), scan v es n = true → 0 ≤ n → ∃ l : List Ex, (l.length : Int) = n ∧ l.flatMap Ex.flat = es ∧ ∀ x ∈ l, x.ok v := by
  intro es
  induction es with
  | nil =>
    intro n h _
    unfold scan at h
    have := of_decide_eq_true h
    exact ⟨[], by simp [this], rfl, by simp⟩
  | cons t r ih =>
    intro n h hn
    unfold scan at h
    split at h
    · cases h
    · rename_i hc
      have hn0 : n ≠ 0 := fun e => hc (.inl e)
      have htm : tmB v t = true := by
        rcases e : tmB v t with _ | _
        · exact absurd (.inr e) hc
        · rfl
      have hbd := ar_bd t
      obtain ⟨l, hl, hf, ho⟩ := ih (n + (ar t - 1)) h (by omega)
      have h3 : ar t = 0 ∨ ar t = 1 ∨ ar t = 2 := by omega
      rcases h3 with h3 | h3 | h3
      · refine ⟨.leaf t :: l, by simp; omega, by simp [Ex.flat, hf], fun x hx => ?_⟩
        rcases List.mem_cons.1 hx with rfl | hx
        · exact ⟨htm, h3⟩
        · exact ho x hx
      · rcases l with _ | ⟨x, l⟩
        · simp at hl; omega
        · refine ⟨.one t x :: l, by simp at hl ⊢; omega, by simpa [Ex.flat] using hf, fun y hy => ?_⟩
          rcases List.mem_cons.1 hy with rfl | hy
          · exact ⟨htm, h3, ho x (by simp)⟩
          · exact ho y (by simp [hy])
      · rcases l with _ | ⟨x, _ | ⟨x2, l⟩⟩
        · simp at hl; omega
        · simp at hl; omega
        · refine ⟨.two t x x2 :: l, by simp at hl ⊢; omega, by simpa [Ex.flat] using hf, fun y hy => ?_⟩
          rcases List.mem_cons.1 hy with rfl | hy
          · exact ⟨htm, h3, ho x (by simp), ho x2 (by simp)⟩
          · exact ho y (by simp [hy])
theorem exB_parse {v m : Int} {es : List Tm} (h : exB v m es = true) : ∃ x : Ex, x.flat = es ∧ x.ok v := by
  obtain ⟨l, hl, hf, ho⟩ := scan_parse es 1 (exB_scan h).1 (by omega)
  rcases l with _ | ⟨x, _ | ⟨y, l⟩⟩
  · simp at hl
  · exact ⟨x, by simpa using hf, ho x (by simp)⟩
  · simp at hl; omega
/-- The tree of an expression. -/
noncomputable def treeOf (es : List Tm) : Ex := by classical exact if h : ∃ x : Ex, x.flat = es ∧ x.ok 29 then Classical.choose h else .leaf ⟨0, 0⟩
theorem treeOf_ok {es : List Tm} (h : exB 29 60 es = true) : (treeOf es).flat = es ∧ (treeOf es).ok 29 := by
  have hx := exB_parse h
  unfold treeOf
  rw [dif_pos hx]
  exact Classical.choose_spec hx
theorem fe_cons (t : Tm) (r : List Tm) (m i : Int) : fe (t :: r) m i = if m + (ar t - 1) = 0 then i + 1 else fe r (m + (ar t - 1)) (i + 1) := rfl
theorem fe_flat {v : Int} : ∀ (x : Ex) (r : List Tm) (m i : Int), x.ok v → 1 ≤ m → fe (x.flat ++ r) m i = if m = 1 then i + x.flat.length else fe r (m - 1) (i + x.flat.length) := by
  intro x
  induction x with
  | leaf t =>
    intro r m i ho hm
    obtain ⟨_, h0⟩ := ho
    show fe (t :: r) m i = _
    rw [fe_cons, h0, show m + (0 - 1) = m - 1 by omega]
    by_cases e : m = 1
    · rw [if_pos (by omega), if_pos e]; rfl
    · rw [if_neg (by omega), if_neg e]; rfl
  | one t a ih =>
    intro r m i ho hm
    obtain ⟨_, h1, ha⟩ := ho
    show fe (t :: (a.flat ++ r)) m i = _
    rw [fe_cons, h1, if_neg (by omega), show m + (1 - 1) = m by omega, ih r m (i + 1) ha hm]
    have e2 : i + 1 + (a.flat.length : Int) = i + ((Ex.one t a).flat.length : Nat) := by simp only [Ex.flat, List.length_cons]; omega
    rw [e2]
  | two t a b iha ihb =>
    intro r m i ho hm
    obtain ⟨_, h2, ha, hb⟩ := ho
    show fe (t :: ((a.flat ++ b.flat) ++ r)) m i = _
    rw [fe_cons, h2, if_neg (by omega), List.append_assoc, show m + (2 - 1) = m + 1 by omega, iha (b.flat ++ r) (m + 1) (i + 1) ha (by omega), if_neg (by omega), show m + 1 - 1 = m by omega, ihb r m _ hb hm]
    have e2 : i + 1 + (a.flat.length : Int) + (b.flat.length : Int) = i + ((Ex.two t a b).flat.length : Nat) := by simp only [Ex.flat, List.length_cons, List.length_append]; omega
    rw [e2]
theorem fe_one {v : Int} {x : Ex} (h : x.ok v) (r : List Tm) (i : Int) : fe (x.flat ++ r) 1 i = i + x.flat.length := by
  rw [fe_flat x r 1 i h (by omega), if_pos rfl]
/-- The operands of the first term. -/
def Ex.ops : Ex → List (List Tm)
  | .leaf _ => []
  | .one _ a => [a.flat]
  | .two _ a b => [a.flat, b.flat]
noncomputable def operR (es : List Tm) : List (List Tm) × Int := if exB 29 60 es = true then ((treeOf es).ops, 0) else ([], 1)
theorem operR_no {es : List Tm} (h : exB 29 60 es = false) : operR es = ([], 1) := by unfold operR; rw [if_neg (by rw [h]; simp)]
theorem operR_yes {es : List Tm} (h : exB 29 60 es = true) : operR es = ((treeOf es).ops, 0) := by unfold operR; rw [if_pos h]
theorem Ex.ops_len (x : Ex) : x.ops.length ≤ 2 := by cases x <;> simp [Ex.ops]
theorem Ex.ops_in {x : Ex} {l : List Tm} (h : l ∈ x.ops) : l.length ≤ x.flat.length := by
  cases x with
  | leaf t => simp [Ex.ops] at h
  | one t a => simp [Ex.ops] at h; subst h; simp [Ex.flat]
  | two t a b =>
    simp [Ex.ops] at h
    rcases h with rfl | rfl <;> simp [Ex.flat] <;> omega
theorem operR_len (es : List Tm) : (operR es).1.length ≤ 2000000 := by
  unfold operR
  split
  · have := Ex.ops_len (treeOf es); simp only; omega
  · simp
theorem operR_inner (es : List Tm) : ∀ l ∈ (operR es).1, l.length ≤ 2000000 := by
  unfold operR
  split
  · rename_i h
    intro l hl
    have h1 := Ex.ops_in hl
    have h2 := (exB_scan h).2
    rw [(treeOf_ok h).1] at h1
    omega
  · simp
/-- The operands as trees. -/
def Ex.kids : Ex → List Ex
  | .leaf _ => []
  | .one _ a => [a]
  | .two _ a b => [a, b]
theorem Ex.kids_flat (x : Ex) : x.kids.flatMap Ex.flat = x.flat.drop 1 := by cases x <;> simp [Ex.kids, Ex.flat]
theorem Ex.kids_ops (x : Ex) : x.kids.map Ex.flat = x.ops := by cases x <;> simp [Ex.kids, Ex.ops]
theorem Ex.kids_ok {v : Int} {x : Ex} (h : x.ok v) : ∀ y ∈ x.kids, y.ok v := by
  cases x with
  | leaf t => simp [Ex.kids]
  | one t a => intro y hy; simp [Ex.kids] at hy; subst hy; exact h.2.2
  | two t a b =>
    intro y hy
    simp [Ex.kids] at hy
    rcases hy with rfl | rfl
    · exact h.2.2.1
    · exact h.2.2.2
theorem Ex.kids_len {v : Int} {x : Ex} (h : x.ok v) : ∃ t r, x.flat = t :: r ∧ ar t = (x.kids.length : Nat) := by
  cases x with
  | leaf t => exact ⟨t, [], rfl, h.2⟩
  | one t a => exact ⟨t, _, rfl, h.2.1⟩
  | two t a b => exact ⟨t, _, rfl, h.2.1⟩
end Go.Proofs.Ytkcbmblpalmmhaa
