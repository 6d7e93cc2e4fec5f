/- Plain words for moving the variables of an expression. -/
/- Expressions as trees: each valid list of terms is the prefix form of one; where operations end. -/
/- Operators on values: the model's and the program's answers are those of one plain function. -/
/- The value of an expression, as a plain function of its tree. -/
/- Evaluating an expression: whether all values are within bounds, and one operation's value, as the program computes them. -/
/- Whether all values are within bounds: the model. -/
/- What is asked of definitions, one of them and a part of it. -/
import Derived.WalkKit
import Derived.Lib.Hide
import Derived.Test.YtdgcpaeneafejaaGreatDoorLow
import Derived.Test.YtdgcpaeneafejaaGreatDoorProg
import Derived.ProofKit
import Derived.Outline
import Derived.Test.YtdgcpaeneafejaaGreatDoorTmLow
import Derived.BigQuiet
import Derived.Deep.QuietTactic
import Derived.Test.YtdgcpaeneafejaaGreatDoorPxJL
import Derived.Test.YtdgcpaeneafejaaGreatDoorPxWX
namespace Go.Proofs.YtdgcpaeneafejaaGreatDoor
open Go.RowKit
section
variable {f : Tm → Tm} {es : List Tm}
/-- Up to place k each term is turned, from there on it is as it was. -/
def midF (f : Tm → Tm) (es : List Tm) (k : Nat) : List Tm := (es.take k).map f ++ es.drop k
theorem midF_zero (f : Tm → Tm) (es : List Tm) : midF f es 0 = es := by simp [midF]
theorem midF_all {k : Nat} (h : es.length ≤ k) : midF f es k = es.map f := by
  unfold midF; rw [List.take_of_length_le h, List.drop_eq_nil_of_le h, List.append_nil]
theorem midF_len {k : Nat} (h : k ≤ es.length) : (midF f es k).length = es.length := by
  unfold midF; rw [List.length_append, List.length_map, List.length_take, List.length_drop]; omega
theorem midF_at {k : Nat} {t : Tm} (h : es[k]? = some t) : (midF f es k)[k]? = some t := by
  have hk := (List.getElem?_eq_some_iff.1 h).1
  have hl : ((es.take k).map f).length = k := by rw [List.length_map, List.length_take]; omega
  unfold midF
  rw [List.getElem?_append_right (by omega), hl, Nat.sub_self, List.getElem?_drop]
  simpa using h
theorem midF_succ {k : Nat} {t : Tm} (h : es[k]? = some t) : (midF f es k).set k (f t) = midF f es (k + 1) := by
  have hk := (List.getElem?_eq_some_iff.1 h).1
  have hl : ((es.take k).map f).length = k := by rw [List.length_map, List.length_take]; omega
  unfold midF
  rw [drop_one _ _ _ h, List.set_append_right _ _ (by omega), hl, Nat.sub_self, List.set_cons_zero, take_one _ _ _ h, List.map_append, List.append_assoc]
  rfl
theorem set_same {l : List Tm} {k : Nat} {t : Tm} (h : l[k]? = some t) : l.set k t = l := by
  obtain ⟨hk, rfl⟩ := List.getElem?_eq_some_iff.1 h
  simp
theorem midF_same {k : Nat} {t : Tm} (h : es[k]? = some t) (e : f t = t) : midF f es k = midF f es (k + 1) := by
  rw [← midF_succ h, e]
  exact (set_same (midF_at h)).symm
end
/-- One store turns the value of one term. -/
theorem tvs_setv {es : List Tm} {t : Tm} {k : Nat} {u : Int} (h : es[k]? = some t) : (tvs es).set (k * 2 + 1) (.int .i64 u) = tvs (es.set k ⟨t.k, u⟩) := by
  induction es generalizing k with
  | nil => simp at h
  | cons a r ih =>
    cases k with
    | zero => simp at h; subst h; rfl
    | succ k =>
      have := ih (k := k) (by simpa using h)
      rw [show (k + 1) * 2 + 1 = k * 2 + 1 + 1 + 1 by omega, tvs_cons, List.set_cons_succ, List.set_cons_succ, this, List.set_cons_succ, tvs_cons]
def shT (from_ by_ : Int) (t : Tm) : Tm := if t.k = 1 ∧ from_ ≤ t.v then ⟨t.k, t.v + by_⟩ else t
theorem shT_yes {p q : Int} {t : Tm} (h1 : t.k = 1) (h2 : p ≤ t.v) : shT p q t = ⟨t.k, t.v + q⟩ := by unfold shT; rw [if_pos ⟨h1, h2⟩]
theorem shT_kind {p q : Int} {t : Tm} (h : t.k ≠ 1) : shT p q t = t := by unfold shT; rw [if_neg (fun e => h e.1)]
theorem shT_low {p q : Int} {t : Tm} (h : ¬ p ≤ t.v) : shT p q t = t := by unfold shT; rw [if_neg (fun e => h e.2)]
theorem shT_ar (p q : Int) (t : Tm) : ar (shT p q t) = ar t := by
  unfold shT; split
  · rfl
  · rfl
theorem scan_map {v v' : Int} {f : Tm → Tm} (hf : ∀ t, ar (f t) = ar t) : ∀ {es : List Tm} {n : Int}, scan v es n = true → (∀ t ∈ es, tmB v' (f t) = true) → scan v' (es.map f) n = true := by
  intro es
  induction es with
  | nil => intro n h _; exact h
  | cons t r ih =>
    intro n h ha
    unfold scan at h
    split at h
    · cases h
    · rename_i hn
      have hn' : ¬ (n = 0 ∨ tmB v' (f t) = false) := by
        rintro (h0 | h0)
        · exact hn (.inl h0)
        · have := ha t (by simp)
          rw [this] at h0; cases h0
      rw [List.map_cons]
      unfold scan
      rw [if_neg hn', hf]
      exact ih h (fun x hx => ha x (by simp [hx]))
/-- The result of moving variables, and its code. -/
def shiftR (es : List Tm) (p q : Int) : List Tm × Int :=
  if exB 29 60 es = false then ([], 1) else if ¬ ((0 ≤ p ∧ p ≤ 29) ∧ (-29 ≤ q ∧ q ≤ 29)) then ([], 2) else if exB 29 60 (es.map (shT p q)) = false then ([], 2) else (es.map (shT p q), 0)
theorem shiftR_bad {es : List Tm} {p q : Int} (h : exB 29 60 es = false) : shiftR es p q = ([], 1) := by unfold shiftR; rw [if_pos h]
theorem shiftR_far {es : List Tm} {p q : Int} (h : exB 29 60 es = true) (h2 : ¬ ((0 ≤ p ∧ p ≤ 29) ∧ (-29 ≤ q ∧ q ≤ 29))) : shiftR es p q = ([], 2) := by unfold shiftR; rw [if_neg (by rw [h]; simp), if_pos h2]
theorem shiftR_out {es : List Tm} {p q : Int} (h : exB 29 60 es = true) (h2 : (0 ≤ p ∧ p ≤ 29) ∧ (-29 ≤ q ∧ q ≤ 29)) (h3 : exB 29 60 (es.map (shT p q)) = false) : shiftR es p q = ([], 2) := by
  unfold shiftR; rw [if_neg (by rw [h]; simp), if_neg (fun e => e h2), if_pos h3]
theorem shiftR_yes {es : List Tm} {p q : Int} (h : exB 29 60 es = true) (h2 : (0 ≤ p ∧ p ≤ 29) ∧ (-29 ≤ q ∧ q ≤ 29)) (h3 : exB 29 60 (es.map (shT p q)) = true) : shiftR es p q = (es.map (shT p q), 0) := by
  unfold shiftR; rw [if_neg (by rw [h]; simp), if_neg (fun e => e h2), if_neg (by rw [h3]; simp)]
theorem exB_scan {v m : Int} {es : List Tm} (h : exB v m es = true) : scan v es 1 = true ∧ (es.length : Int) ≤ m := by
  unfold exB at h
  rw [Bool.and_eq_true, decide_eq_true_iff] at h
  exact ⟨h.2, h.1⟩
theorem exB_mk {v m : Int} {es : List Tm} (h1 : scan v es 1 = true) (h2 : (es.length : Int) ≤ m) : exB v m es = true := by
  unfold exB; rw [h1, decide_eq_true h2]; rfl
/-- The terms of an expression have small numbers. -/
theorem exB_small {v m : Int} {es : List Tm} (h : exB v m es = true) (hv : v ≤ 64) : ∀ t ∈ es, 0 ≤ t.v ∧ t.v ≤ 63 ∧ 0 ≤ t.k ∧ t.k ≤ 3 := by
  intro t ht
  have hb := scan_all (exB_scan h).1 t ht
  unfold tmB at hb
  repeat (first | (cases hb; done) | (have := of_decide_eq_true hb; omega) | split at hb)
theorem exB_all {p q : Int} {es : List Tm} (h : exB 29 60 es = true) (ha : ∀ t ∈ es, tmB 29 (shT p q t) = true) : exB 29 60 (es.map (shT p q)) = true :=
  exB_mk (scan_map (shT_ar p q) (exB_scan h).1 ha) (by rw [List.length_map]; exact (exB_scan h).2)
theorem exB_some {p q : Int} {es : List Tm} {k : Nat} {t : Tm} (hx : es[k]? = some t) (ht : tmB 29 (shT p q t) = false) : exB 29 60 (es.map (shT p q)) = false := by
  rcases e : exB 29 60 (es.map (shT p q)) with _ | _
  · rfl
  · have := scan_all (exB_scan e).1 (shT p q t) (List.mem_map_of_mem (List.mem_of_getElem? hx))
    rw [ht] at this; cases this
end Go.Proofs.YtdgcpaeneafejaaGreatDoor

namespace Go.Proofs.YtdgcpaeneafejaaGreatDoor
open Go.RowKit
inductive Ex where
  | leaf (t : Tm) : Ex
  | one (t : Tm) (a : Ex) : Ex
  | two (t : Tm) (a b : Ex) : Ex
def Ex.flat : Ex → List Tm
  | .leaf t => [t]
  | .one t a => t :: a.flat
  | .two t a b => t :: (a.flat ++ b.flat)
def Ex.ok (v : Int) : Ex → Prop
  | .leaf t => tmB v t = true ∧ ar t = 0
  | .one t a => tmB v t = true ∧ ar t = 1 ∧ a.ok v
  | .two t a b => tmB v t = true ∧ ar t = 2 ∧ a.ok v ∧ b.ok v
theorem Ex.flat_pos (x : Ex) : 1 ≤ x.flat.length := by cases x <;> simp [Ex.flat]
theorem scan_parse {v : Int} : ∀ (es : List Tm) (n : Int), scan v es n = true → 0 ≤ n → ∃ l : List Ex, (l.length : Int) = n ∧ l.flatMap Ex.flat = es ∧ ∀ x ∈ l, x.ok v := by
  intro es
  induction es with
  | nil =>
    intro n h _
    unfold scan at h
    have := of_decide_eq_true h
    exact ⟨[], by simp [this], rfl, by simp⟩
  | cons t r ih =>
    intro n h hn
    unfold scan at h
    split at h
    · cases h
    · rename_i hc
      have hn0 : n ≠ 0 := fun e => hc (.inl e)
      have htm : tmB v t = true := by
        rcases e : tmB v t with _ | _
        · exact absurd (.inr e) hc
        · rfl
      have hbd := ar_bd t
      obtain ⟨l, hl, hf, ho⟩ := ih (n + (ar t - 1)) h (by omega)
      have h3 : ar t = 0 ∨ ar t = 1 ∨ ar t = 2 := by omega
      rcases h3 with h3 | h3 | h3
      · refine ⟨.leaf t :: l, by simp; omega, by simp [Ex.flat, hf], fun x hx => ?_⟩
        rcases List.mem_cons.1 hx with rfl | hx
        · exact ⟨htm, h3⟩
        · exact ho x hx
      · rcases l with _ | ⟨x, l⟩
        · simp at hl; omega
        · refine ⟨.one t x :: l, by simp at hl ⊢; omega, by simpa [Ex.flat] using hf, fun y hy => ?_⟩
          rcases List.mem_cons.1 hy with rfl | hy
          · exact ⟨htm, h3, ho x (by simp)⟩
          · exact ho y (by simp [hy])
      · rcases l with _ | ⟨x, _ | ⟨x2, l⟩⟩
        · simp at hl; omega
        · simp at hl; omega
        · refine ⟨.two t x x2 :: l, by simp at hl ⊢; omega, by simpa [Ex.flat] using hf, fun y hy => ?_⟩
          rcases List.mem_cons.1 hy with rfl | hy
          · exact ⟨htm, h3, ho x (by simp), ho x2 (by simp)⟩
          · exact ho y (by simp [hy])
theorem exB_parse {v m : Int} {es : List Tm} (h : exB v m es = true) : ∃ x : Ex, x.flat = es ∧ x.ok v := by
  obtain ⟨l, hl, hf, ho⟩ := scan_parse es 1 (exB_scan h).1 (by omega)
  rcases l with _ | ⟨x, _ | ⟨y, l⟩⟩
  · simp at hl
  · exact ⟨x, by simpa using hf, ho x (by simp)⟩
  · simp at hl; omega
/-- The tree of an expression. -/
noncomputable def treeOf (es : List Tm) : Ex := by classical exact if h : ∃ x : Ex, x.flat = es ∧ x.ok 29 then Classical.choose h else .leaf ⟨0, 0⟩
theorem treeOf_ok {es : List Tm} (h : exB 29 60 es = true) : (treeOf es).flat = es ∧ (treeOf es).ok 29 := by
  have hx := exB_parse h
  unfold treeOf
  rw [dif_pos hx]
  exact Classical.choose_spec hx
theorem fe_cons (t : Tm) (r : List Tm) (m i : Int) : fe (t :: r) m i = if m + (ar t - 1) = 0 then i + 1 else fe r (m + (ar t - 1)) (i + 1) := rfl
theorem fe_flat {v : Int} : ∀ (x : Ex) (r : List Tm) (m i : Int), x.ok v → 1 ≤ m → fe (x.flat ++ r) m i = if m = 1 then i + x.flat.length else fe r (m - 1) (i + x.flat.length) := by
  intro x
  induction x with
  | leaf t =>
    intro r m i ho hm
    obtain ⟨_, h0⟩ := ho
    show fe (t :: r) m i = _
    rw [fe_cons, h0, show m + (0 - 1) = m - 1 by omega]
    by_cases e : m = 1
    · rw [if_pos (by omega), if_pos e]; rfl
    · rw [if_neg (by omega), if_neg e]; rfl
  | one t a ih =>
    intro r m i ho hm
    obtain ⟨_, h1, ha⟩ := ho
    show fe (t :: (a.flat ++ r)) m i = _
    rw [fe_cons, h1, if_neg (by omega), show m + (1 - 1) = m by omega, ih r m (i + 1) ha hm]
    have e2 : i + 1 + (a.flat.length : Int) = i + ((Ex.one t a).flat.length : Nat) := by simp only [Ex.flat, List.length_cons]; omega
    rw [e2]
  | two t a b iha ihb =>
    intro r m i ho hm
    obtain ⟨_, h2, ha, hb⟩ := ho
    show fe (t :: ((a.flat ++ b.flat) ++ r)) m i = _
    rw [fe_cons, h2, if_neg (by omega), List.append_assoc, show m + (2 - 1) = m + 1 by omega, iha (b.flat ++ r) (m + 1) (i + 1) ha (by omega), if_neg (by omega), show m + 1 - 1 = m by omega, ihb r m _ hb hm]
    have e2 : i + 1 + (a.flat.length : Int) + (b.flat.length : Int) = i + ((Ex.two t a b).flat.length : Nat) := by simp only [Ex.flat, List.length_cons, List.length_append]; omega
    rw [e2]
theorem fe_one {v : Int} {x : Ex} (h : x.ok v) (r : List Tm) (i : Int) : fe (x.flat ++ r) 1 i = i + x.flat.length := by
  rw [fe_flat x r 1 i h (by omega), if_pos rfl]
/-- The operands of the first term. -/
def Ex.ops : Ex → List (List Tm)
  | .leaf _ => []
  | .one _ a => [a.flat]
  | .two _ a b => [a.flat, b.flat]
noncomputable def operR (es : List Tm) : List (List Tm) × Int := if exB 29 60 es = true then ((treeOf es).ops, 0) else ([], 1)
theorem operR_no {es : List Tm} (h : exB 29 60 es = false) : operR es = ([], 1) := by unfold operR; rw [if_neg (by rw [h]; simp)]
theorem operR_yes {es : List Tm} (h : exB 29 60 es = true) : operR es = ((treeOf es).ops, 0) := by unfold operR; rw [if_pos h]
theorem Ex.ops_len (x : Ex) : x.ops.length ≤ 2 := by cases x <;> simp [Ex.ops]
theorem Ex.ops_in {x : Ex} {l : List Tm} (h : l ∈ x.ops) : l.length ≤ x.flat.length := by
  cases x with
  | leaf t => simp [Ex.ops] at h
  | one t a => simp [Ex.ops] at h; subst h; simp [Ex.flat]
  | two t a b =>
    simp [Ex.ops] at h
    rcases h with rfl | rfl <;> simp [Ex.flat] <;> omega
theorem operR_len (es : List Tm) : (operR es).1.length ≤ 2000000 := by
  unfold operR
  split
  · have := Ex.ops_len (treeOf es); simp only; omega
  · simp
theorem operR_inner (es : List Tm) : ∀ l ∈ (operR es).1, l.length ≤ 2000000 := by
  unfold operR
  split
  · rename_i h
    intro l hl
    have h1 := Ex.ops_in hl
    have h2 := (exB_scan h).2
    rw [(treeOf_ok h).1] at h1
    omega
  · simp
/-- The operands as trees. -/
def Ex.kids : Ex → List Ex
  | .leaf _ => []
  | .one _ a => [a]
  | .two _ a b => [a, b]
theorem Ex.kids_flat (x : Ex) : x.kids.flatMap Ex.flat = x.flat.drop 1 := by cases x <;> simp [Ex.kids, Ex.flat]
theorem Ex.kids_ops (x : Ex) : x.kids.map Ex.flat = x.ops := by cases x <;> simp [Ex.kids, Ex.ops]
theorem Ex.kids_ok {v : Int} {x : Ex} (h : x.ok v) : ∀ y ∈ x.kids, y.ok v := by
  cases x with
  | leaf t => simp [Ex.kids]
  | one t a => intro y hy; simp [Ex.kids] at hy; subst hy; exact h.2.2
  | two t a b =>
    intro y hy
    simp [Ex.kids] at hy
    rcases hy with rfl | rfl
    · exact h.2.2.1
    · exact h.2.2.2
theorem Ex.kids_len {v : Int} {x : Ex} (h : x.ok v) : ∃ t r, x.flat = t :: r ∧ ar t = (x.kids.length : Nat) := by
  cases x with
  | leaf t => exact ⟨t, [], rfl, h.2⟩
  | one t a => exact ⟨t, _, rfl, h.2.1⟩
  | two t a b => exact ⟨t, _, rfl, h.2.1⟩
end Go.Proofs.YtdgcpaeneafejaaGreatDoor

namespace Go.Proofs.YtdgcpaeneafejaaGreatDoor
open Go.RowKit
def tr (b : Bool) : Int := if b then 1 else 0
def opV (op a b : Int) : Int :=
  if op = 0 then (a + b) % 64 else if op = 1 then (a - b + 64) % 64 else if op = 2 then a * b % 64 else if op = 3 then tr (a == b) else if op = 4 then tr (a != b)
  else if op = 5 then tr (decide (a < b)) else if op = 6 then tr (decide (a ≤ b)) else if op = 7 then tr (a != 0 && b != 0) else tr (a != 0 || b != 0)
theorem tr_bd (b : Bool) : 0 ≤ tr b ∧ tr b ≤ 63 := by cases b <;> simp [tr]
theorem opV_bd (op a b : Int) : 0 ≤ opV op a b ∧ opV op a b ≤ 63 := by
  unfold opV
  repeat (first | exact tr_bd _ | omega | split)
def opOk (op a b : Int) : Prop := (0 ≤ op ∧ op ≤ 8) ∧ (0 ≤ a ∧ a ≤ 63) ∧ (0 ≤ b ∧ b ≤ 63)
instance (op a b : Int) : Decidable (opOk op a b) := by unfold opOk; exact inferInstance
def opR (op a b : Int) : Int × Int := if opOk op a b then (opV op a b, 0) else (0, 1)
theorem opR_yes {op a b : Int} (h : opOk op a b) : opR op a b = (opV op a b, 0) := by unfold opR; rw [if_pos h]
theorem opR_no {op a b : Int} (h : ¬ opOk op a b) : opR op a b = (0, 1) := by unfold opR; rw [if_neg h]
theorem mul_bd {a b : Int} (ha : 0 ≤ a ∧ a ≤ 63) (hb : 0 ≤ b ∧ b ≤ 63) : 0 ≤ a * b ∧ a * b ≤ 3969 := by
  have h1 := Int.mul_nonneg ha.1 hb.1
  have h2 : a * b ≤ 63 * 63 := Int.mul_le_mul ha.2 hb.2 hb.1 (by omega)
  omega
/-- The truth value of the operators from 3 on. -/
def opB (op a b : Int) : Bool :=
  if op = 3 then a == b else if op = 4 then a != b else if op = 5 then decide (a < b) else if op = 6 then decide (a ≤ b) else if op = 7 then a != 0 && b != 0 else a != 0 || b != 0
theorem opV_tr {op a b : Int} (h : 3 ≤ op) : opV op a b = tr (opB op a b) := by
  unfold opV opB
  rw [if_neg (by omega), if_neg (by omega), if_neg (by omega)]
  repeat (first | rfl | split)
theorem not_opOk {op a b : Int} (h : ¬ opOk op a b) : (op < 0 ∨ 8 < op) ∨ (0 ≤ op ∧ op ≤ 8) ∧ (a < 0 ∨ 63 < a) ∨ (0 ≤ op ∧ op ≤ 8) ∧ (0 ≤ a ∧ a ≤ 63) ∧ (b < 0 ∨ 63 < b) := by
  unfold opOk at h; omega
end Go.Proofs.YtdgcpaeneafejaaGreatDoor

namespace Go.Proofs.YtdgcpaeneafejaaGreatDoor
open Go.RowKit
def evX (vals : List Int) : Ex → Int
  | .leaf t => if t.k = 0 then t.v else vals.getD t.v.toNat 0
  | .one _ a => tr (evX vals a == 0)
  | .two t a b => opV t.v (evX vals a) (evX vals b)
def dataB (vals : List Int) : Bool := vals.all fun v => decide (0 ≤ v ∧ v ≤ 63)
theorem dataB_at {vals : List Int} (h : dataB vals = true) {k : Nat} {v : Int} (hk : vals[k]? = some v) : 0 ≤ v ∧ v ≤ 63 := by
  have := (List.all_eq_true.1 h) v (List.mem_of_getElem? hk)
  exact of_decide_eq_true this
theorem dataB_no {vals : List Int} {k : Nat} {v : Int} (hk : vals[k]? = some v) (h : v < 0 ∨ 63 < v) : dataB vals = false := by
  rcases e : dataB vals with _ | _
  · rfl
  · have := dataB_at e hk
    omega
theorem dataB_all {vals : List Int} (h : ∀ v ∈ vals, 0 ≤ v ∧ v ≤ 63) : dataB vals = true := List.all_eq_true.2 fun v hv => decide_eq_true (h v hv)
/-- A term of few variables is one of more. -/
theorem tmB_more {v v' : Int} {t : Tm} (h : tmB v t = true) (hv : v ≤ v') : tmB v' t = true := by
  unfold tmB at h ⊢
  split
  · rename_i h0; rw [if_pos h0] at h; exact h
  · rename_i h0; rw [if_neg h0] at h
    split
    · rename_i h1; rw [if_pos h1] at h
      have := of_decide_eq_true h
      exact decide_eq_true (by omega)
    · rename_i h1; rw [if_neg h1] at h; exact h
theorem scan_more {v v' : Int} (hv : v ≤ v') : ∀ {es : List Tm} {n : Int}, scan v es n = true → scan v' es n = true := by
  intro es
  induction es with
  | nil => intro n h; exact h
  | cons t r ih =>
    intro n h
    unfold scan at h ⊢
    split at h
    · cases h
    · rename_i hn
      have ht : tmB v t = true := by
        rcases e : tmB v t with _ | _
        · exact absurd (.inr e) hn
        · rfl
      rw [if_neg (by
        rintro (h0 | h0)
        · exact hn (.inl h0)
        · rw [tmB_more ht hv] at h0; cases h0)]
      exact ih h
theorem exB_more {v v' m : Int} {es : List Tm} (h : exB v m es = true) (hv : v ≤ v') : exB v' m es = true :=
  exB_mk (scan_more hv (exB_scan h).1) (exB_scan h).2
theorem ok_less {v v' : Int} : ∀ {x : Ex}, x.ok v → (∀ t ∈ x.flat, tmB v' t = true) → x.ok v' := by
  intro x
  induction x with
  | leaf t => intro h ha; exact ⟨ha t (by simp [Ex.flat]), h.2⟩
  | one t a ih => intro h ha; exact ⟨ha t (by simp [Ex.flat]), h.2.1, ih h.2.2 (fun u hu => ha u (by simp [Ex.flat, hu]))⟩
  | two t a b iha ihb => intro h ha; exact ⟨ha t (by simp [Ex.flat]), h.2.1, iha h.2.2.1 (fun u hu => ha u (by simp [Ex.flat, hu])), ihb h.2.2.2 (fun u hu => ha u (by simp [Ex.flat, hu]))⟩
/-- What the terms of a tree are. -/
theorem tm_leaf {v : Int} {t : Tm} (h : tmB v t = true) (h0 : ar t = 0) : (t.k = 0 ∧ 0 ≤ t.v ∧ t.v ≤ 63) ∨ (t.k = 1 ∧ 0 ≤ t.v ∧ t.v < v) := by
  have h2 : t.k ≠ 2 := fun e => by rw [ar_two e] at h0; omega
  have h3 : t.k ≠ 3 := fun e => by rw [ar_one e] at h0; omega
  by_cases k0 : t.k = 0
  · rw [tmB_num k0] at h
    exact .inl ⟨k0, of_decide_eq_true h⟩
  · by_cases k1 : t.k = 1
    · rw [tmB_var k1] at h
      exact .inr ⟨k1, of_decide_eq_true h⟩
    · rw [tmB_none k0 k1 h2 h3] at h
      cases h
theorem tm_one {t : Tm} (h1 : ar t = 1) : t.k = 3 := by
  unfold ar at h1
  split at h1
  · omega
  · split at h1
    · assumption
    · omega
theorem tm_two {v : Int} {t : Tm} (h : tmB v t = true) (h2 : ar t = 2) : t.k = 2 ∧ 0 ≤ t.v ∧ t.v ≤ 8 := by
  have hk : t.k = 2 := by
    unfold ar at h2
    split at h2
    · assumption
    · split at h2 <;> omega
  rw [tmB_op hk] at h
  exact ⟨hk, of_decide_eq_true h⟩
theorem evX_bd {v : Int} {vals : List Int} (hv : v = (vals.length : Int)) (hd : dataB vals = true) : ∀ {x : Ex}, x.ok v → 0 ≤ evX vals x ∧ evX vals x ≤ 63 := by
  intro x
  cases x with
  | leaf t =>
    intro h
    unfold evX
    rcases tm_leaf h.1 h.2 with ⟨h0, h1⟩ | ⟨h0, h1⟩
    · rw [if_pos h0]; exact h1
    · rw [if_neg (by omega)]
      have hlt : t.v.toNat < vals.length := by omega
      rw [List.getD_eq_getElem?_getD, List.getElem?_eq_getElem hlt]
      exact dataB_at hd (List.getElem?_eq_getElem hlt)
  | one t a => intro _; exact tr_bd _
  | two t a b => intro _; exact opV_bd _ _ _
noncomputable def evalR (es : List Tm) (vals : List Int) : Int × Int :=
  if vals.length ≤ 29 ∧ dataB vals = true ∧ exB vals.length 60 es = true then (evX vals (treeOf es), 0) else (0, 1)
theorem evalR_yes {es : List Tm} {vals : List Int} (h1 : vals.length ≤ 29) (h2 : dataB vals = true) (h3 : exB vals.length 60 es = true) : evalR es vals = (evX vals (treeOf es), 0) := by unfold evalR; rw [if_pos ⟨h1, h2, h3⟩]
theorem evalR_no {es : List Tm} {vals : List Int} (h : ¬ (vals.length ≤ 29 ∧ dataB vals = true ∧ exB vals.length 60 es = true)) : evalR es vals = (0, 1) := by unfold evalR; rw [if_neg h]
theorem treeOf_okV {es : List Tm} {v : Int} (h : exB v 60 es = true) (hv : v ≤ 29) : (treeOf es).flat = es ∧ (treeOf es).ok v := by
  obtain ⟨h1, h2⟩ := treeOf_ok (exB_more h hv)
  exact ⟨h1, ok_less h2 (by rw [h1]; exact scan_all (exB_scan h).1)⟩
end Go.Proofs.YtdgcpaeneafejaaGreatDoor

namespace Go.Proofs.YtdgcpaeneafejaaGreatDoor
open Go.RowKit
/-- Where the first value outside bounds stands; -1 if there is none. -/
def IdxPost (vals : List Int) (w : World) (e : Ending) (w' : World) : Prop := ∃ r : Int, e = .returned (.int .i64 r) ∧ (dataB vals = true → r = -1) ∧ (dataB vals = false → 0 ≤ r) ∧ w = w'
set_option maxHeartbeats 1000000 in
theorem indexF_any (A : Option Addr) (n c : Nat) (vals : List Int) (w : World) (B : Nat) (h : IRow w B A vals) (l : vals.length = n) (m : n ≤ 2000000) :
    Calls Tryz.prog 123 #[.slice A n c, .func (.func 95) #[] #[]] w (IdxPost vals w) := by
  have L := Lib.hid l
  clear l
  go_enter Tryz.func123, Tryz.ntmps123
  go_wp2
  go_loop [8] (fun i => ∃ k : Nat, k ≤ n ∧ i = .int .i64 k ∧ Hid (∀ v ∈ vals.take k, 0 ≤ v ∧ v ≤ 63)) (fun i => n - (intOf i).toNat)
  case atStart => exact ⟨0, Nat.zero_le _, rfl, by rw [List.take_zero]; exact Lib.hid (by simp)⟩
  case round =>
    obtain ⟨k, hk, rfl, HS⟩ := hrel
    by_cases hlt : k < n
    · obtain ⟨b, o, u, rfl, hb, hc, hu⟩ := h.at_ (k := k) (by rw [L.out]; exact hlt)
      by_cases hd : 0 ≤ u ∧ u ≤ 63
      · have HN := Lib.hid (show ∀ v ∈ vals.take (k + 1), 0 ≤ v ∧ v ≤ 63 by
          rw [take_one _ _ _ hu.out]
          intro v hv
          rcases List.mem_append.1 hv with hv | hv
          · exact HS.out v hv
          · rw [List.mem_singleton] at hv; subst hv; exact hd)
        go_wp2_with (go_at_call 95; refine (outM_no _ hd _).mono ?_; rintro e w' ⟨rfl, rfl⟩)
        go_round
        case rel => exact ⟨k + 1, by omega, by go_num, HN⟩
        case measure => simp [intOf]; omega
      · have hd' : u < 0 ∨ 63 < u := by omega
        have H : IdxPost vals w (.returned (.int .i64 (k : Int))) w := by
          refine ⟨k, rfl, fun e => ?_, fun _ => by omega, rfl⟩
          rw [dataB_no hu.out hd'] at e; cases e
        clear hd
        go_wp2_with (go_at_call 95; refine (outM_yes _ hd' _).mono ?_; rintro e w' ⟨rfl, rfl⟩)
        go_ret
        exact H
    · have H : IdxPost vals w (.returned (.int .i64 (-1))) w := by
        have hA := dataB_all (vals := vals) (by have := HS.out; rwa [List.take_of_length_le (by rw [L.out]; omega)] at this)
        refine ⟨-1, rfl, fun _ => rfl, fun e => ?_, rfl⟩
        rw [hA] at e; cases e
      go_wp2
      go_ret
      exact H
theorem containsF_any (A : Option Addr) (n c : Nat) (vals : List Int) (w : World) (B : Nat) (h : IRow w B A vals) (l : vals.length = n) (m : n ≤ 2000000) :
    Calls Tryz.prog 94 #[.slice A n c, .func (.func 95) #[] #[]] w fun e w' => e = .returned (.bool (!dataB vals)) ∧ w = w' := by
  have C := Lib.hid (indexF_any A n c vals w B h l m)
  clear l
  rcases hd : dataB vals with _ | _
  · have HD := Lib.hid hd
    clear hd
    go_enter Tryz.func94, Tryz.ntmps94
    go_wp2_with (go_at_call 123; refine (C.out).mono ?_; rintro e w' ⟨r, rfl, _, h2, rfl⟩; have hr := h2 HD.out; clear h2)
    go_ret
    exact ⟨rfl, rfl⟩
  · have HD := Lib.hid hd
    clear hd
    go_enter Tryz.func94, Tryz.ntmps94
    go_wp2_with (go_at_call 123; refine (C.out).mono ?_; rintro e w' ⟨r, rfl, h1, _, rfl⟩; obtain rfl := h1 HD.out)
    go_ret
    exact ⟨rfl, rfl⟩
/-- One operation's value, from those of its operands. -/
def appV (vals : List Int) (t : Tm) (os : List Int) : Int :=
  if t.k = 0 then t.v else if t.k = 1 then vals.getD t.v.toNat 0 else if t.k = 3 then tr (os.getD 0 0 == 0) else opV t.v (os.getD 0 0) (os.getD 1 0)
end Go.Proofs.YtdgcpaeneafejaaGreatDoor

namespace Go.Proofs.YtdgcpaeneafejaaGreatDoor
open Go.RowKit
set_option maxHeartbeats 1000000 in
theorem l03Data_any (A : Option Addr) (n c : Nat) (vals : List Int) (w : World) (B : Nat) (h : IRow w B A vals) (l : vals.length = n) (m : n ≤ 2000000) :
    Calls Tryz.prog 92 #[.slice A n c] w fun e w' => e = .returned (.bool (dataB vals)) ∧ w = w' := by
  have L := Lib.hid l
  clear l
  go_enter Tryz.func92, Tryz.ntmps92
  go_wp2
  go_loop [3] (fun i => ∃ k : Nat, k ≤ n ∧ i = .int .i64 k ∧ Hid (∀ v ∈ vals.take k, 0 ≤ v ∧ v ≤ 63)) (fun i => n - (intOf i).toNat)
  case atStart => exact ⟨0, Nat.zero_le _, rfl, by rw [List.take_zero]; exact Lib.hid (by simp)⟩
  case round =>
    obtain ⟨k, hk, rfl, HS⟩ := hrel
    by_cases hlt : k < n
    · obtain ⟨b, o, u, rfl, hb, hc, hu⟩ := h.at_ (k := k) (by rw [L.out]; exact hlt)
      by_cases hd : 0 ≤ u ∧ u ≤ 63
      · have HN := Lib.hid (show ∀ v ∈ vals.take (k + 1), 0 ≤ v ∧ v ≤ 63 by
          rw [take_one _ _ _ hu.out]
          intro v hv
          rcases List.mem_append.1 hv with hv | hv
          · exact HS.out v hv
          · rw [List.mem_singleton] at hv; subst hv; exact hd)
        go_wp2_with (go_at_call 52; refine (l00In_yes _ _ _ hd _).mono ?_; rintro e w' ⟨rfl, rfl⟩)
        go_round
        case rel => exact ⟨k + 1, by omega, by go_num, HN⟩
        case measure => simp [intOf]; omega
      · have hd' : u < 0 ∨ 63 < u := by omega
        have H := Lib.hid (dataB_no hu.out hd')
        clear hd
        go_wp2_with (go_at_call 52; refine (l00In_no _ _ _ hd' _).mono ?_; rintro e w' ⟨rfl, rfl⟩)
        go_ret
        exact ⟨ret_bool H.out.symm, rfl⟩
    · have H := Lib.hid (dataB_all (vals := vals) (by have := HS.out; rwa [List.take_of_length_le (by rw [L.out]; omega)] at this))
      go_wp2
      go_ret
      exact ⟨ret_bool H.out.symm, rfl⟩
end Go.Proofs.YtdgcpaeneafejaaGreatDoor

namespace Go.Proofs.YtdgcpaeneafejaaGreatDoor
open Go.RowKit
noncomputable def askC (ls : List Df) (k part : Int) : Int := if vdB ls = false then 1 else if idxB k ls.length = false then 2 else if idxB part (ls.getD k.toNat default).body.length = false then 2 else 0
noncomputable def anAt (ls : List Df) (k part : Int) : An := ((annOf (ls.getD k.toNat default))[part.toNat]?).getD ⟨default, 0, 0, false⟩
noncomputable def peR (ls : List Df) (k part : Int) : Int × Int := if askC ls k part = 0 then ((anAt ls k part).e, 0) else (0, askC ls k part)
noncomputable def saR (ls : List Df) (k part : Int) : Int × Int := if askC ls k part = 0 then ((anAt ls k part).s, 0) else (0, askC ls k part)
theorem idxB_yes {k : Int} {n : Nat} (h : idxB k n = true) : ∃ j : Nat, k = j ∧ j < n := by
  unfold idxB at h
  rw [Bool.and_eq_true] at h
  have h1 := of_decide_eq_true h.1
  have h2 := of_decide_eq_true h.2
  exact ⟨k.toNat, by omega, by omega⟩
theorem idxB_no {k : Int} {n : Nat} (h : idxB k n = false) : k < 0 ∨ (n : Int) - 1 < k := by
  unfold idxB at h
  by_cases h1 : 0 ≤ k
  · by_cases h2 : k < n
    · simp [h1, h2] at h
    · omega
  · omega
theorem askC_inv {ls : List Df} {k part : Int} (h : vdB ls = false) : askC ls k part = 1 := by unfold askC; rw [if_pos h]
theorem askC_k {ls : List Df} {k part : Int} (h : vdB ls = true) (hk : idxB k ls.length = false) : askC ls k part = 2 := by unfold askC; rw [if_neg (by rw [h]; simp), if_pos hk]
theorem askC_p {ls : List Df} {j : Nat} {part : Int} {d : Df} (h : vdB ls = true) (hd : ls[j]? = some d) (hp : idxB part d.body.length = false) : askC ls j part = 2 := by
  have hj := (List.getElem?_eq_some_iff.1 hd).1
  unfold askC
  rw [if_neg (by rw [h]; simp)]
  split
  · rfl
  · rw [List.getD_eq_getElem?_getD, Int.toNat_natCast, hd, if_pos (by exact hp)]
theorem askC_ok {ls : List Df} {j i : Nat} {d : Df} (h : vdB ls = true) (hd : ls[j]? = some d) (hi : i < d.body.length) : askC ls j i = 0 := by
  have hj := (List.getElem?_eq_some_iff.1 hd).1
  unfold askC
  rw [if_neg (by rw [h]; simp), if_neg (by unfold idxB; simp; exact hj), List.getD_eq_getElem?_getD, Int.toNat_natCast, hd, if_neg (by unfold idxB; simp; exact hi)]
theorem vdB_parts {ls : List Df} (h : vdB ls = true) {j : Nat} {d : Df} (hd : ls[j]? = some d) : ls.length ≤ 4 ∧ 0 ≤ d.ps ∧ d.ps ≤ 3 ∧ shapeB d.body = true := by
  unfold vdB at h
  rw [Bool.and_eq_true, Bool.and_eq_true, Bool.and_eq_true, headB_eq] at h
  have h1 := of_decide_eq_true h.1
  have h2 := (List.all_eq_true.1 h.2.1) d (List.mem_of_getElem? hd)
  have h3 := (List.all_eq_true.1 h.2.2.2) d (List.mem_of_getElem? hd)
  unfold hdB at h2
  rw [Bool.and_eq_true] at h2
  have h4 := of_decide_eq_true h2.2
  refine ⟨h1.2, h4.1, h4.2, ?_⟩
  rcases e : shapeB d.body with _ | _
  · unfold bodyF at h3
    rw [if_neg (by rw [e]; simp)] at h3
    simp at h3
  · rfl
theorem anAt_eq {ls : List Df} {j i : Nat} {d : Df} {a : An} (hd : ls[j]? = some d) (ha : (annOf d)[i]? = some a) : anAt ls j i = a := by
  unfold anAt
  rw [List.getD_eq_getElem?_getD, Int.toNat_natCast, hd, Int.toNat_natCast]
  show ((annOf d)[i]?).getD _ = a
  rw [ha]; rfl
theorem peR_ok {ls : List Df} {j i : Nat} {d : Df} {a : An} (h : vdB ls = true) (hd : ls[j]? = some d) (hi : i < d.body.length) (ha : (annOf d)[i]? = some a) : peR ls j i = ((a.e : Int), 0) := by
  unfold peR; rw [if_pos (askC_ok h hd hi), anAt_eq hd ha]
theorem saR_ok {ls : List Df} {j i : Nat} {d : Df} {a : An} (h : vdB ls = true) (hd : ls[j]? = some d) (hi : i < d.body.length) (ha : (annOf d)[i]? = some a) : saR ls j i = (a.s, 0) := by
  unfold saR; rw [if_pos (askC_ok h hd hi), anAt_eq hd ha]
theorem peR_bad {ls : List Df} {k part : Int} {c : Int} (h : askC ls k part = c) (hc : c ≠ 0) : peR ls k part = (0, c) := by unfold peR; rw [h, if_neg hc]
theorem saR_bad {ls : List Df} {k part : Int} {c : Int} (h : askC ls k part = c) (hc : c ≠ 0) : saR ls k part = (0, c) := by unfold saR; rw [h, if_neg hc]
end Go.Proofs.YtdgcpaeneafejaaGreatDoor
