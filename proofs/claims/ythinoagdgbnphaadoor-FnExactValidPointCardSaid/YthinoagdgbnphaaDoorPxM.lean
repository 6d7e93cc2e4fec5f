/- Bodies as trees: shapes, ends, scopes; plain mathematics. -/
import Derived.WalkKit
import Derived.Lib.Hide
import Derived.Test.YthinoagdgbnphaaDoorMem
import Derived.Test.YthinoagdgbnphaaDoorDat
namespace Go.Proofs.YthinoagdgbnphaaDoor
open Go.RowKit
def fol (p : Pt) : Int := if p.k = 1 ∨ p.k = 3 ∨ p.k = 4 then 1 else if p.k = 2 then 2 else 0
theorem fol_bd (p : Pt) : fol p = 0 ∨ fol p = 1 ∨ fol p = 2 := by unfold fol; split <;> (try split) <;> simp
theorem fol_k1 {p : Pt} (h : p.k = 1) : fol p = 1 := by unfold fol; rw [if_pos (.inl h)]
def sm (p : Pt) : Int := if p.k = 4 then 1 else 0
inductive Px where
  | leaf (p : Pt) : Px
  | one (p : Pt) (a : Px) : Px
  | two (p : Pt) (a b : Px) : Px
def Px.flat : Px → List Pt
  | .leaf p => [p]
  | .one p a => p :: a.flat
  | .two p a b => p :: (a.flat ++ b.flat)
def Px.ok : Px → Prop
  | .leaf p => fol p = 0
  | .one p a => fol p = 1 ∧ a.ok
  | .two p a b => fol p = 2 ∧ a.ok ∧ b.ok
def Px.size : Px → Nat
  | .leaf _ => 1
  | .one _ a => 1 + a.size
  | .two _ a b => 1 + (a.size + b.size)
theorem Px.flat_len (x : Px) : x.flat.length = x.size := by
  induction x with
  | leaf p => rfl
  | one p a ih => simp [Px.flat, Px.size, ih]; omega
  | two p a b iha ihb => simp [Px.flat, Px.size, iha, ihb]; omega
theorem Px.size_pos (x : Px) : 1 ≤ x.size := by cases x <;> simp [Px.size]
/-- Where the first part and all that belong to it end. -/
def pf : List Pt → Int → Int → Int
  | [], _, _ => -1
  | p :: r, m, i => if m + (fol p - 1) = 0 then i + 1 else pf r (m + (fol p - 1)) (i + 1)
theorem pf_cons (p : Pt) (r : List Pt) (m i : Int) : pf (p :: r) m i = if m + (fol p - 1) = 0 then i + 1 else pf r (m + (fol p - 1)) (i + 1) := rfl
/-- The model's look at a shape. -/
def nd : List Pt → Int → Bool
  | [], n => n == 0
  | p :: r, n => if n = 0 then false else nd r (n + (fol p - 1))
theorem nd_cons (p : Pt) (r : List Pt) (n : Int) : nd (p :: r) n = if n = 0 then false else nd r (n + (fol p - 1)) := rfl
theorem nd_parse : ∀ (es : List Pt) (n : Int), nd es n = true → 0 ≤ n → ∃ l : List Px, (l.length : Int) = n ∧ l.flatMap Px.flat = es ∧ ∀ x ∈ l, x.ok := by
  intro es
  induction es with
  | nil =>
    intro n h _
    have : n = 0 := by simpa [nd] using h
    exact ⟨[], by simp [this], rfl, by simp⟩
  | cons p r ih =>
    intro n h hn
    rw [nd_cons] at h
    split at h
    · cases h
    · rename_i hn0
      have hb := fol_bd p
      obtain ⟨l, hl, hf, ho⟩ := ih (n + (fol p - 1)) h (by omega)
      rcases hb with h3 | h3 | h3
      · refine ⟨.leaf p :: l, by simp; omega, by simp [Px.flat, hf], fun x hx => ?_⟩
        rcases List.mem_cons.1 hx with rfl | hx
        · exact h3
        · exact ho x hx
      · rcases l with _ | ⟨x, l⟩
        · simp at hl; omega
        · refine ⟨.one p x :: l, by simp at hl ⊢; omega, by simpa [Px.flat] using hf, fun y hy => ?_⟩
          rcases List.mem_cons.1 hy with rfl | hy
          · exact ⟨h3, ho x (by simp)⟩
          · exact ho y (by simp [hy])
      · rcases l with _ | ⟨x, _ | ⟨x2, l⟩⟩
        · simp at hl; omega
        · simp at hl; omega
        · refine ⟨.two p x x2 :: l, by simp at hl ⊢; omega, by simpa [Px.flat] using hf, fun y hy => ?_⟩
          rcases List.mem_cons.1 hy with rfl | hy
          · exact ⟨h3, ho x (by simp), ho x2 (by simp)⟩
          · exact ho y (by simp [hy])
theorem nd_zero (es : List Pt) : nd es 0 = es.isEmpty := by cases es <;> simp [nd]
theorem nd_pf : ∀ (es : List Pt) (n i : Int), 1 ≤ n → 0 ≤ i → (nd es n = true ↔ es ≠ [] ∧ pf es n i = i + es.length) := by
  intro es
  induction es with
  | nil => intro n i hn _; simp [nd]; omega
  | cons p r ih =>
    intro n i hn hi
    have hb := fol_bd p
    rw [nd_cons, if_neg (by omega), pf_cons]
    by_cases e : n + (fol p - 1) = 0
    · rw [if_pos e, e, nd_zero]
      cases r with
      | nil => simp
      | cons q r => simp; omega
    · rw [if_neg e, ih _ (i + 1) (by omega) (by omega)]
      cases r with
      | nil => simp [pf]; omega
      | cons q r => simp only [List.length_cons]; constructor
                    · rintro ⟨_, h⟩; exact ⟨by simp, by omega⟩
                    · rintro ⟨_, h⟩; exact ⟨by simp, by omega⟩
theorem pf_flat : ∀ (x : Px) (r : List Pt) (m i : Int), x.ok → 1 ≤ m → pf (x.flat ++ r) m i = if m = 1 then i + x.size else pf r (m - 1) (i + x.size) := by
  intro x
  induction x with
  | leaf p =>
    intro r m i ho hm
    have h0 : fol p = 0 := ho
    show pf (p :: r) m i = _
    rw [pf_cons, h0, show m + (0 - 1) = m - 1 by omega]
    by_cases e : m = 1
    · rw [if_pos (by omega), if_pos e]; rfl
    · rw [if_neg (by omega), if_neg e]; rfl
  | one p a ih =>
    intro r m i ho hm
    obtain ⟨h1, ha⟩ := ho
    show pf (p :: (a.flat ++ r)) m i = _
    rw [pf_cons, h1, if_neg (by omega), show m + (1 - 1) = m by omega, ih r m (i + 1) ha hm]
    have e2 : i + 1 + (a.size : Int) = i + ((Px.one p a).size : Nat) := by simp only [Px.size]; omega
    rw [e2]
  | two p a b iha ihb =>
    intro r m i ho hm
    obtain ⟨h2, ha, hb⟩ := ho
    show pf (p :: ((a.flat ++ b.flat) ++ r)) m i = _
    rw [pf_cons, h2, if_neg (by omega), List.append_assoc, show m + (2 - 1) = m + 1 by omega, iha (b.flat ++ r) (m + 1) (i + 1) ha (by omega), if_neg (by omega), show m + 1 - 1 = m by omega, ihb r m _ hb hm]
    have e2 : i + 1 + (a.size : Int) + (b.size : Int) = i + ((Px.two p a b).size : Nat) := by simp only [Px.size]; omega
    rw [e2]
theorem pf_one {x : Px} (h : x.ok) (r : List Pt) (i : Int) : pf (x.flat ++ r) 1 i = i + x.size := by
  rw [pf_flat x r 1 i h (by omega), if_pos rfl]
theorem pf_pos : ∀ (es : List Pt) (m i : Int), 0 ≤ i → pf es m i = -1 ∨ 1 ≤ pf es m i := by
  intro es
  induction es with
  | nil => intro m i _; exact .inl rfl
  | cons p r ih =>
    intro m i hi
    rw [pf_cons]
    split
    · exact .inr (by omega)
    · exact ih _ _ (by omega)
theorem pf_ne_zero {es : List Pt} {m : Int} {i : Nat} (h : pf es m i = ((0 : Nat) : Int)) : False := by
  have := pf_pos es m i (by omega)
  omega
/-- A part with what its place says of it. -/
structure An where
  p : Pt
  e : Nat
  s : Int
  c : Bool
def Px.ann : Px → Nat → Int → Bool → List An
  | .leaf p, n, s, c => [⟨p, n + 1, s, c⟩]
  | .one p a, n, s, c => ⟨p, n + (1 + a.size), s, c⟩ :: a.ann (n + 1) (s + sm p) (p.k == 1)
  | .two p a b, n, s, c => ⟨p, n + (1 + (a.size + b.size)), s, c⟩ :: (a.ann (n + 1) (s + sm p) (p.k == 1) ++ b.ann (n + 1 + a.size) (s + sm p) (p.k == 1))
theorem Px.ann_len (x : Px) : ∀ (n : Nat) (s : Int) (c : Bool), (x.ann n s c).length = x.size := by
  induction x with
  | leaf p => intro n s c; rfl
  | one p a ih => intro n s c; simp [Px.ann, Px.size, ih]; omega
  | two p a b iha ihb => intro n s c; simp [Px.ann, Px.size, iha, ihb]; omega
theorem Px.ann_part (x : Px) : ∀ (n : Nat) (s : Int) (c : Bool), (x.ann n s c).map An.p = x.flat := by
  induction x with
  | leaf p => intro n s c; rfl
  | one p a ih => intro n s c; simp [Px.ann, Px.flat, ih]
  | two p a b iha ihb => intro n s c; simp [Px.ann, Px.flat, iha, ihb]
theorem Px.ann_first (x : Px) (n : Nat) (s : Int) (c : Bool) : ∃ p r, x.ann n s c = ⟨p, n + x.size, s, c⟩ :: r := by
  cases x with
  | leaf p => exact ⟨p, [], rfl⟩
  | one p a => exact ⟨p, _, rfl⟩
  | two p a b => exact ⟨p, _, rfl⟩
theorem Px.ann_end (x : Px) : ∀ (n : Nat) (s : Int) (c : Bool) (r : List Pt) (i : Nat) (a : An), x.ok → (x.ann n s c)[i]? = some a → pf ((x.flat ++ r).drop i) 1 (n + i : Nat) = a.e := by
  induction x with
  | leaf p =>
    intro n s c r i a ho h
    rcases i with _ | i
    · injection h with h
      subst h
      have := pf_one (x := .leaf p) ho r (n + 0 : Nat)
      rw [List.drop_zero, this]; simp [Px.size]
    · simp [Px.ann] at h
  | one p y ih =>
    intro n s c r i a ho h
    rcases i with _ | i
    · injection h with h
      subst h
      have := pf_one (x := .one p y) ho r (n + 0 : Nat)
      rw [List.drop_zero, this]; simp [Px.size]
    · have h' : (y.ann (n + 1) (s + sm p) (p.k == 1))[i]? = some a := by simpa [Px.ann] using h
      have := ih _ _ _ r i a ho.2 h'
      rw [show n + 1 + i = n + (i + 1) by omega] at this
      simpa [Px.flat] using this
  | two p y z ihy ihz =>
    intro n s c r i a ho h
    rcases i with _ | i
    · injection h with h
      subst h
      have := pf_one (x := .two p y z) ho r (n + 0 : Nat)
      rw [List.drop_zero, this]; simp [Px.size]
    · have h' : (y.ann (n + 1) (s + sm p) (p.k == 1) ++ z.ann (n + 1 + y.size) (s + sm p) (p.k == 1))[i]? = some a := by simpa [Px.ann] using h
      by_cases hi : i < y.size
      · rw [List.getElem?_append_left (by rw [Px.ann_len]; exact hi)] at h'
        have := ihy _ _ _ (z.flat ++ r) i a ho.2.1 h'
        rw [show n + 1 + i = n + (i + 1) by omega] at this
        simpa [Px.flat, List.append_assoc] using this
      · rw [List.getElem?_append_right (by rw [Px.ann_len]; omega), Px.ann_len] at h'
        have := ihz _ _ _ r (i - y.size) a ho.2.2 h'
        rw [show n + 1 + y.size + (i - y.size) = n + (i + 1) by omega] at this
        have e : ((Px.two p y z).flat ++ r).drop (i + 1) = (z.flat ++ r).drop (i - y.size) := by
          simp only [Px.flat, List.cons_append, List.drop_succ_cons, List.append_assoc]
          rw [List.drop_append, List.drop_of_length_le (by rw [Px.flat_len]; omega), List.nil_append, Px.flat_len]
        rw [e]; exact this
theorem Px.ann_le (x : Px) : ∀ (n : Nat) (s : Int) (c : Bool), ∀ a ∈ x.ann n s c, a.e ≤ n + x.size := by
  induction x with
  | leaf p => intro n s c a h; simp [Px.ann] at h; subst h; simp [Px.size]
  | one p y ih =>
    intro n s c a h
    rcases List.mem_cons.1 h with rfl | h
    · simp [Px.size]
    · have := ih _ _ _ a h; simp only [Px.size]; omega
  | two p y z ihy ihz =>
    intro n s c a h
    rcases List.mem_cons.1 h with rfl | h
    · simp [Px.size]
    · rcases List.mem_append.1 h with h | h
      · have := ihy _ _ _ a h; simp only [Px.size]; omega
      · have := ihz _ _ _ a h; simp only [Px.size]; omega
/-- How many sums of a list end behind a place. -/
def sc : List An → Nat → Int
  | [], _ => 0
  | a :: r, n => (if n < a.e then sm a.p else 0) + sc r n
theorem sc_app (l r : List An) (n : Nat) : sc (l ++ r) n = sc l n + sc r n := by
  induction l with
  | nil => simp [sc]
  | cons a l ih => simp only [List.cons_append, sc, ih]; omega
theorem sc_none {l : List An} {n : Nat} (h : ∀ a ∈ l, a.e ≤ n) : sc l n = 0 := by
  induction l with
  | nil => rfl
  | cons a l ih =>
    have h1 := h a (by simp)
    simp only [sc]
    rw [if_neg (by omega), ih fun b hb => h b (by simp [hb])]; rfl
theorem Px.ann_scope (x : Px) : ∀ (n : Nat) (s : Int) (c : Bool) (j : Nat) (a : An), (x.ann n s c)[j]? = some a → a.s = s + sc ((x.ann n s c).take j) (n + j) := by
  induction x with
  | leaf p =>
    intro n s c j a h
    rcases j with _ | j
    · injection h with h
      subst h; simp [sc]
    · simp [Px.ann] at h
  | one p y ih =>
    intro n s c j a h
    rcases j with _ | j
    · injection h with h
      subst h; simp [sc]
    · have h' : (y.ann (n + 1) (s + sm p) (p.k == 1))[j]? = some a := by simpa [Px.ann] using h
      have hj : j < y.size := by rw [← Px.ann_len y (n + 1) (s + sm p) (p.k == 1)]; exact (List.getElem?_eq_some_iff.1 h').1
      have := ih _ _ _ j a h'
      simp only [Px.ann, List.take_succ_cons, sc]
      rw [if_pos (by omega), this, show n + 1 + j = n + (j + 1) by omega]; omega
  | two p y z ihy ihz =>
    intro n s c j a h
    rcases j with _ | j
    · injection h with h
      subst h; simp [sc]
    · have h' : (y.ann (n + 1) (s + sm p) (p.k == 1) ++ z.ann (n + 1 + y.size) (s + sm p) (p.k == 1))[j]? = some a := by simpa [Px.ann] using h
      have hj : j < y.size + z.size := by
        have := (List.getElem?_eq_some_iff.1 h').1
        rw [List.length_append, Px.ann_len, Px.ann_len] at this; exact this
      simp only [Px.ann, List.take_succ_cons, sc]
      rw [if_pos (by omega)]
      by_cases hi : j < y.size
      · rw [List.getElem?_append_left (by rw [Px.ann_len]; exact hi)] at h'
        have := ihy _ _ _ j a h'
        rw [List.take_append_of_le_length (by rw [Px.ann_len]; omega), this, show n + 1 + j = n + (j + 1) by omega]; omega
      · rw [List.getElem?_append_right (by rw [Px.ann_len]; omega), Px.ann_len] at h'
        have := ihz _ _ _ (j - y.size) a h'
        rw [List.take_append, List.take_of_length_le (by rw [Px.ann_len]; omega), Px.ann_len, sc_app, sc_none (fun b hb => by have := Px.ann_le y _ _ _ b hb; omega), this, show n + 1 + y.size + (j - y.size) = n + (j + 1) by omega]; omega
theorem Px.ann_last (x : Px) : ∀ (n : Nat) (s : Int) (c : Bool) (a : An), x.ok → (x.ann n s c)[x.size - 1]? = some a → fol a.p = 0 := by
  induction x with
  | leaf p => intro n s c a ho h; simp [Px.ann, Px.size] at h; subst h; exact ho
  | one p y ih =>
    intro n s c a ho h
    have hp := Px.size_pos y
    refine ih (n + 1) (s + sm p) (p.k == 1) a ho.2 ?_
    have e : (Px.one p y).size - 1 = (y.size - 1) + 1 := by simp only [Px.size]; omega
    rw [e] at h
    simpa [Px.ann] using h
  | two p y z ihy ihz =>
    intro n s c a ho h
    have hp := Px.size_pos y
    have hq := Px.size_pos z
    refine ihz (n + 1 + y.size) (s + sm p) (p.k == 1) a ho.2.2 ?_
    have e : (Px.two p y z).size - 1 = (y.size + (z.size - 1)) + 1 := by simp only [Px.size]; omega
    rw [e] at h
    have h' : (y.ann (n + 1) (s + sm p) (p.k == 1) ++ z.ann (n + 1 + y.size) (s + sm p) (p.k == 1))[y.size + (z.size - 1)]? = some a := by simpa [Px.ann] using h
    rw [List.getElem?_append_right (by rw [Px.ann_len]; omega), Px.ann_len, show y.size + (z.size - 1) - y.size = z.size - 1 by omega] at h'
    exact h'
theorem Px.ann_cont (x : Px) : ∀ (n : Nat) (s : Int) (c : Bool) (j : Nat) (a b : An), x.ok → (x.ann n s c)[j]? = some b → (x.ann n s c)[j + 1]? = some a → a.c = (b.p.k == 1) := by
  induction x with
  | leaf p => intro n s c j a b _ _ h; simp [Px.ann] at h
  | one p y ih =>
    intro n s c j a b ho hb ha
    have ha' : (y.ann (n + 1) (s + sm p) (p.k == 1))[j]? = some a := by simpa [Px.ann] using ha
    rcases j with _ | j
    · injection hb with hb
      subst hb
      obtain ⟨q, r, e⟩ := Px.ann_first y (n + 1) (s + sm p) (p.k == 1)
      rw [e] at ha'
      injection ha' with ha'
      subst ha'; rfl
    · have hb' : (y.ann (n + 1) (s + sm p) (p.k == 1))[j]? = some b := by simpa [Px.ann] using hb
      exact ih _ _ _ j a b ho.2 hb' ha'
  | two p y z ihy ihz =>
    intro n s c j a b ho hb ha
    have hp := Px.size_pos y
    have hk : (p.k == 1) = false := by
      rw [Bool.eq_false_iff]
      intro h
      have := fol_k1 (p := p) (by simpa using h)
      rw [ho.1] at this; omega
    have ha' : (y.ann (n + 1) (s + sm p) (p.k == 1) ++ z.ann (n + 1 + y.size) (s + sm p) (p.k == 1))[j]? = some a := by simpa [Px.ann] using ha
    rcases j with _ | j
    · injection hb with hb
      subst hb
      obtain ⟨q, r, e⟩ := Px.ann_first y (n + 1) (s + sm p) (p.k == 1)
      rw [e] at ha'
      injection ha' with ha'
      subst ha'; rfl
    · have hb' : (y.ann (n + 1) (s + sm p) (p.k == 1) ++ z.ann (n + 1 + y.size) (s + sm p) (p.k == 1))[j]? = some b := by simpa [Px.ann] using hb
      by_cases h1 : j + 1 < y.size
      · rw [List.getElem?_append_left (by rw [Px.ann_len]; omega)] at ha' hb'
        exact ihy _ _ _ j a b ho.2.1 hb' ha'
      · rw [List.getElem?_append_right (by rw [Px.ann_len]; omega), Px.ann_len] at ha'
        by_cases h2 : j + 1 = y.size
        · rw [List.getElem?_append_left (by rw [Px.ann_len]; omega)] at hb'
          have hl := Px.ann_last y _ _ _ b ho.2.1 (by rw [show y.size - 1 = j by omega]; exact hb')
          have hbk : (b.p.k == 1) = false := by
            rw [Bool.eq_false_iff]
            intro h
            have := fol_k1 (p := b.p) (by simpa using h)
            rw [hl] at this; omega
          rw [show j + 1 - y.size = 0 by omega] at ha'
          obtain ⟨q, r, e⟩ := Px.ann_first z (n + 1 + y.size) (s + sm p) (p.k == 1)
          rw [e] at ha'
          injection ha' with ha'
          subst ha'
          rw [hbk]; exact hk
        · rw [List.getElem?_append_right (by rw [Px.ann_len]; omega), Px.ann_len] at hb'
          rw [show j + 1 - y.size = (j - y.size) + 1 by omega] at ha'
          exact ihz _ _ _ (j - y.size) a b ho.2.2 hb' ha'
end Go.Proofs.YthinoagdgbnphaaDoor
