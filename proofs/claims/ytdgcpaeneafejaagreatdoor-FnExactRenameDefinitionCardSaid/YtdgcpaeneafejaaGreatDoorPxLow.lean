/- Bodies as trees: shapes, ends, scopes; plain mathematics. -/
/- Why a part is not valid, and which bodies and definitions are; plain mathematics. -/
/- Shapes and ends of bodies: the model's functions. -/
/- Scopes and kinds of parts: the model's functions. -/
/- Kinds of parts: the model's function. -/
import Derived.WalkKit
import Derived.Lib.Hide
import Derived.Test.YtdgcpaeneafejaaGreatDoorLow
import Derived.Test.YtdgcpaeneafejaaGreatDoorProg
import Derived.ProofKit
import Derived.BigQuiet
import Derived.Outline
import Derived.StillTailTactics
namespace Go.Proofs.YtdgcpaeneafejaaGreatDoor
open Go.RowKit
def fol (p : Pt) : Int := if p.k = 1 ∨ p.k = 3 ∨ p.k = 4 then 1 else if p.k = 2 then 2 else 0
theorem fol_bd (p : Pt) : fol p = 0 ∨ fol p = 1 ∨ fol p = 2 := by unfold fol; split <;> (try split) <;> simp
theorem fol_k1 {p : Pt} (h : p.k = 1) : fol p = 1 := by unfold fol; rw [if_pos (.inl h)]
def sm (p : Pt) : Int := if p.k = 4 then 1 else 0
inductive Px where
  | leaf (p : Pt) : Px
  | one (p : Pt) (a : Px) : Px
  | two (p : Pt) (a b : Px) : Px
def Px.flat : Px → List Pt
  | .leaf p => [p]
  | .one p a => p :: a.flat
  | .two p a b => p :: (a.flat ++ b.flat)
def Px.ok : Px → Prop
  | .leaf p => fol p = 0
  | .one p a => fol p = 1 ∧ a.ok
  | .two p a b => fol p = 2 ∧ a.ok ∧ b.ok
def Px.size : Px → Nat
  | .leaf _ => 1
  | .one _ a => 1 + a.size
  | .two _ a b => 1 + (a.size + b.size)
theorem Px.flat_len (x : Px) : x.flat.length = x.size := by
  induction x with
  | leaf p => rfl
  | one p a ih => simp [Px.flat, Px.size, ih]; omega
  | two p a b iha ihb => simp [Px.flat, Px.size, iha, ihb]; omega
theorem Px.size_pos (x : Px) : 1 ≤ x.size := by cases x <;> simp [Px.size]
/-- Where the first part and all that belong to it end. -/
def pf : List Pt → Int → Int → Int
  | [], _, _ => -1
  | p :: r, m, i => if m + (fol p - 1) = 0 then i + 1 else pf r (m + (fol p - 1)) (i + 1)
theorem pf_cons (p : Pt) (r : List Pt) (m i : Int) : pf (p :: r) m i = if m + (fol p - 1) = 0 then i + 1 else pf r (m + (fol p - 1)) (i + 1) := rfl
/-- The model's look at a shape. -/
def nd : List Pt → Int → Bool
  | [], n => n == 0
  | p :: r, n => if n = 0 then false else nd r (n + (fol p - 1))
theorem nd_cons (p : Pt) (r : List Pt) (n : Int) : nd (p :: r) n = if n = 0 then false else nd r (n + (fol p - 1)) := rfl
theorem nd_parse : ∀ (es : List Pt) (n : Int), nd es n = true → 0 ≤ n → ∃ l : List Px, (l.length : Int) = n ∧ l.flatMap Px.flat = es ∧ ∀ x ∈ l, x.ok := by
  intro es
  induction es with
  | nil =>
    intro n h _
    have : n = 0 := by simpa [nd] using h
    exact ⟨[], by simp [this], rfl, by simp⟩
  | cons p r ih =>
    intro n h hn
    rw [nd_cons] at h
    split at h
    · cases h
    · rename_i hn0
      have hb := fol_bd p
      obtain ⟨l, hl, hf, ho⟩ := ih (n + (fol p - 1)) h (by omega)
      rcases hb with h3 | h3 | h3
      · refine ⟨.leaf p :: l, by simp; omega, by simp [Px.flat, hf], fun x hx => ?_⟩
        rcases List.mem_cons.1 hx with rfl | hx
        · exact h3
        · exact ho x hx
      · rcases l with _ | ⟨x, l⟩
        · simp at hl; omega
        · refine ⟨.one p x :: l, by simp at hl ⊢; omega, by simpa [Px.flat] using hf, fun y hy => ?_⟩
          rcases List.mem_cons.1 hy with rfl | hy
          · exact ⟨h3, ho x (by simp)⟩
          · exact ho y (by simp [hy])
      · rcases l with _ | ⟨x, _ | ⟨x2, l⟩⟩
        · simp at hl; omega
        · simp at hl; omega
        · refine ⟨.two p x x2 :: l, by simp at hl ⊢; omega, by simpa [Px.flat] using hf, fun y hy => ?_⟩
          rcases List.mem_cons.1 hy with rfl | hy
          · exact ⟨h3, ho x (by simp), ho x2 (by simp)⟩
          · exact ho y (by simp [hy])
theorem nd_zero (es : List Pt) : nd es 0 = es.isEmpty := by cases es <;> simp [nd]
theorem nd_pf : ∀ (es : List Pt) (n i : Int), 1 ≤ n → 0 ≤ i → (nd es n = true ↔ es ≠ [] ∧ pf es n i = i + es.length) := by
  intro es
  induction es with
  | nil => intro n i hn _; simp [nd]; omega
  | cons p r ih =>
    intro n i hn hi
    have hb := fol_bd p
    rw [nd_cons, if_neg (by omega), pf_cons]
    by_cases e : n + (fol p - 1) = 0
    · rw [if_pos e, e, nd_zero]
      cases r with
      | nil => simp
      | cons q r => simp; omega
    · rw [if_neg e, ih _ (i + 1) (by omega) (by omega)]
      cases r with
      | nil => simp [pf]; omega
      | cons q r => simp only [List.length_cons]; constructor
                    · rintro ⟨_, h⟩; exact ⟨by simp, by omega⟩
                    · rintro ⟨_, h⟩; exact ⟨by simp, by omega⟩
theorem pf_flat : ∀ (x : Px) (r : List Pt) (m i : Int), x.ok → 1 ≤ m → pf (x.flat ++ r) m i = if m = 1 then i + x.size else pf r (m - 1) (i + x.size) := by
  intro x
  induction x with
  | leaf p =>
    intro r m i ho hm
    have h0 : fol p = 0 := ho
    show pf (p :: r) m i = _
    rw [pf_cons, h0, show m + (0 - 1) = m - 1 by omega]
    by_cases e : m = 1
    · rw [if_pos (by omega), if_pos e]; rfl
    · rw [if_neg (by omega), if_neg e]; rfl
  | one p a ih =>
    intro r m i ho hm
    obtain ⟨h1, ha⟩ := ho
    show pf (p :: (a.flat ++ r)) m i = _
    rw [pf_cons, h1, if_neg (by omega), show m + (1 - 1) = m by omega, ih r m (i + 1) ha hm]
    have e2 : i + 1 + (a.size : Int) = i + ((Px.one p a).size : Nat) := by simp only [Px.size]; omega
    rw [e2]
  | two p a b iha ihb =>
    intro r m i ho hm
    obtain ⟨h2, ha, hb⟩ := ho
    show pf (p :: ((a.flat ++ b.flat) ++ r)) m i = _
    rw [pf_cons, h2, if_neg (by omega), List.append_assoc, show m + (2 - 1) = m + 1 by omega, iha (b.flat ++ r) (m + 1) (i + 1) ha (by omega), if_neg (by omega), show m + 1 - 1 = m by omega, ihb r m _ hb hm]
    have e2 : i + 1 + (a.size : Int) + (b.size : Int) = i + ((Px.two p a b).size : Nat) := by simp only [Px.size]; omega
    rw [e2]
theorem pf_one {x : Px} (h : x.ok) (r : List Pt) (i : Int) : pf (x.flat ++ r) 1 i = i + x.size := by
  rw [pf_flat x r 1 i h (by omega), if_pos rfl]
theorem pf_pos : ∀ (es : List Pt) (m i : Int), 0 ≤ i → pf es m i = -1 ∨ 1 ≤ pf es m i := by
  intro es
  induction es with
  | nil => intro m i _; exact .inl rfl
  | cons p r ih =>
    intro m i hi
    rw [pf_cons]
    split
    · exact .inr (by omega)
    · exact ih _ _ (by omega)
theorem pf_ne_zero {es : List Pt} {m : Int} {i : Nat} (h : pf es m i = ((0 : Nat) : Int)) : False := by
  have := pf_pos es m i (by omega)
  omega
/-- A part with what its place says of it. -/
structure An where
  p : Pt
  e : Nat
  s : Int
  c : Bool
def Px.ann : Px → Nat → Int → Bool → List An
  | .leaf p, n, s, c => [⟨p, n + 1, s, c⟩]
  | .one p a, n, s, c => ⟨p, n + (1 + a.size), s, c⟩ :: a.ann (n + 1) (s + sm p) (p.k == 1)
  | .two p a b, n, s, c => ⟨p, n + (1 + (a.size + b.size)), s, c⟩ :: (a.ann (n + 1) (s + sm p) (p.k == 1) ++ b.ann (n + 1 + a.size) (s + sm p) (p.k == 1))
theorem Px.ann_len (x : Px) : ∀ (n : Nat) (s : Int) (c : Bool), (x.ann n s c).length = x.size := by
  induction x with
  | leaf p => intro n s c; rfl
  | one p a ih => intro n s c; simp [Px.ann, Px.size, ih]; omega
  | two p a b iha ihb => intro n s c; simp [Px.ann, Px.size, iha, ihb]; omega
theorem Px.ann_part (x : Px) : ∀ (n : Nat) (s : Int) (c : Bool), (x.ann n s c).map An.p = x.flat := by
  induction x with
  | leaf p => intro n s c; rfl
  | one p a ih => intro n s c; simp [Px.ann, Px.flat, ih]
  | two p a b iha ihb => intro n s c; simp [Px.ann, Px.flat, iha, ihb]
theorem Px.ann_first (x : Px) (n : Nat) (s : Int) (c : Bool) : ∃ p r, x.ann n s c = ⟨p, n + x.size, s, c⟩ :: r := by
  cases x with
  | leaf p => exact ⟨p, [], rfl⟩
  | one p a => exact ⟨p, _, rfl⟩
  | two p a b => exact ⟨p, _, rfl⟩
theorem Px.ann_end (x : Px) : ∀ (n : Nat) (s : Int) (c : Bool) (r : List Pt) (i : Nat) (a : An), x.ok → (x.ann n s c)[i]? = some a → pf ((x.flat ++ r).drop i) 1 (n + i : Nat) = a.e := by
  induction x with
  | leaf p =>
    intro n s c r i a ho h
    rcases i with _ | i
    · injection h with h
      subst h
      have := pf_one (x := .leaf p) ho r (n + 0 : Nat)
      rw [List.drop_zero, this]; simp [Px.size]
    · simp [Px.ann] at h
  | one p y ih =>
    intro n s c r i a ho h
    rcases i with _ | i
    · injection h with h
      subst h
      have := pf_one (x := .one p y) ho r (n + 0 : Nat)
      rw [List.drop_zero, this]; simp [Px.size]
    · have h' : (y.ann (n + 1) (s + sm p) (p.k == 1))[i]? = some a := by simpa [Px.ann] using h
      have := ih _ _ _ r i a ho.2 h'
      rw [show n + 1 + i = n + (i + 1) by omega] at this
      simpa [Px.flat] using this
  | two p y z ihy ihz =>
    intro n s c r i a ho h
    rcases i with _ | i
    · injection h with h
      subst h
      have := pf_one (x := .two p y z) ho r (n + 0 : Nat)
      rw [List.drop_zero, this]; simp [Px.size]
    · have h' : (y.ann (n + 1) (s + sm p) (p.k == 1) ++ z.ann (n + 1 + y.size) (s + sm p) (p.k == 1))[i]? = some a := by simpa [Px.ann] using h
      by_cases hi : i < y.size
      · rw [List.getElem?_append_left (by rw [Px.ann_len]; exact hi)] at h'
        have := ihy _ _ _ (z.flat ++ r) i a ho.2.1 h'
        rw [show n + 1 + i = n + (i + 1) by omega] at this
        simpa [Px.flat, List.append_assoc] using this
      · rw [List.getElem?_append_right (by rw [Px.ann_len]; omega), Px.ann_len] at h'
        have := ihz _ _ _ r (i - y.size) a ho.2.2 h'
        rw [show n + 1 + y.size + (i - y.size) = n + (i + 1) by omega] at this
        have e : ((Px.two p y z).flat ++ r).drop (i + 1) = (z.flat ++ r).drop (i - y.size) := by
          simp only [Px.flat, List.cons_append, List.drop_succ_cons, List.append_assoc]
          rw [List.drop_append, List.drop_of_length_le (by rw [Px.flat_len]; omega), List.nil_append, Px.flat_len]
        rw [e]; exact this
theorem Px.ann_le (x : Px) : ∀ (n : Nat) (s : Int) (c : Bool), ∀ a ∈ x.ann n s c, a.e ≤ n + x.size := by
  induction x with
  | leaf p => intro n s c a h; simp [Px.ann] at h; subst h; simp [Px.size]
  | one p y ih =>
    intro n s c a h
    rcases List.mem_cons.1 h with rfl | h
    · simp [Px.size]
    · have := ih _ _ _ a h; simp only [Px.size]; omega
  | two p y z ihy ihz =>
    intro n s c a h
    rcases List.mem_cons.1 h with rfl | h
    · simp [Px.size]
    · rcases List.mem_append.1 h with h | h
      · have := ihy _ _ _ a h; simp only [Px.size]; omega
      · have := ihz _ _ _ a h; simp only [Px.size]; omega
/-- How many sums of a list end behind a place. -/
def sc : List An → Nat → Int
  | [], _ => 0
  | a :: r, n => (if n < a.e then sm a.p else 0) + sc r n
theorem sc_app (l r : List An) (n : Nat) : sc (l ++ r) n = sc l n + sc r n := by
  induction l with
  | nil => simp [sc]
  | cons a l ih => simp only [List.cons_append, sc, ih]; omega
theorem sc_none {l : List An} {n : Nat} (h : ∀ a ∈ l, a.e ≤ n) : sc l n = 0 := by
  induction l with
  | nil => rfl
  | cons a l ih =>
    have h1 := h a (by simp)
    simp only [sc]
    rw [if_neg (by omega), ih fun b hb => h b (by simp [hb])]; rfl
theorem Px.ann_scope (x : Px) : ∀ (n : Nat) (s : Int) (c : Bool) (j : Nat) (a : An), (x.ann n s c)[j]? = some a → a.s = s + sc ((x.ann n s c).take j) (n + j) := by
  induction x with
  | leaf p =>
    intro n s c j a h
    rcases j with _ | j
    · injection h with h
      subst h; simp [sc]
    · simp [Px.ann] at h
  | one p y ih =>
    intro n s c j a h
    rcases j with _ | j
    · injection h with h
      subst h; simp [sc]
    · have h' : (y.ann (n + 1) (s + sm p) (p.k == 1))[j]? = some a := by simpa [Px.ann] using h
      have hj : j < y.size := by rw [← Px.ann_len y (n + 1) (s + sm p) (p.k == 1)]; exact (List.getElem?_eq_some_iff.1 h').1
      have := ih _ _ _ j a h'
      simp only [Px.ann, List.take_succ_cons, sc]
      rw [if_pos (by omega), this, show n + 1 + j = n + (j + 1) by omega]; omega
  | two p y z ihy ihz =>
    intro n s c j a h
    rcases j with _ | j
    · injection h with h
      subst h; simp [sc]
    · have h' : (y.ann (n + 1) (s + sm p) (p.k == 1) ++ z.ann (n + 1 + y.size) (s + sm p) (p.k == 1))[j]? = some a := by simpa [Px.ann] using h
      have hj : j < y.size + z.size := by
        have := (List.getElem?_eq_some_iff.1 h').1
        rw [List.length_append, Px.ann_len, Px.ann_len] at this; exact this
      simp only [Px.ann, List.take_succ_cons, sc]
      rw [if_pos (by omega)]
      by_cases hi : j < y.size
      · rw [List.getElem?_append_left (by rw [Px.ann_len]; exact hi)] at h'
        have := ihy _ _ _ j a h'
        rw [List.take_append_of_le_length (by rw [Px.ann_len]; omega), this, show n + 1 + j = n + (j + 1) by omega]; omega
      · rw [List.getElem?_append_right (by rw [Px.ann_len]; omega), Px.ann_len] at h'
        have := ihz _ _ _ (j - y.size) a h'
        rw [List.take_append, List.take_of_length_le (by rw [Px.ann_len]; omega), Px.ann_len, sc_app, sc_none (fun b hb => by have := Px.ann_le y _ _ _ b hb; omega), this, show n + 1 + y.size + (j - y.size) = n + (j + 1) by omega]; omega
theorem Px.ann_last (x : Px) : ∀ (n : Nat) (s : Int) (c : Bool) (a : An), x.ok → (x.ann n s c)[x.size - 1]? = some a → fol a.p = 0 := by
  induction x with
  | leaf p => intro n s c a ho h; simp [Px.ann, Px.size] at h; subst h; exact ho
  | one p y ih =>
    intro n s c a ho h
    have hp := Px.size_pos y
    refine ih (n + 1) (s + sm p) (p.k == 1) a ho.2 ?_
    have e : (Px.one p y).size - 1 = (y.size - 1) + 1 := by simp only [Px.size]; omega
    rw [e] at h
    simpa [Px.ann] using h
  | two p y z ihy ihz =>
    intro n s c a ho h
    have hp := Px.size_pos y
    have hq := Px.size_pos z
    refine ihz (n + 1 + y.size) (s + sm p) (p.k == 1) a ho.2.2 ?_
    have e : (Px.two p y z).size - 1 = (y.size + (z.size - 1)) + 1 := by simp only [Px.size]; omega
    rw [e] at h
    have h' : (y.ann (n + 1) (s + sm p) (p.k == 1) ++ z.ann (n + 1 + y.size) (s + sm p) (p.k == 1))[y.size + (z.size - 1)]? = some a := by simpa [Px.ann] using h
    rw [List.getElem?_append_right (by rw [Px.ann_len]; omega), Px.ann_len, show y.size + (z.size - 1) - y.size = z.size - 1 by omega] at h'
    exact h'
theorem Px.ann_cont (x : Px) : ∀ (n : Nat) (s : Int) (c : Bool) (j : Nat) (a b : An), x.ok → (x.ann n s c)[j]? = some b → (x.ann n s c)[j + 1]? = some a → a.c = (b.p.k == 1) := by
  induction x with
  | leaf p => intro n s c j a b _ _ h; simp [Px.ann] at h
  | one p y ih =>
    intro n s c j a b ho hb ha
    have ha' : (y.ann (n + 1) (s + sm p) (p.k == 1))[j]? = some a := by simpa [Px.ann] using ha
    rcases j with _ | j
    · injection hb with hb
      subst hb
      obtain ⟨q, r, e⟩ := Px.ann_first y (n + 1) (s + sm p) (p.k == 1)
      rw [e] at ha'
      injection ha' with ha'
      subst ha'; rfl
    · have hb' : (y.ann (n + 1) (s + sm p) (p.k == 1))[j]? = some b := by simpa [Px.ann] using hb
      exact ih _ _ _ j a b ho.2 hb' ha'
  | two p y z ihy ihz =>
    intro n s c j a b ho hb ha
    have hp := Px.size_pos y
    have hk : (p.k == 1) = false := by
      rw [Bool.eq_false_iff]
      intro h
      have := fol_k1 (p := p) (by simpa using h)
      rw [ho.1] at this; omega
    have ha' : (y.ann (n + 1) (s + sm p) (p.k == 1) ++ z.ann (n + 1 + y.size) (s + sm p) (p.k == 1))[j]? = some a := by simpa [Px.ann] using ha
    rcases j with _ | j
    · injection hb with hb
      subst hb
      obtain ⟨q, r, e⟩ := Px.ann_first y (n + 1) (s + sm p) (p.k == 1)
      rw [e] at ha'
      injection ha' with ha'
      subst ha'; rfl
    · have hb' : (y.ann (n + 1) (s + sm p) (p.k == 1) ++ z.ann (n + 1 + y.size) (s + sm p) (p.k == 1))[j]? = some b := by simpa [Px.ann] using hb
      by_cases h1 : j + 1 < y.size
      · rw [List.getElem?_append_left (by rw [Px.ann_len]; omega)] at ha' hb'
        exact ihy _ _ _ j a b ho.2.1 hb' ha'
      · rw [List.getElem?_append_right (by rw [Px.ann_len]; omega), Px.ann_len] at ha'
        by_cases h2 : j + 1 = y.size
        · rw [List.getElem?_append_left (by rw [Px.ann_len]; omega)] at hb'
          have hl := Px.ann_last y _ _ _ b ho.2.1 (by rw [show y.size - 1 = j by omega]; exact hb')
          have hbk : (b.p.k == 1) = false := by
            rw [Bool.eq_false_iff]
            intro h
            have := fol_k1 (p := b.p) (by simpa using h)
            rw [hl] at this; omega
          rw [show j + 1 - y.size = 0 by omega] at ha'
          obtain ⟨q, r, e⟩ := Px.ann_first z (n + 1 + y.size) (s + sm p) (p.k == 1)
          rw [e] at ha'
          injection ha' with ha'
          subst ha'
          rw [hbk]; exact hk
        · rw [List.getElem?_append_right (by rw [Px.ann_len]; omega), Px.ann_len] at hb'
          rw [show j + 1 - y.size = (j - y.size) + 1 by omega] at ha'
          exact ihz _ _ _ (j - y.size) a b ho.2.2 hb' ha'
end Go.Proofs.YtdgcpaeneafejaaGreatDoor

namespace Go.Proofs.YtdgcpaeneafejaaGreatDoor
open Go.RowKit
def emB (t : ByteArray) : Bool := t.size == 0
def kindB (p : Pt) : Bool :=
  if p.k = 0 ∨ p.k = 2 then (p.n == 0 && (emB p.nm && p.args.length == 0))
  else if p.k = 1 then p.n == 0
  else if p.k = 3 then (p.n == 0 && emB p.nm)
  else if p.k = 4 then (emB p.nm && p.args.length == 0)
  else if p.k = 5 then emB p.nm
  else false
noncomputable def nmB (p : Pt) : Bool := if p.k = 1 then nameB p.nm.data.toList else true
def numB (ls : List Df) (p : Pt) : Bool := if p.k = 4 then decide (1 ≤ p.n ∧ p.n ≤ 7) else if p.k = 5 then decide (0 ≤ p.n ∧ p.n < ls.length) else true
def cntB (ls : List Df) (p : Pt) : Bool :=
  if p.k = 1 then (p.args.length == 0 || (!(p.nm.toList == [116, 97, 117]) && decide (p.args.length ≤ 2)))
  else if p.k = 3 then p.args.length == 1
  else if p.k = 5 then decide ((p.args.length : Int) = (ls.getD p.n.toNat default).ps)
  else true
def trmB (s : Int) (ts : List (List Tm)) : Bool := ts.all (exB s 15)
/-- The first reason why a part is not valid in its place; 0 if there is none. -/
noncomputable def rsn (ls : List Df) (a : An) : Int :=
  if kindB a.p = false then 2
  else if nmB a.p = false then 3
  else if numB ls a.p = false then 4
  else if cntB ls a.p = false then 5
  else if a.p.k = 5 ∧ a.c = false then 6
  else if a.p.k = 4 ∧ 6 ≤ a.s then 7
  else if trmB a.s a.p.args = false then 8
  else 0
noncomputable def firstR (ls : List Df) : List An → Int → Int × Int
  | [], _ => (0, 0)
  | a :: r, i => if rsn ls a = 0 then firstR ls r (i + 1) else (i, rsn ls a)
def shapeB (es : List Pt) : Bool := decide (es.length ≤ 20) && nd es 1
theorem shape_parse {es : List Pt} (h : shapeB es = true) : ∃ x : Px, x.flat = es ∧ x.ok ∧ x.size ≤ 20 := by
  unfold shapeB at h
  rw [Bool.and_eq_true] at h
  obtain ⟨l, hl, hf, ho⟩ := nd_parse es 1 h.2 (by omega)
  have h1 := of_decide_eq_true h.1
  rcases l with _ | ⟨x, _ | ⟨y, l⟩⟩
  · simp at hl
  · have e : x.flat = es := by simpa using hf
    exact ⟨x, e, ho x (by simp), by rw [← Px.flat_len, e]; exact h1⟩
  · simp at hl; omega
/-- The tree of a body. -/
noncomputable def pxOf (es : List Pt) : Px := by classical exact if h : ∃ x : Px, x.flat = es ∧ x.ok ∧ x.size ≤ 20 then Classical.choose h else .leaf ⟨0, 0, ⟨#[]⟩, []⟩
theorem pxOf_ok {es : List Pt} (h : shapeB es = true) : (pxOf es).flat = es ∧ (pxOf es).ok ∧ (pxOf es).size ≤ 20 := by
  have hx := shape_parse h
  unfold pxOf
  rw [dif_pos hx]
  exact Classical.choose_spec hx
/-- The parts of a body with what their places say of them. -/
noncomputable def annOf (d : Df) : List An := (pxOf d.body).ann 0 d.ps false
theorem annOf_len {d : Df} (h : shapeB d.body = true) : (annOf d).length = d.body.length := by
  unfold annOf; rw [Px.ann_len, ← Px.flat_len, (pxOf_ok h).1]
theorem annOf_part {d : Df} (h : shapeB d.body = true) {i : Nat} {a : An} (ha : (annOf d)[i]? = some a) : d.body[i]? = some a.p := by
  have e := Px.ann_part (pxOf d.body) 0 d.ps false
  rw [(pxOf_ok h).1] at e
  rw [← e, List.getElem?_map]
  unfold annOf at ha
  rw [ha]; rfl
theorem annOf_end {d : Df} (h : shapeB d.body = true) {i : Nat} {a : An} (ha : (annOf d)[i]? = some a) : pf (d.body.drop i) 1 i = a.e := by
  have := Px.ann_end (pxOf d.body) 0 d.ps false [] i a (pxOf_ok h).2.1 ha
  rw [List.append_nil, (pxOf_ok h).1, Nat.zero_add] at this
  exact this
theorem annOf_scope {d : Df} (_h : shapeB d.body = true) {i : Nat} {a : An} (ha : (annOf d)[i]? = some a) : a.s = d.ps + sc ((annOf d).take i) i := by
  have := Px.ann_scope (pxOf d.body) 0 d.ps false i a ha
  rw [Nat.zero_add] at this
  exact this
theorem annOf_le {d : Df} (h : shapeB d.body = true) {a : An} (ha : a ∈ annOf d) : a.e ≤ d.body.length := by
  have := Px.ann_le (pxOf d.body) 0 d.ps false a ha
  rw [Nat.zero_add, ← Px.flat_len, (pxOf_ok h).1] at this
  exact this
/-- Directly behind an action? -/
def behind (d : Df) : Nat → Bool
  | 0 => false
  | j + 1 => match d.body[j]? with | some q => q.k == 1 | none => false
theorem annOf_cont {d : Df} (h : shapeB d.body = true) {i : Nat} {a : An} (ha : (annOf d)[i]? = some a) : a.c = behind d i := by
  rcases i with _ | j
  · obtain ⟨p, r, e⟩ := Px.ann_first (pxOf d.body) 0 d.ps false
    unfold annOf at ha
    rw [e] at ha
    injection ha with ha
    subst ha; rfl
  · have hlt := (List.getElem?_eq_some_iff.1 ha).1
    obtain ⟨b, hb⟩ : ∃ b, (annOf d)[j]? = some b := ⟨_, List.getElem?_eq_getElem (by omega)⟩
    have hp := annOf_part h hb
    show a.c = match d.body[j]? with | some q => q.k == 1 | none => false
    rw [hp]
    exact Px.ann_cont (pxOf d.body) 0 d.ps false j a b (pxOf_ok h).2.1 hb ha
theorem sc_bd (l : List An) (n : Nat) : 0 ≤ sc l n ∧ sc l n ≤ l.length := by
  induction l with
  | nil => simp [sc]
  | cons a l ih =>
    simp only [sc, List.length_cons]
    have : 0 ≤ sm a.p ∧ sm a.p ≤ 1 := by unfold sm; split <;> omega
    split <;> omega
theorem annOf_sbd {d : Df} (h : shapeB d.body = true) (h0 : 0 ≤ d.ps) (h3 : d.ps ≤ 3) {i : Nat} {a : An} (ha : (annOf d)[i]? = some a) : 0 ≤ a.s ∧ a.s ≤ 23 := by
  have e := annOf_scope h ha
  have hlt := (List.getElem?_eq_some_iff.1 ha).1
  rw [annOf_len h] at hlt
  have hb := sc_bd ((annOf d).take i) i
  rw [List.length_take] at hb
  have h20 := (pxOf_ok h).2.2
  rw [← Px.flat_len, (pxOf_ok h).1] at h20
  omega
/-- The first part of a body that is not valid, and the reason. -/
noncomputable def bodyF (ls : List Df) (d : Df) : Int × Int := if shapeB d.body = true then firstR ls (annOf d) 0 else (0, 1)
theorem firstR_drop {ls : List Df} {l : List An} : ∀ {k : Nat} {a : An} (i : Int), l[k]? = some a → firstR ls (l.drop k) i = if rsn ls a = 0 then firstR ls (l.drop (k + 1)) (i + 1) else (i, rsn ls a) := by
  intro k a i h
  obtain ⟨hlt, e⟩ := List.getElem?_eq_some_iff.1 h
  rw [List.drop_eq_getElem_cons hlt, e]; rfl
theorem rsn_nonneg (ls : List Df) (a : An) : 0 ≤ rsn ls a := by
  unfold rsn
  repeat' split
  all_goals omega
/-- Definitions whose parameters are counted well, with names that differ. -/
noncomputable def headB (ls : List Df) : Bool := ls.all fun d => nameB d.nm.data.toList && decide (0 ≤ d.ps ∧ d.ps ≤ 3)
def diffB : List Df → Bool
  | [] => true
  | d :: r => r.all (fun q => !(q.nm.toList == d.nm.toList)) && diffB r
noncomputable def vdB (ls : List Df) : Bool := decide (1 ≤ ls.length ∧ ls.length ≤ 4) && (headB ls && (diffB ls && ls.all fun d => (bodyF ls d).2 == 0))
end Go.Proofs.YtdgcpaeneafejaaGreatDoor

namespace Go.Proofs.YtdgcpaeneafejaaGreatDoor
open Go.RowKit
def folK (k : Int) : Int := if k = 1 ∨ k = 3 ∨ k = 4 then 1 else if k = 2 then 2 else 0
theorem fol_folK (p : Pt) : fol p = folK p.k := rfl
set_option maxHeartbeats 800000 in
theorem specFollow_any (b o : Nat) (k : Int) (w : World) (h : w.cell? ⟨b, o, none⟩ = some (.int .i64 k)) :
    Calls Tryz.prog 165 #[.pointer (some ⟨b, o, none⟩)] w fun e w' => e = .returned (.int .i64 (folK k)) ∧ Drawn w w' := by
  have hk : k = 1 ∨ k = 3 ∨ k = 4 ∨ k = 2 ∨ (k ≠ 1 ∧ k ≠ 3 ∧ k ≠ 4 ∧ k ≠ 2) := by omega
  rcases hk with rfl | rfl | rfl | rfl | ⟨h1, h2, h3, h4⟩
  · go_enter Tryz.func165, Tryz.ntmps165
    go_wp2
    go_ret
    exact ⟨rfl, by first | exact Drawn.refl _ | exact (Drawn.refl _).drew⟩
  · go_enter Tryz.func165, Tryz.ntmps165
    go_wp2
    go_ret
    exact ⟨rfl, by first | exact Drawn.refl _ | exact (Drawn.refl _).drew⟩
  · go_enter Tryz.func165, Tryz.ntmps165
    go_wp2
    go_ret
    exact ⟨rfl, by first | exact Drawn.refl _ | exact (Drawn.refl _).drew⟩
  · go_enter Tryz.func165, Tryz.ntmps165
    go_wp2
    go_ret
    exact ⟨rfl, by first | exact Drawn.refl _ | exact (Drawn.refl _).drew⟩
  · have HF := Lib.hid (show folK k = 0 by unfold folK; rw [if_neg (by omega), if_neg (by omega)])
    have e1 : (k == 1) = false := ib_ne h1
    have e2 : (k == 3) = false := ib_ne h2
    have e3 : (k == 4) = false := ib_ne h3
    have e4 : (k == 2) = false := ib_ne h4
    go_enter Tryz.func165, Tryz.ntmps165
    go_wp2
    go_ret
    exact ⟨by rw [HF.out]; rfl, by first | exact Drawn.refl _ | exact (Drawn.refl _).drew⟩
set_option maxRecDepth 100000 in
set_option maxHeartbeats 1600000 in
theorem specShape_any (A : Option Addr) (n c : Nat) (xs : List Pt) (w : World) (S : Nat → Prop) (h : LRow ptR w S A xs) (l : xs.length = n) :
    Calls Tryz.prog 155 #[.slice A n c] w fun e w' => e = .returned (.bool (shapeB xs)) ∧ Drawn w w' := by
  have L := Lib.hid l
  by_cases h0 : n = 0
  · have HF := Lib.hid (show shapeB xs = false by rw [List.eq_nil_of_length_eq_zero (l.trans h0)]; rfl)
    have e0 : ((n : Int) == 0) = true := ib_eq (by omega)
    clear l h0
    go_enter Tryz.func155, Tryz.ntmps155
    go_wp2
    go_ret
    exact ⟨ret_bool HF.out.symm, by first | exact Drawn.refl _ | exact (Drawn.refl _).drew⟩
  have e0 : ((n : Int) == 0) = false := ib_ne (by omega)
  by_cases h20 : 20 < n
  · have HF := Lib.hid (show shapeB xs = false by unfold shapeB; rw [decide_eq_false (by omega)]; rfl)
    have e20 : (20 : Int) < (n : Int) := by omega
    clear l h0
    go_enter Tryz.func155, Tryz.ntmps155
    go_wp2
    go_ret
    exact ⟨ret_bool HF.out.symm, by first | exact Drawn.refl _ | exact (Drawn.refl _).drew⟩
  have e20 : ¬ (20 : Int) < (n : Int) := by omega
  have HSH := Lib.hid (show shapeB xs = nd xs 1 by unfold shapeB; rw [decide_eq_true (by omega)]; rfl)
  clear l h0
  go_enter Tryz.func155, Tryz.ntmps155
  go_wp2
  go_loopw [3, 4] (fun m i wr => ∃ (k : Nat) (q : Int), k ≤ n ∧ i = .int .i64 k ∧ m = .int .i64 q ∧ 0 ≤ q ∧ q ≤ 1 + k ∧ Hid (Drawn w wr) ∧ Hid (nd xs 1 = nd (xs.drop k) q)) (fun _ i _ => n - (intOf i).toNat)
  case atStart => exact ⟨0, 1, Nat.zero_le _, rfl, rfl, by omega, by omega, Lib.hid (Drawn.refl _), Lib.hid (by rw [List.drop_zero])⟩
  case round =>
    obtain ⟨k, q, hk, rfl, rfl, hq0, hq1, HD, HE⟩ := hrel
    by_cases hlt : k < n
    · obtain ⟨b1, o1, cs1, x, rfl, hb1, hR1, hx, hc1⟩ := (h.keep (SameOn.of_drawn HD.out)).at_ (k := k) (by rw [L.out]; exact hlt)
      obtain ⟨B1, d1, rfl, hz1, hlc1, hcm1, hr1⟩ := hR1
      have hD : xs.drop k = x :: xs.drop (k + 1) := by
        obtain ⟨hl', e⟩ := List.getElem?_eq_some_iff.1 hx.out
        rw [List.drop_eq_getElem_cons hl', e]
      by_cases hq : q = 0
      · have HF := Lib.hid (show shapeB xs = false by rw [HSH.out, HE.out, hD, hq, nd_cons, if_pos rfl])
        have eq0 : (q == 0) = true := ib_eq hq
        clear hc1 hr1 hD hz1 hlc1 hcm1 hq
        go_wp2
        go_ret
        exact ⟨ret_bool HF.out.symm, HD.out⟩
      · have eq0 : (q == 0) = false := ib_ne hq
        have hN := Lib.hid (show nd xs 1 = nd (xs.drop (k + 1)) (q + (folK x.k - 1)) by rw [HE.out, hD, nd_cons, if_neg hq]; rfl)
        have hfb := fol_bd x
        rw [fol_folK] at hfb
        obtain ⟨f, hf⟩ : ∃ f, f = folK x.k := ⟨_, rfl⟩
        rw [← hf] at hfb hN
        have p0 : wr.drew.cell? ⟨b1, o1 + k * 4, none⟩ = some (.int .i64 x.k) := hc1 0 _ rfl
        have p1 : wr.cell? ⟨b1, o1 + k * 4, none⟩ = some (.int .i64 x.k) := hc1 0 _ rfl
        have CF := fun (W : World) (hW : W.cell? ⟨b1, o1 + k * 4, none⟩ = some (.int .i64 x.k)) => specFollow_any b1 (o1 + k * 4) x.k W hW
        rw [← hf] at CF
        have C := Lib.hid CF
        have HDD := Lib.hid HD.out.drew
        have hqp : 1 ≤ q := by omega
        have hf0 : 0 ≤ f := by omega
        have hf2 : f ≤ 2 := by omega
        clear hc1 hr1 hD hz1 hlc1 hcm1 hq hf CF hfb p0
        go_wp2_with (go_at_call 165; refine (C.out _ (by first | exact p1)).mono ?_; rintro e w2 ⟨rfl, hd⟩; have HD2 := Lib.hid (HD.out.trans hd); clear hd)
        go_roundw
        case rel => exact ⟨k + 1, q + (f - 1), by omega, by go_num, rfl, by omega, by omega, HD2, hN⟩
        case measure => simp [intOf]; omega
    · obtain rfl : k = n := by omega
      have HF := Lib.hid (show shapeB xs = (q == 0) by rw [HSH.out, HE.out, List.drop_of_length_le (by rw [L.out]; exact Nat.le_refl _)]; rfl)
      go_wp2
      go_ret
      exact ⟨ret_bool HF.out.symm, HD.out⟩
/-- The model's walk to the end of a part: where it stands. -/
theorem pf_step {xs : List Pt} {k : Nat} {m : Int} {x : Pt} (hx : xs[k]? = some x) : pf (xs.drop k) m k = if m + (fol x - 1) = 0 then (k : Int) + 1 else pf (xs.drop (k + 1)) (m + (fol x - 1)) ((k + 1 : Nat) : Int) := by
  obtain ⟨hlt, e⟩ := List.getElem?_eq_some_iff.1 hx
  rw [List.drop_eq_getElem_cons hlt, e, pf_cons]; rfl
theorem pf_none {xs : List Pt} {k : Nat} {m i : Int} (hk : xs.length ≤ k) : pf (xs.drop k) m i = -1 := by rw [List.drop_of_length_le hk]; rfl
set_option maxRecDepth 100000 in
set_option maxHeartbeats 1600000 in
theorem specEnd_any (A : Option Addr) (n c : Nat) (xs : List Pt) (i0 : Nat) (en : Int) (w : World) (S : Nat → Prop) (h : LRow ptR w S A xs) (l : xs.length = n) (h20 : n ≤ 20) (he : pf (xs.drop i0) 1 i0 = en) (hp : 0 < en) (hi0 : i0 ≤ 20) :
    Calls Tryz.prog 151 #[.slice A n c, .int .i64 i0] w fun e w' => e = .returned (.int .i64 en) ∧ Drawn w w' := by
  have L := Lib.hid l
  clear l
  go_enter Tryz.func151, Tryz.ntmps151
  go_wp2
  go_loopw [1, 5] (fun i m wr => ∃ (k : Nat) (q : Int), k ≤ 20 ∧ i = .int .i64 k ∧ m = .int .i64 q ∧ 0 ≤ q ∧ q ≤ 1 + k ∧ Hid (Drawn w wr) ∧ Hid ((q = 0 ∧ en = k) ∨ (1 ≤ q ∧ pf (xs.drop k) q k = en))) (fun i _ _ => 21 - (intOf i).toNat)
  case atStart => exact ⟨i0, 1, hi0, rfl, rfl, by omega, by omega, Lib.hid (Drawn.refl _), Lib.hid (.inr ⟨by omega, he⟩)⟩
  case round =>
    obtain ⟨k, q, hk, rfl, rfl, hq0, hq1, HD, HE⟩ := hrel
    rcases HE.out with ⟨hq, hen⟩ | ⟨hq, hpf⟩
    · subst hq
      subst hen
      clear HE
      go_wp2
      go_ret
      exact ⟨rfl, HD.out⟩
    · have hlt : k < n := by
        rcases Nat.lt_or_ge k n with hlt | hge
        · exact hlt
        · rw [pf_none (by rw [L.out]; exact hge)] at hpf
          omega
      obtain ⟨b1, o1, cs1, x, rfl, hb1, hR1, hx, hc1⟩ := (h.keep (SameOn.of_drawn HD.out)).at_ (k := k) (by rw [L.out]; exact hlt)
      obtain ⟨B1, d1, rfl, hz1, hlc1, hcm1, hr1⟩ := hR1
      rw [pf_step hx.out, fol_folK] at hpf
      have hfb := fol_bd x
      rw [fol_folK] at hfb
      obtain ⟨f, hf⟩ : ∃ f, f = folK x.k := ⟨_, rfl⟩
      rw [← hf] at hfb hpf
      have p1 : wr.cell? ⟨b1, o1 + k * 4, none⟩ = some (.int .i64 x.k) := hc1 0 _ rfl
      have CF := fun (W : World) (hW : W.cell? ⟨b1, o1 + k * 4, none⟩ = some (.int .i64 x.k)) => specFollow_any b1 (o1 + k * 4) x.k W hW
      rw [← hf] at CF
      have C := Lib.hid CF
      have hf0 : 0 ≤ f := by omega
      have hf2 : f ≤ 2 := by omega
      have HN := Lib.hid (show (q + (f - 1) = 0 ∧ en = ((k + 1 : Nat) : Int)) ∨ (1 ≤ q + (f - 1) ∧ pf (xs.drop (k + 1)) (q + (f - 1)) ((k + 1 : Nat) : Int) = en) by
        by_cases e : q + (f - 1) = 0
        · rw [if_pos e] at hpf; exact .inl ⟨e, by omega⟩
        · rw [if_neg e] at hpf; exact .inr ⟨by omega, hpf⟩)
      have hqp : 0 < q := by omega
      clear hc1 hr1 hz1 hlc1 hcm1 hf CF hfb hpf HE hq
      go_wp2_with (go_at_call 165; refine (C.out _ (by first | exact p1)).mono ?_; rintro e w2 ⟨rfl, hd⟩; have HD2 := Lib.hid (HD.out.trans hd); clear hd)
      go_roundw
      case rel => exact ⟨k + 1, q + (f - 1), by omega, by go_num, rfl, by omega, by omega, HD2, HN⟩
      case measure => simp [intOf]; omega
end Go.Proofs.YtdgcpaeneafejaaGreatDoor

namespace Go.Proofs.YtdgcpaeneafejaaGreatDoor
open Go.RowKit
theorem sc_step {l : List An} {i : Nat} {a : An} {n : Nat} (h : l[i]? = some a) : sc (l.take (i + 1)) n = sc (l.take i) n + (if n < a.e then sm a.p else 0) := by
  obtain ⟨hlt, e⟩ := List.getElem?_eq_some_iff.1 h
  rw [List.take_succ_eq_append_getElem hlt, sc_app, e]
  simp [sc]
set_option maxRecDepth 100000 in
set_option maxHeartbeats 1600000 in
theorem specScope_any (bd od : Nat) (d : Df) (B : Option Addr) (cb part : Nat) (a : An) (w : World) (S : Nat → Prop) (c1 : w.cell? ⟨bd, od + 1, none⟩ = some (.int .i64 d.ps)) (c2 : w.cell? ⟨bd, od + 2, none⟩ = some (.slice B d.body.length cb)) (h : LRow ptR w S B d.body) (sh : shapeB d.body = true) (p0 : 0 ≤ d.ps) (p3 : d.ps ≤ 3) (ha : (annOf d)[part]? = some a) :
    Calls Tryz.prog 128 #[.pointer (some ⟨bd, od, none⟩), .int .i64 part] w fun e w' => e = .returned (.int .i64 a.s) ∧ Drawn w w' := by
  have HA := Lib.hid ha
  have SH := Lib.hid sh
  have h20 : d.body.length ≤ 20 := by have := (pxOf_ok sh).2.2; rw [← Px.flat_len, (pxOf_ok sh).1] at this; exact this
  have hpl : part < d.body.length := by have := (List.getElem?_eq_some_iff.1 ha).1; rwa [annOf_len sh] at this
  clear ha sh
  go_enter Tryz.func128, Tryz.ntmps128
  go_wp2
  go_loopw [5, 6] (fun r i wr => ∃ (k : Nat) (q : Int), k ≤ part ∧ i = .int .i64 k ∧ r = .int .i64 q ∧ d.ps ≤ q ∧ q ≤ d.ps + k ∧ Hid (Drawn w wr) ∧ Hid (q = d.ps + sc ((annOf d).take k) part)) (fun _ i _ => part - (intOf i).toNat)
  case atStart => exact ⟨0, d.ps, Nat.zero_le _, rfl, rfl, by omega, by omega, Lib.hid (Drawn.refl _), Lib.hid (by simp [sc])⟩
  case round =>
    obtain ⟨k, q, hk, rfl, rfl, hq0, hq1, HD, HE⟩ := hrel
    by_cases hlt : k < part
    · obtain ⟨b1, o1, cs1, x, rfl, hb1, hR1, hx, hc1⟩ := (h.keep (SameOn.of_drawn HD.out)).at_ (k := k) (by omega)
      obtain ⟨B1, d1, rfl, hz1, hlc1, hcm1, hr1⟩ := hR1
      have p1 : wr.cell? ⟨b1, o1 + k * 4, none⟩ = some (.int .i64 x.k) := hc1 0 _ rfl
      have hkb : k < d.body.length := by omega
      have C1 : wr.cell? ⟨bd, od + 1, none⟩ = some (.int .i64 d.ps) := (SameOn.of_drawn (S := fun _ => True) HD.out bd (od + 1) trivial).trans c1
      have C2 : wr.cell? ⟨bd, od + 2, none⟩ = some (.slice (some ⟨b1, o1, none⟩) d.body.length cb) := (SameOn.of_drawn (S := fun _ => True) HD.out bd (od + 2) trivial).trans c2
      obtain ⟨b, hb⟩ : ∃ b, (annOf d)[k]? = some b := ⟨_, List.getElem?_eq_getElem (by rw [annOf_len SH.out]; omega)⟩
      have hbx : b.p = x := by have := (annOf_part SH.out hb).symm.trans hx.out; injection this
      have hst := sc_step (n := part) hb
      rw [hbx] at hst
      have hen := annOf_end SH.out hb
      have hbe : b.e ≤ d.body.length := annOf_le SH.out (List.mem_of_getElem? hb)
      have hep : 0 < (b.e : Int) := by
        rcases Nat.eq_zero_or_pos b.e with e | e
        · exfalso
          have hs := Px.ann_end (pxOf d.body) 0 d.ps false [] k b (pxOf_ok SH.out).2.1 hb
          have hx2 := annOf_scope SH.out hb
          rw [List.append_nil, (pxOf_ok SH.out).1, Nat.zero_add] at hs
          rw [e] at hs
          exact pf_ne_zero hs
        · omega
      have CE := Lib.hid (specEnd_any (some ⟨b1, o1, none⟩) d.body.length cb d.body k b.e wr S (h.keep (SameOn.of_drawn HD.out)) rfl h20 hen hep (by omega))
      clear hc1 hr1 hz1 hlc1 hcm1 hb hen
      by_cases h4 : x.k = 4
      · have e4 : (x.k == 4) = true := ib_eq h4
        have hsm : sm x = 1 := by unfold sm; rw [if_pos h4]
        rw [hsm] at hst
        by_cases hgt : part < b.e
        · rw [if_pos hgt] at hst
          have HN := Lib.hid (show q + 1 = d.ps + sc ((annOf d).take (k + 1)) part by rw [hst, HE.out]; omega)
          have hg : (part : Int) < (b.e : Int) := by omega
          clear hst hsm h4
          go_wp2_with (go_at_call 151; refine CE.out.mono ?_; rintro e w2 ⟨rfl, hd⟩; have HD2 := Lib.hid (HD.out.trans hd); clear hd)
          go_roundw
          case rel => exact ⟨k + 1, q + 1, by omega, by go_num, rfl, by omega, by omega, HD2, HN⟩
          case measure => simp [intOf]; omega
        · rw [if_neg hgt] at hst
          have HN := Lib.hid (show q = d.ps + sc ((annOf d).take (k + 1)) part by rw [hst, HE.out]; omega)
          have hg : ¬ (part : Int) < (b.e : Int) := by omega
          clear hst hsm h4
          go_wp2_with (go_at_call 151; refine CE.out.mono ?_; rintro e w2 ⟨rfl, hd⟩; have HD2 := Lib.hid (HD.out.trans hd); clear hd)
          go_roundw
          case rel => exact ⟨k + 1, q, by omega, by go_num, rfl, by omega, by omega, HD2, HN⟩
          case measure => simp [intOf]; omega
      · have e4 : (x.k == 4) = false := ib_ne h4
        have hsm : sm x = 0 := by unfold sm; rw [if_neg h4]
        have HN := Lib.hid (show q = d.ps + sc ((annOf d).take (k + 1)) part by rw [hst, hsm, HE.out]; split <;> omega)
        clear hst hsm h4
        go_wp2
        go_roundw
        case rel => exact ⟨k + 1, q, by omega, by go_num, rfl, by omega, by omega, HD, HN⟩
        case measure => simp [intOf]; omega
    · obtain rfl : k = part := by omega
      have HF := Lib.hid (show q = a.s by rw [annOf_scope SH.out HA.out]; exact HE.out)
      go_wp2
      go_ret
      exact ⟨by rw [← HF.out]; rfl, HD.out⟩
end Go.Proofs.YtdgcpaeneafejaaGreatDoor

namespace Go.Proofs.YtdgcpaeneafejaaGreatDoor
open Go.RowKit
theorem em_list (t : ByteArray) : t.toList.isEmpty = emB t := by
  unfold emB
  rw [ByteArray.toList_eq]
  have : t.size = t.data.toList.length := (Array.length_toList).symm
  rw [this]
  cases t.data.toList <;> simp
set_option maxRecDepth 100000 in
set_option maxHeartbeats 3200000 in
theorem specKind_any (b o : Nat) (x : Pt) (B : Option Addr) (c : Nat) (w : World) (k0 : w.cell? ⟨b, o, none⟩ = some (.int .i64 x.k)) (k1 : w.cell? ⟨b, o + 1, none⟩ = some (.int .i64 x.n)) (k2 : w.cell? ⟨b, o + 2, none⟩ = some (.string x.nm)) (k3 : w.cell? ⟨b, o + 3, none⟩ = some (.slice B x.args.length c)) :
    Calls Tryz.prog 168 #[.pointer (some ⟨b, o, none⟩)] w fun e w' => e = .returned (.bool (kindB x)) ∧ Drawn w w' := by
  obtain ⟨k, hk⟩ : ∃ k, k = x.k := ⟨_, rfl⟩
  have hem := em_list x.nm
  have hln : ((x.args.length : Int) == 0) = (x.args.length == 0) := by
    rcases Nat.eq_zero_or_pos x.args.length with e | e
    · rw [e]; rfl
    · have h1 : ((x.args.length : Int) == 0) = false := ib_ne (by omega)
      have h2 : (x.args.length == 0) = false := by simp; intro h; rw [h] at e; simp at e
      rw [h1, h2]
  rw [← hk] at k0
  have hc : k = 0 ∨ k = 1 ∨ k = 2 ∨ k = 3 ∨ k = 4 ∨ k = 5 ∨ (k ≠ 0 ∧ k ≠ 1 ∧ k ≠ 2 ∧ k ≠ 3 ∧ k ≠ 4 ∧ k ≠ 5) := by omega
  rcases hc with rfl | rfl | rfl | rfl | rfl | rfl | ⟨h0, h1, h2, h3, h4, h5⟩
  · rcases tn : (x.n == 0) with _ | _
    · have HF := Lib.hid (show kindB x = false by unfold kindB; rw [← hk]; simp [tn])
      clear hk
      go_enter Tryz.func168, Tryz.ntmps168
      go_wp2
      go_ret
      exact ⟨ret_bool HF.out.symm, by first | exact Drawn.refl _ | exact (Drawn.refl _).drew⟩
    rcases tm : (emB x.nm) with _ | _
    · have HF := Lib.hid (show kindB x = false by unfold kindB; rw [← hk]; simp [tn, tm])
      rw [tm] at hem
      clear hk tm
      go_enter Tryz.func168, Tryz.ntmps168
      go_wp2
      go_ret
      exact ⟨ret_bool HF.out.symm, by first | exact Drawn.refl _ | exact (Drawn.refl _).drew⟩
    rw [tm] at hem
    rcases ta : (x.args.length == 0) with _ | _
    · have HF := Lib.hid (show kindB x = false by unfold kindB; rw [← hk]; simp [tn, tm, ta])
      rw [ta] at hln
      clear hk ta
      go_enter Tryz.func168, Tryz.ntmps168
      go_wp2
      go_ret
      exact ⟨ret_bool HF.out.symm, by first | exact Drawn.refl _ | exact (Drawn.refl _).drew⟩
    rw [ta] at hln
    have HF := Lib.hid (show kindB x = true by unfold kindB; rw [← hk]; simp [tn, tm, ta])
    clear hk tm ta
    go_enter Tryz.func168, Tryz.ntmps168
    go_wp2
    go_ret
    exact ⟨ret_bool HF.out.symm, by first | exact Drawn.refl _ | exact (Drawn.refl _).drew⟩
  · rcases tn : (x.n == 0) with _ | _
    · have HF := Lib.hid (show kindB x = false by unfold kindB; rw [← hk]; simp [tn])
      clear hk
      go_enter Tryz.func168, Tryz.ntmps168
      go_wp2
      go_ret
      exact ⟨ret_bool HF.out.symm, by first | exact Drawn.refl _ | exact (Drawn.refl _).drew⟩
    have HF := Lib.hid (show kindB x = true by unfold kindB; rw [← hk]; simp [tn])
    clear hk
    go_enter Tryz.func168, Tryz.ntmps168
    go_wp2
    go_ret
    exact ⟨ret_bool HF.out.symm, by first | exact Drawn.refl _ | exact (Drawn.refl _).drew⟩
  · rcases tn : (x.n == 0) with _ | _
    · have HF := Lib.hid (show kindB x = false by unfold kindB; rw [← hk]; simp [tn])
      clear hk
      go_enter Tryz.func168, Tryz.ntmps168
      go_wp2
      go_ret
      exact ⟨ret_bool HF.out.symm, by first | exact Drawn.refl _ | exact (Drawn.refl _).drew⟩
    rcases tm : (emB x.nm) with _ | _
    · have HF := Lib.hid (show kindB x = false by unfold kindB; rw [← hk]; simp [tn, tm])
      rw [tm] at hem
      clear hk tm
      go_enter Tryz.func168, Tryz.ntmps168
      go_wp2
      go_ret
      exact ⟨ret_bool HF.out.symm, by first | exact Drawn.refl _ | exact (Drawn.refl _).drew⟩
    rw [tm] at hem
    rcases ta : (x.args.length == 0) with _ | _
    · have HF := Lib.hid (show kindB x = false by unfold kindB; rw [← hk]; simp [tn, tm, ta])
      rw [ta] at hln
      clear hk ta
      go_enter Tryz.func168, Tryz.ntmps168
      go_wp2
      go_ret
      exact ⟨ret_bool HF.out.symm, by first | exact Drawn.refl _ | exact (Drawn.refl _).drew⟩
    rw [ta] at hln
    have HF := Lib.hid (show kindB x = true by unfold kindB; rw [← hk]; simp [tn, tm, ta])
    clear hk tm ta
    go_enter Tryz.func168, Tryz.ntmps168
    go_wp2
    go_ret
    exact ⟨ret_bool HF.out.symm, by first | exact Drawn.refl _ | exact (Drawn.refl _).drew⟩
  · rcases tn : (x.n == 0) with _ | _
    · have HF := Lib.hid (show kindB x = false by unfold kindB; rw [← hk]; simp [tn])
      clear hk
      go_enter Tryz.func168, Tryz.ntmps168
      go_wp2
      go_ret
      exact ⟨ret_bool HF.out.symm, by first | exact Drawn.refl _ | exact (Drawn.refl _).drew⟩
    rcases tm : (emB x.nm) with _ | _
    · have HF := Lib.hid (show kindB x = false by unfold kindB; rw [← hk]; simp [tn, tm])
      rw [tm] at hem
      clear hk tm
      go_enter Tryz.func168, Tryz.ntmps168
      go_wp2
      go_ret
      exact ⟨ret_bool HF.out.symm, by first | exact Drawn.refl _ | exact (Drawn.refl _).drew⟩
    rw [tm] at hem
    have HF := Lib.hid (show kindB x = true by unfold kindB; rw [← hk]; simp [tn, tm])
    clear hk tm
    go_enter Tryz.func168, Tryz.ntmps168
    go_wp2
    go_ret
    exact ⟨ret_bool HF.out.symm, by first | exact Drawn.refl _ | exact (Drawn.refl _).drew⟩
  · rcases tm : (emB x.nm) with _ | _
    · have HF := Lib.hid (show kindB x = false by unfold kindB; rw [← hk]; simp [tm])
      rw [tm] at hem
      clear hk tm
      go_enter Tryz.func168, Tryz.ntmps168
      go_wp2
      go_ret
      exact ⟨ret_bool HF.out.symm, by first | exact Drawn.refl _ | exact (Drawn.refl _).drew⟩
    rw [tm] at hem
    rcases ta : (x.args.length == 0) with _ | _
    · have HF := Lib.hid (show kindB x = false by unfold kindB; rw [← hk]; simp [tm, ta])
      rw [ta] at hln
      clear hk ta
      go_enter Tryz.func168, Tryz.ntmps168
      go_wp2
      go_ret
      exact ⟨ret_bool HF.out.symm, by first | exact Drawn.refl _ | exact (Drawn.refl _).drew⟩
    rw [ta] at hln
    have HF := Lib.hid (show kindB x = true by unfold kindB; rw [← hk]; simp [tm, ta])
    clear hk tm ta
    go_enter Tryz.func168, Tryz.ntmps168
    go_wp2
    go_ret
    exact ⟨ret_bool HF.out.symm, by first | exact Drawn.refl _ | exact (Drawn.refl _).drew⟩
  · rcases tm : (emB x.nm) with _ | _
    · have HF := Lib.hid (show kindB x = false by unfold kindB; rw [← hk]; simp [tm])
      rw [tm] at hem
      clear hk tm
      go_enter Tryz.func168, Tryz.ntmps168
      go_wp2
      go_ret
      exact ⟨ret_bool HF.out.symm, by first | exact Drawn.refl _ | exact (Drawn.refl _).drew⟩
    rw [tm] at hem
    have HF := Lib.hid (show kindB x = true by unfold kindB; rw [← hk]; simp [tm])
    clear hk tm
    go_enter Tryz.func168, Tryz.ntmps168
    go_wp2
    go_ret
    exact ⟨ret_bool HF.out.symm, by first | exact Drawn.refl _ | exact (Drawn.refl _).drew⟩
  · have HF := Lib.hid (show kindB x = false by unfold kindB; rw [← hk]; simp [h0, h1, h2, h3, h4, h5])
    have e0 : (k == 0) = false := ib_ne h0
    have e1 : (k == 1) = false := ib_ne h1
    have e2 : (k == 2) = false := ib_ne h2
    have e3 : (k == 3) = false := ib_ne h3
    have e4 : (k == 4) = false := ib_ne h4
    have e5 : (k == 5) = false := ib_ne h5
    clear hk h0 h1 h2 h3 h4 h5
    go_enter Tryz.func168, Tryz.ntmps168
    go_wp2
    go_ret
    exact ⟨ret_bool HF.out.symm, by first | exact Drawn.refl _ | exact (Drawn.refl _).drew⟩
end Go.Proofs.YtdgcpaeneafejaaGreatDoor
