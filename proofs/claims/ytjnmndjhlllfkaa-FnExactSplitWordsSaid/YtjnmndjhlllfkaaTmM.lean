/- Plain words for terms: a slice of terms that reads as a list, which terms there are, and which lists of them are expressions. -/
import Derived.WalkKit
import Derived.Lib.Hide
import Derived.Test.YtjnmndjhlllfkaaMem
namespace Go.Proofs.Ytjnmndjhlllfkaa
open Go.RowKit
/-- A term: its kind and its value. -/
structure Tm where
  k : Int
  v : Int
def tv (t : Tm) : List Value := [.int .i64 t.k, .int .i64 t.v]
def tvs (es : List Tm) : List Value := es.flatMap tv
theorem tvs_nil : tvs [] = [] := rfl
theorem tvs_cons (t : Tm) (es : List Tm) : tvs (t :: es) = .int .i64 t.k :: .int .i64 t.v :: tvs es := rfl
theorem tvs_append (a b : List Tm) : tvs (a ++ b) = tvs a ++ tvs b := by unfold tvs; rw [List.flatMap_append]
theorem tvs_length (es : List Tm) : (tvs es).length = es.length * 2 := by
  induction es with
  | nil => rfl
  | cons t es ih => rw [tvs_cons, List.length_cons, List.length_cons, List.length_cons, ih]; omega
theorem tvs_at : ∀ {es : List Tm} {k : Nat} {t : Tm}, es[k]? = some t → (tvs es)[k * 2]? = some (.int .i64 t.k) ∧ (tvs es)[k * 2 + 1]? = some (.int .i64 t.v) := by
  intro es
  induction es with
  | nil => intro k t h; simp at h
  | cons a es ih =>
    intro k t h
    cases k with
    | zero => simp at h; subst h; exact ⟨rfl, rfl⟩
    | succ k =>
      have := ih (k := k) (by simpa using h)
      have e : (k + 1) * 2 = k * 2 + 2 := by omega
      rw [tvs_cons, e]
      exact this
theorem tvs_take (es : List Tm) (k : Nat) : (tvs es).take (k * 2) = tvs (es.take k) := by
  induction es generalizing k with
  | nil => simp [tvs]
  | cons t es ih =>
    cases k with
    | zero => simp [tvs]
    | succ k =>
      rw [show (k + 1) * 2 = k * 2 + 1 + 1 by omega, tvs_cons, List.take_succ_cons, List.take_succ_cons, ih, List.take_succ_cons, tvs_cons]
theorem tvs_drop (es : List Tm) (k : Nat) : (tvs es).drop (k * 2) = tvs (es.drop k) := by
  induction es generalizing k with
  | nil => simp [tvs]
  | cons t es ih =>
    cases k with
    | zero => simp
    | succ k =>
      rw [show (k + 1) * 2 = k * 2 + 1 + 1 by omega, tvs_cons, List.drop_succ_cons, List.drop_succ_cons, ih, List.drop_succ_cons]
/-- A slice of terms that reads as a list. -/
def TRow (w : World) (B : Nat) (A : Option Addr) (es : List Tm) : Prop := Row w B A (tvs es)
theorem TRow.nil {w : World} {B : Nat} {A : Option Addr} : TRow w B A [] := Row.nil
theorem TRow.below {w w' : World} {B : Nat} {A : Option Addr} {es : List Tm} (h : TRow w B A es) (hb : Below B w w') : TRow w' B A es := Row.below h hb
theorem TRow.more {w : World} {B B' : Nat} {A : Option Addr} {es : List Tm} (h : TRow w B A es) (hB : B ≤ B') : TRow w B' A es := Row.more h hB
theorem TRow.drawn {w w' : World} {B : Nat} {A : Option Addr} {es : List Tm} (h : TRow w B A es) (hd : Drawn w w') : TRow w' B A es := Row.below h (hd.below _)
theorem TRow.drewN {w : World} {B : Nat} {A : Option Addr} {es : List Tm} (h : TRow w B A es) (n : Nat) : TRow (w.drewN n) B A es := h
theorem TRow.at_ {w : World} {B : Nat} {A : Option Addr} {es : List Tm} (h : TRow w B A es) {k : Nat} (hk : k < es.length) :
    ∃ b off t, A = some ⟨b, off, none⟩ ∧ b < B ∧ w.cell? ⟨b, off + k * 2, none⟩ = some (.int .i64 (t : Tm).k) ∧ w.cell? ⟨b, off + k * 2 + 1, none⟩ = some (.int .i64 t.v) ∧ Hid (es[k]? = some t) := by
  have hx : es[k]? = some es[k] := List.getElem?_eq_getElem hk
  obtain ⟨h1, h2⟩ := tvs_at hx
  obtain ⟨b, off, e, hb, hc⟩ := h (by have := (List.getElem?_eq_some_iff.1 h1).1; omega)
  exact ⟨b, off, es[k], e, hb, hc _ _ h1, hc _ _ h2, hx⟩
/-- How many operands a term has. -/
def ar (t : Tm) : Int := if t.k = 2 then 2 else if t.k = 3 then 1 else 0
theorem ar_two {t : Tm} (h : t.k = 2) : ar t = 2 := by unfold ar; rw [if_pos h]
theorem ar_one {t : Tm} (h : t.k = 3) : ar t = 1 := by unfold ar; rw [if_neg (by omega), if_pos h]
theorem ar_zero {t : Tm} (h : t.k ≠ 2) (h' : t.k ≠ 3) : ar t = 0 := by unfold ar; rw [if_neg h, if_neg h']
theorem ar_bd (t : Tm) : 0 ≤ ar t ∧ ar t ≤ 2 := by unfold ar; split <;> (try split) <;> omega
/-- Whether a term is one with some variables. -/
def tmB (vars : Int) (t : Tm) : Bool :=
  if t.k = 0 then decide (0 ≤ t.v ∧ t.v ≤ 63) else if t.k = 1 then decide (0 ≤ t.v ∧ t.v < vars) else if t.k = 2 then decide (0 ≤ t.v ∧ t.v ≤ 8) else if t.k = 3 then decide (t.v = 0) else false
theorem tmB_num {vars : Int} {t : Tm} (h : t.k = 0) : tmB vars t = decide (0 ≤ t.v ∧ t.v ≤ 63) := by unfold tmB; rw [if_pos h]
theorem tmB_var {vars : Int} {t : Tm} (h : t.k = 1) : tmB vars t = decide (0 ≤ t.v ∧ t.v < vars) := by unfold tmB; rw [if_neg (by omega), if_pos h]
theorem tmB_op {vars : Int} {t : Tm} (h : t.k = 2) : tmB vars t = decide (0 ≤ t.v ∧ t.v ≤ 8) := by unfold tmB; rw [if_neg (by omega), if_neg (by omega), if_pos h]
theorem tmB_not {vars : Int} {t : Tm} (h : t.k = 3) : tmB vars t = decide (t.v = 0) := by unfold tmB; rw [if_neg (by omega), if_neg (by omega), if_neg (by omega), if_pos h]
theorem tmB_none {vars : Int} {t : Tm} (h0 : t.k ≠ 0) (h1 : t.k ≠ 1) (h2 : t.k ≠ 2) (h3 : t.k ≠ 3) : tmB vars t = false := by unfold tmB; rw [if_neg h0, if_neg h1, if_neg h2, if_neg h3]
/-- Whether terms from a place on are as many operations as are missing there. -/
def scan (vars : Int) : List Tm → Int → Bool
  | [], n => decide (n = 0)
  | t :: r, n => if n = 0 ∨ tmB vars t = false then false else scan vars r (n + (ar t - 1))
/-- The place behind the operation that is missing from a place on. -/
def fe : List Tm → Int → Int → Int
  | [], _, _ => -1
  | t :: r, m, i => if m + (ar t - 1) = 0 then i + 1 else fe r (m + (ar t - 1)) (i + 1)
theorem scan_zero {vars : Int} {es : List Tm} (h : es ≠ []) : scan vars es 0 = false := by
  cases es with
  | nil => exact absurd rfl h
  | cons t r => unfold scan; rw [if_pos (.inl rfl)]
theorem scan_all {vars : Int} : ∀ {es : List Tm} {n : Int}, scan vars es n = true → ∀ t ∈ es, tmB vars t = true := by
  intro es
  induction es with
  | nil => intro n _ t ht; cases ht
  | cons a r ih =>
    intro n h t ht
    unfold scan at h
    split at h
    · cases h
    · rename_i hn
      rcases List.mem_cons.1 ht with rfl | ht
      · rcases e : tmB vars t with _ | _
        · exact absurd (.inr e) hn
        · rfl
      · exact ih h t ht
theorem fe_scan {vars : Int} : ∀ (es : List Tm) (m i : Int), (∀ t ∈ es, tmB vars t = true) → 1 ≤ m → 0 ≤ i → decide (fe es m i = i + es.length) = scan vars es m := by
  intro es
  induction es with
  | nil => intro m i _ hm hi; unfold fe scan; rw [decide_eq_false (by simp; omega), decide_eq_false (by omega)]
  | cons t r ih =>
    intro m i h hm hi
    have ht := h t (by simp)
    have ha := ar_bd t
    have hn : ¬ (m = 0 ∨ tmB vars t = false) := by
      rintro (h0 | h0)
      · omega
      · rw [ht] at h0; cases h0
    unfold fe scan
    rw [if_neg hn]
    by_cases e : m + (ar t - 1) = 0
    · rw [if_pos e, e]
      cases r with
      | nil => simp [scan]
      | cons t2 r2 =>
        rw [scan_zero (by simp)]
        exact decide_eq_false (by simp only [List.length_cons]; omega)
    · rw [if_neg e, ← ih _ (i + 1) (fun x hx => h x (by simp [hx])) (by omega) (by omega)]
      have e3 : (i + ((t :: r).length : Nat) : Int) = i + 1 + (r.length : Nat) := by simp only [List.length_cons]; omega
      rw [e3]
/-- Whether a list is an expression with some variables and at most some terms. -/
def exB (vars most : Int) (es : List Tm) : Bool := decide ((es.length : Int) ≤ most) && scan vars es 1
theorem exB_long {vars most : Int} {es : List Tm} (h : ¬ (es.length : Int) ≤ most) : exB vars most es = false := by unfold exB; rw [decide_eq_false h]; rfl
theorem exB_short {vars most : Int} {es : List Tm} (h : (es.length : Int) ≤ most) : exB vars most es = scan vars es 1 := by unfold exB; rw [decide_eq_true h]; rfl
def vtB (vars most : Int) (es : List Tm) : Bool := decide (0 ≤ vars ∧ vars ≤ 29 ∧ 1 ≤ most ∧ most ≤ 60) && exB vars most es
theorem vtB_no {vars most : Int} {es : List Tm} (h : ¬ (0 ≤ vars ∧ vars ≤ 29 ∧ 1 ≤ most ∧ most ≤ 60)) : vtB vars most es = false := by unfold vtB; rw [decide_eq_false h]; rfl
theorem vtB_yes {vars most : Int} {es : List Tm} (h : 0 ≤ vars ∧ vars ≤ 29 ∧ 1 ≤ most ∧ most ≤ 60) : vtB vars most es = exB vars most es := by unfold vtB; rw [decide_eq_true h]; rfl
end Go.Proofs.Ytjnmndjhlllfkaa
