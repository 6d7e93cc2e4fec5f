/- When two lists, two parts, two definitions, two systems are the same: plain comparisons. -/
import Derived.WalkKit
import Derived.Lib.Hide
import Derived.Test.YthbnfjedjijacaaMem
import Derived.Test.YthbnfjedjijacaaDat
namespace Go.Proofs.Ythbnfjedjijacaa
open Go.RowKit
/-- Two lists are compared element by element. -/
def eqL {α : Type} (f : α → α → Bool) : List α → List α → Bool
  | [], [] => true
  | x :: xs, y :: ys => f x y && eqL f xs ys
  | [], _ :: _ => false
  | _ :: _, [] => false
theorem eqL_len {α : Type} {f : α → α → Bool} : ∀ {xs ys : List α}, xs.length ≠ ys.length → eqL f xs ys = false := by
  intro xs
  induction xs with
  | nil =>
    intro ys h
    cases ys with
    | nil => exact absurd rfl h
    | cons y ys => rfl
  | cons x xs ih =>
    intro ys h
    cases ys with
    | nil => rfl
    | cons y ys =>
      show (f x y && eqL f xs ys) = false
      rw [ih (fun e => h (by simp [e]))]
      simp
theorem eqL_step {α : Type} {f : α → α → Bool} {xs ys : List α} {k : Nat} {x y : α} (hx : xs[k]? = some x) (hy : ys[k]? = some y) : eqL f (xs.drop k) (ys.drop k) = (f x y && eqL f (xs.drop (k + 1)) (ys.drop (k + 1))) := by
  rw [drop_one xs k x hx, drop_one ys k y hy]
  rfl
theorem eqL_end {α : Type} {f : α → α → Bool} {xs ys : List α} {k : Nat} (hx : xs.length ≤ k) (hy : ys.length ≤ k) : eqL f (xs.drop k) (ys.drop k) = true := by
  rw [List.drop_eq_nil_of_le hx, List.drop_eq_nil_of_le hy]
  rfl
/-- A place at which the lists part. -/
theorem eqL_no {α : Type} {f : α → α → Bool} {xs ys : List α} {k : Nat} {x y : α} (h : eqL f xs ys = eqL f (xs.drop k) (ys.drop k)) (hx : xs[k]? = some x) (hy : ys[k]? = some y) (hf : f x y = false) : eqL f xs ys = false := by
  rw [h, eqL_step hx hy, hf]; rfl
theorem eqL_next {α : Type} {f : α → α → Bool} {xs ys : List α} {k : Nat} {x y : α} (h : eqL f xs ys = eqL f (xs.drop k) (ys.drop k)) (hx : xs[k]? = some x) (hy : ys[k]? = some y) (hf : f x y = true) : eqL f xs ys = eqL f (xs.drop (k + 1)) (ys.drop (k + 1)) := by
  rw [h, eqL_step hx hy, hf]; rfl
def intE (a b : Int) : Bool := a == b
def tmE (a b : Tm) : Bool := a.k == b.k && a.v == b.v
def txtE (a b : ByteArray) : Bool := a.toList == b.toList
def mtE (a b : Mt) : Bool := txtE a.l b.l && (txtE a.r b.r && txtE a.s b.s)
def ptE (a b : Pt) : Bool := a.k == b.k && (a.n == b.n && (txtE a.nm b.nm && eqL (eqL tmE) a.args b.args))
def dfE (a b : Df) : Bool := txtE a.nm b.nm && (a.ps == b.ps && eqL ptE a.body b.body)
def cpE (a b : Cp) : Bool := a.d == b.d && eqL intE a.vs b.vs
structure Sy where
  ds : List Df
  cs : List Cp
  ms : List Mt
  al : List ByteArray
  hd : List ByteArray
def syE (a b : Sy) : Bool := eqL dfE a.ds b.ds && (eqL cpE a.cs b.cs && (eqL mtE a.ms b.ms && (eqL txtE a.al b.al && eqL txtE a.hd b.hd)))
def syR : Rec Sy where
  R w S x vs := ∃ A1 c1 A2 c2 A3 c3 A4 c4 A5 c5, vs = [.slice A1 x.ds.length c1, .slice A2 x.cs.length c2, .slice A3 x.ms.length c3, .slice A4 x.al.length c4, .slice A5 x.hd.length c5] ∧
    (x.ds.length ≤ c1 ∧ c1 ≤ maxLen ∧ LRow dfR w S A1 x.ds) ∧ (x.cs.length ≤ c2 ∧ c2 ≤ maxLen ∧ LRow cpR w S A2 x.cs) ∧ (x.ms.length ≤ c3 ∧ c3 ≤ maxLen ∧ LRow mtR w S A3 x.ms) ∧
    (x.al.length ≤ c4 ∧ c4 ≤ maxLen ∧ LRow txtR w S A4 x.al) ∧ (x.hd.length ≤ c5 ∧ c5 ≤ maxLen ∧ LRow txtR w S A5 x.hd)
  width := 5
  pos := by decide
  len h := by obtain ⟨_, _, _, _, _, _, _, _, _, _, rfl, _⟩ := h; rfl
  keep h hk := by
    obtain ⟨A1, c1, A2, c2, A3, c3, A4, c4, A5, c5, e, ⟨p1, q1, r1⟩, ⟨p2, q2, r2⟩, ⟨p3, q3, r3⟩, ⟨p4, q4, r4⟩, ⟨p5, q5, r5⟩⟩ := h
    exact ⟨A1, c1, A2, c2, A3, c3, A4, c4, A5, c5, e, ⟨p1, q1, r1.keep hk⟩, ⟨p2, q2, r2.keep hk⟩, ⟨p3, q3, r3.keep hk⟩, ⟨p4, q4, r4.keep hk⟩, ⟨p5, q5, r5.keep hk⟩⟩
  more h hS := by
    obtain ⟨A1, c1, A2, c2, A3, c3, A4, c4, A5, c5, e, ⟨p1, q1, r1⟩, ⟨p2, q2, r2⟩, ⟨p3, q3, r3⟩, ⟨p4, q4, r4⟩, ⟨p5, q5, r5⟩⟩ := h
    exact ⟨A1, c1, A2, c2, A3, c3, A4, c4, A5, c5, e, ⟨p1, q1, r1.more hS⟩, ⟨p2, q2, r2.more hS⟩, ⟨p3, q3, r3.more hS⟩, ⟨p4, q4, r4.more hS⟩, ⟨p5, q5, r5.more hS⟩⟩
end Go.Proofs.Ythbnfjedjijacaa
