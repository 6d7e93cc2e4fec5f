/- The data of systems: parts, definitions, components, meetings, and how they are read. -/
import Derived.Test.YtjnmndjhlllfkaaSRow
namespace Go.Proofs.Ytjnmndjhlllfkaa
open Go.RowKit
structure Mt where
  l : ByteArray
  r : ByteArray
  s : ByteArray
structure Cp where
  d : Int
  vs : List Int
structure Pt where
  k : Int
  n : Int
  nm : ByteArray
  args : List (List Tm)
structure Df where
  nm : ByteArray
  ps : Int
  body : List Pt
instance : Inhabited Mt := ⟨⟨⟨#[]⟩, ⟨#[]⟩, ⟨#[]⟩⟩⟩
instance : Inhabited Cp := ⟨⟨0, []⟩⟩
instance : Inhabited Pt := ⟨⟨0, 0, ⟨#[]⟩, []⟩⟩
instance : Inhabited Df := ⟨⟨⟨#[]⟩, 0, []⟩⟩
def mtR : Rec Mt where
  R _ _ x vs := vs = [.string x.l, .string x.r, .string x.s] ∧ x.l.size ≤ maxLen ∧ x.r.size ≤ maxLen ∧ x.s.size ≤ maxLen
  width := 3
  pos := by decide
  len h := by rw [h.1]; rfl
  keep h _ := h
  more h _ := h
def cpR : Rec Cp where
  R w S x vs := ∃ A c, vs = [.int .i64 x.d, .slice A x.vs.length c] ∧ x.vs.length ≤ c ∧ c ≤ maxLen ∧ LRow intR w S A x.vs
  width := 2
  pos := by decide
  len h := by obtain ⟨A, c, rfl, _⟩ := h; rfl
  keep h hk := by obtain ⟨A, c, e, h1, h2, h3⟩ := h; exact ⟨A, c, e, h1, h2, h3.keep hk⟩
  more h hS := by obtain ⟨A, c, e, h1, h2, h3⟩ := h; exact ⟨A, c, e, h1, h2, h3.more hS⟩
def ptR : Rec Pt where
  R w S x vs := ∃ A c, vs = [.int .i64 x.k, .int .i64 x.n, .string x.nm, .slice A x.args.length c] ∧ x.nm.size ≤ maxLen ∧ x.args.length ≤ c ∧ c ≤ maxLen ∧ LRow (listR tmR) w S A x.args
  width := 4
  pos := by decide
  len h := by obtain ⟨A, c, rfl, _⟩ := h; rfl
  keep h hk := by obtain ⟨A, c, e, h0, h1, h2, h3⟩ := h; exact ⟨A, c, e, h0, h1, h2, h3.keep hk⟩
  more h hS := by obtain ⟨A, c, e, h0, h1, h2, h3⟩ := h; exact ⟨A, c, e, h0, h1, h2, h3.more hS⟩
def dfR : Rec Df where
  R w S x vs := ∃ A c, vs = [.string x.nm, .int .i64 x.ps, .slice A x.body.length c] ∧ x.nm.size ≤ maxLen ∧ x.body.length ≤ c ∧ c ≤ maxLen ∧ LRow ptR w S A x.body
  width := 3
  pos := by decide
  len h := by obtain ⟨A, c, rfl, _⟩ := h; rfl
  keep h hk := by obtain ⟨A, c, e, h0, h1, h2, h3⟩ := h; exact ⟨A, c, e, h0, h1, h2, h3.keep hk⟩
  more h hS := by obtain ⟨A, c, e, h0, h1, h2, h3⟩ := h; exact ⟨A, c, e, h0, h1, h2, h3.more hS⟩
/-- What a measure lets by is small. -/
def okList {α : Type} (p : α → Prop) (xs : List α) : Prop := xs.length ≤ 1048576 ∧ ∀ x ∈ xs, p x
def okAny {α : Type} (_ : α) : Prop := True
def okTx (t : ByteArray) : Prop := t.size ≤ 1048576
def okPt (p : Pt) : Prop := okTx p.nm ∧ okList (okList okAny) p.args
def okDf (d : Df) : Prop := okTx d.nm ∧ okList okPt d.body
def okCp (c : Cp) : Prop := okList okAny c.vs
def okMt (m : Mt) : Prop := okTx m.l ∧ okTx m.r ∧ okTx m.s
/-- How many elements the lists in a record hold, all together. -/
def sW {α : Type} (f : α → Nat) : List α → Nat
  | [] => 0
  | x :: xs => f x + sW f xs
def wL {α : Type} (f : α → Nat) (xs : List α) : Nat := xs.length + sW f xs
def wtZ {α : Type} (_ : α) : Nat := 0
theorem sW_append {α : Type} (f : α → Nat) (a b : List α) : sW f (a ++ b) = sW f a + sW f b := by
  induction a with
  | nil => simp [sW]
  | cons x a ih => simp [sW, ih, Nat.add_assoc]
theorem sW_succ {α : Type} {f : α → Nat} {xs : List α} {k : Nat} {x : α} (h : xs[k]? = some x) : sW f (xs.take (k + 1)) = sW f (xs.take k) + f x := by
  rw [take_one _ _ _ h, sW_append]; simp [sW]
theorem wL_full {α : Type} {f : α → Nat} {xs : List α} {n k : Nat} (h : xs.length = n) (hk : n ≤ k) : wL f xs = n + sW f (xs.take k) := by
  unfold wL
  rw [List.take_of_length_le (by omega), h]
theorem wL_z {α : Type} (xs : List α) : wL (wtZ (α := α)) xs = xs.length := by
  have : sW (wtZ (α := α)) xs = 0 := by
    induction xs with
    | nil => rfl
    | cons x xs ih => show 0 + _ = 0; rw [ih]
  unfold wL
  rw [this]; rfl
def wtPt (p : Pt) : Nat := wL (wL wtZ) p.args
def wtDf (d : Df) : Nat := wL wtPt d.body
def wtCp (c : Cp) : Nat := wL wtZ c.vs
def SzRet (ok : Prop) (wt : Nat) (left : Int) (w : World) (e : Ending) (w' : World) : Prop := ∃ r : Int, e = .returned (.int .i64 r) ∧ (r < 0 ∨ (0 ≤ r ∧ r + wt ≤ left ∧ ok)) ∧ Below w.heap.size w w'
theorem SzRet.no {ok : Prop} {wt : Nat} {left : Int} {w w' : World} (hb : Below w.heap.size w w') : SzRet ok wt left w (.returned (.int .i64 (-1))) w' := ⟨-1, rfl, .inl (by omega), hb⟩
theorem SzRet.yes {ok : Prop} {wt : Nat} {left r : Int} {w w' : World} (h0 : 0 ≤ r) (h1 : r + wt ≤ left) (h : ok) (hb : Below w.heap.size w w') : SzRet ok wt left w (.returned (.int .i64 r)) w' := ⟨r, rfl, .inr ⟨h0, h1, h⟩, hb⟩
/-- A record of the call's own, handed back by value. -/
def MadeR {α : Type} (F : Rec α) (x : α) (w : World) (e : Ending) (w' : World) : Prop := ∃ cs : List Value, e = .returned (.agg cs.toArray) ∧ F.R w' (In w.heap.size w'.heap.size) x cs ∧ Below w.heap.size w w'
/-- A slice of records of the call's own. -/
def MadeL {α : Type} (F : Rec α) (xs : List α) (w : World) (e : Ending) (w' : World) : Prop :=
  e = .returned (.slice (some ⟨w.heap.size, 0, none⟩) xs.length xs.length) ∧ LRow F w' (In w.heap.size w'.heap.size) (some ⟨w.heap.size, 0, none⟩) xs ∧ Below w.heap.size w w'
end Go.Proofs.Ytjnmndjhlllfkaa
