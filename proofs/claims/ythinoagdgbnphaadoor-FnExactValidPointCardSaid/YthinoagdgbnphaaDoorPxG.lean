/- Bodies in their places: subtrees one behind the other, rows that read as them, worlds that differ in two blocks. -/
import Derived.Test.YthinoagdgbnphaaDoorPxE
import Derived.OwnWalk
namespace Go.Proofs.YthinoagdgbnphaaDoor
open Go.RowKit
def Px.head : Px → Pt
  | .leaf p => p
  | .one p _ => p
  | .two p _ _ => p
def Px.kids : Px → List Px
  | .leaf _ => []
  | .one _ a => [a]
  | .two _ a b => [a, b]
def sizeL : List Px → Nat
  | [] => 0
  | y :: ys => y.size + sizeL ys
def annL : List Px → Nat → Int → Bool → List An
  | [], _, _, _ => []
  | y :: ys, n, s, c => y.ann n s c ++ annL ys (n + y.size) s c
theorem Px.ann_kids (x : Px) (n : Nat) (s : Int) (c : Bool) : x.ann n s c = ⟨x.head, n + x.size, s, c⟩ :: annL x.kids (n + 1) (s + sm x.head) (x.head.k == 1) := by
  cases x <;> simp [Px.ann, Px.kids, Px.head, annL, Px.size]
theorem Px.size_kids (x : Px) : x.size = 1 + sizeL x.kids := by
  cases x <;> simp [Px.size, Px.kids, sizeL]
theorem Px.flat_kids (x : Px) : x.flat = x.head :: x.kids.flatMap Px.flat := by
  cases x <;> simp [Px.flat, Px.kids, Px.head]
theorem Px.ok_kids {x : Px} (h : x.ok) : fol x.head = x.kids.length ∧ ∀ y ∈ x.kids, y.ok := by
  cases x with
  | leaf p => exact ⟨h, by simp [Px.kids]⟩
  | one p a => exact ⟨h.1, by simpa [Px.kids] using h.2⟩
  | two p a b => exact ⟨h.1, by simpa [Px.kids] using h.2⟩
theorem sizeL_take {l : List Px} : ∀ {i : Nat} {y : Px}, l[i]? = some y → sizeL (l.take (i + 1)) = sizeL (l.take i) + y.size := by
  induction l with
  | nil => intro i y h; simp at h
  | cons a l ih =>
    intro i y h
    rcases i with _ | i
    · simp at h; subst h; simp [sizeL]
    · have := ih (i := i) (y := y) (by simpa using h)
      simp only [List.take_succ_cons, sizeL, this]; omega
theorem annL_take {l : List Px} : ∀ {i : Nat} {y : Px} (n : Nat) (s : Int) (c : Bool), l[i]? = some y → annL (l.take (i + 1)) n s c = annL (l.take i) n s c ++ y.ann (n + sizeL (l.take i)) s c := by
  induction l with
  | nil => intro i y n s c h; simp at h
  | cons a l ih =>
    intro i y n s c h
    rcases i with _ | i
    · simp at h; subst h; simp [annL, sizeL]
    · have := ih (i := i) (y := y) (n + a.size) s c (by simpa using h)
      simp only [List.take_succ_cons, annL, this, sizeL, List.append_assoc]
      rw [show n + a.size + sizeL (l.take i) = n + (a.size + sizeL (l.take i)) by omega]
theorem flat_drop {l : List Px} : ∀ {i : Nat} {y : Px} (r : List Pt), l[i]? = some y → (l.flatMap Px.flat ++ r).drop (sizeL (l.take i)) = y.flat ++ ((l.drop (i + 1)).flatMap Px.flat ++ r) := by
  induction l with
  | nil => intro i y r h; simp at h
  | cons a l ih =>
    intro i y r h
    rcases i with _ | i
    · simp at h; subst h; simp [sizeL]
    · have := ih (i := i) (y := y) r (by simpa using h)
      simp only [List.take_succ_cons, sizeL, List.flatMap_cons, List.append_assoc, List.drop_succ_cons]
      rw [← List.drop_drop, List.drop_left' (Px.flat_len a), this]
theorem sizeL_le {l : List Px} {i : Nat} : sizeL (l.take i) ≤ sizeL l := by
  induction l generalizing i with
  | nil => simp
  | cons a l ih =>
    rcases i with _ | i
    · simp [sizeL]
    · have := ih (i := i)
      simp only [List.take_succ_cons, sizeL]; omega
theorem sizeL_next {l : List Px} {i : Nat} {y : Px} (h : l[i]? = some y) : sizeL (l.take i) + y.size ≤ sizeL l := by
  rw [← sizeL_take h]; exact sizeL_le
/-- A part in its place as a record. -/
def anR : Rec An where
  R w S a vs := ∃ E ce, vs = [.int .i64 a.p.k, .int .i64 a.p.n, .string a.p.nm, .slice E a.p.args.length ce, .int .i64 a.e, .int .i64 a.s, .bool a.c] ∧ a.p.nm.size ≤ maxLen ∧ a.p.args.length ≤ ce ∧ ce ≤ maxLen ∧ LRow (listR tmR) w S E a.p.args
  width := 7
  pos := by decide
  len h := by obtain ⟨A, c, rfl, _⟩ := h; rfl
  keep h hk := by obtain ⟨A, c, e, h0, h1, h2, h3⟩ := h; exact ⟨A, c, e, h0, h1, h2, h3.keep hk⟩
  more h hS := by obtain ⟨A, c, e, h0, h1, h2, h3⟩ := h; exact ⟨A, c, e, h0, h1, h2, h3.more hS⟩
/-- Cells that read as a list of records. -/
def Rds {α : Type} (F : Rec α) (w : World) (S : Nat → Prop) (vs : List Value) (xs : List α) : Prop :=
  vs.length = xs.length * F.width ∧ ∀ k x, xs[k]? = some x → F.R w S x ((vs.drop (k * F.width)).take F.width)
theorem Rds.nil {α : Type} {F : Rec α} {w : World} {S : Nat → Prop} : Rds F w S [] [] := ⟨by simp, fun k x h => by simp at h⟩
theorem Rds.one {α : Type} {F : Rec α} {w : World} {S : Nat → Prop} {cs : List Value} {x : α} (h : F.R w S x cs) : Rds F w S cs [x] :=
  ⟨by rw [F.len h]; simp, fun k y hk => by
    rcases k with _ | k
    · simp at hk; subst hk
      rw [Nat.zero_mul, List.drop_zero, List.take_of_length_le (by rw [F.len h]; exact Nat.le_refl _)]; exact h
    · simp at hk⟩
theorem Rds.app {α : Type} {F : Rec α} {w : World} {S : Nat → Prop} {vs us : List Value} {xs ys : List α} (h : Rds F w S vs xs) (g : Rds F w S us ys) : Rds F w S (vs ++ us) (xs ++ ys) := by
  refine ⟨by rw [List.length_append, List.length_append, h.1, g.1, Nat.add_mul], fun k x hk => ?_⟩
  by_cases hlt : k < xs.length
  · rw [List.getElem?_append_left hlt] at hk
    have hle : (k + 1) * F.width ≤ xs.length * F.width := Nat.mul_le_mul_right _ hlt
    rw [Nat.succ_mul] at hle
    rw [List.drop_append_of_le_length (by rw [h.1]; omega), List.take_append_of_le_length (by rw [List.length_drop, h.1]; omega)]
    exact h.2 k x hk
  · rw [List.getElem?_append_right (by omega)] at hk
    have e : k * F.width = vs.length + (k - xs.length) * F.width := by rw [h.1, ← Nat.add_mul]; congr 1; omega
    rw [e, ← List.drop_drop, List.drop_left]
    exact g.2 _ x hk
theorem Rds.keep {α : Type} {F : Rec α} {w w' : World} {S : Nat → Prop} {vs : List Value} {xs : List α} (h : Rds F w S vs xs) (hk : SameOn S w w') : Rds F w' S vs xs :=
  ⟨h.1, fun k x hx => F.keep (h.2 k x hx) hk⟩
theorem Rds.lrow {α : Type} {F : Rec α} {w : World} {lo n c g : Nat} {T : TypeId} {S S' : Nat → Prop} {vs : List Value} {xs : List α} (h : Rds F w S vs xs) (ho : w.ownsRow lo T F.width (.slice (some ⟨g, 0, none⟩) n c) n vs) (hS : ∀ b, S b → S' b) (hg : S' g) : LRow F w S' (some ⟨g, 0, none⟩) xs :=
  ⟨vs, SRow.of_own ho S' (fun g' e => by cases e; exact hg), h.1, fun k x hx => F.more (h.2 k x hx) hS⟩
/-- The world w' is w but for the blocks B + 1 and B + 2 and new ones. -/
structure Two (B : Nat) (w w' : World) : Prop where
  os : w'.os = w.os
  tape : w'.tape = w.tape
  output : w'.output = w.output
  size : w.heap.size ≤ w'.heap.size
  block : ∀ k, k < w.heap.size → k ≠ B + 1 → k ≠ B + 2 → w'.heap[k]? = w.heap[k]?
theorem Two.refl (B : Nat) (w : World) : Two B w w := ⟨rfl, rfl, rfl, Nat.le_refl _, fun _ _ _ _ => rfl⟩
theorem Two.trans {B : Nat} {a b c : World} (h : Two B a b) (g : Two B b c) : Two B a c :=
  ⟨g.os.trans h.os, g.tape.trans h.tape, g.output.trans h.output, Nat.le_trans h.size g.size, fun k hk h1 h2 => (g.block k (Nat.lt_of_lt_of_le hk h.size) h1 h2).trans (h.block k hk h1 h2)⟩
theorem Two.of_below {B : Nat} {w w' : World} (h : Below w.heap.size w w') : Two B w w' := ⟨h.os, h.tape, h.output, h.size, fun k hk _ _ => h.block k hk⟩
theorem Two.alloc {B : Nat} {a w : World} (h : Two B a w) (o : Obj) : Two B a (w.alloc o) := h.trans (.of_below ((Below.refl _ _).alloc (Nat.le_refl _) o))
theorem Two.grown {B : Nat} {a w w' : World} (h : Two B a w) (hg : w.grownBy w' (some (B + 1))) : Two B a w' :=
  h.trans ⟨hg.os, hg.tape, hg.output, hg.size, fun k hk h1 _ => hg.block k hk (by intro e; injection e with e; exact h1 e)⟩
theorem Two.setCell {B : Nat} {a w : World} (h : Two B a w) {p : Addr} (hp : a.heap.size ≤ p.block ∨ p.block = B + 1 ∨ p.block = B + 2) (u : Value) : Two B a (w.setCell p u) :=
  ⟨h.os, h.tape, h.output, by have := h.size; simpa using this, fun k hk h1 h2 => (Below.heap_setCell w p u k (by omega)).trans (h.block k hk h1 h2)⟩
theorem Two.cell {B : Nat} {w w' : World} (h : Two B w w') {b o : Nat} (hb : b < w.heap.size) (h1 : b ≠ B + 1) (h2 : b ≠ B + 2) : w'.cell? ⟨b, o, none⟩ = w.cell? ⟨b, o, none⟩ :=
  World.cell?_of_block (w := w) (h.block b hb h1 h2)
theorem Two.below {B : Nat} {w w' : World} (h : Two B w w') (hB : B < w.heap.size) : Below (B + 1) w w' :=
  ⟨h.os, h.tape, h.output, h.size, fun k hk => h.block k (by omega) (by omega) (by omega)⟩
/-- The closure's world: where the definition, the row of placed parts, its slice and the closure itself lie. -/
structure PlW (B n c : Nat) (A0 : Option Addr) (body : List Pt) (S : Nat → Prop) (k : Nat) (vs : List Value) (w : World) : Prop where
  hB : B + 3 < w.heap.size
  d2 : w.cell? ⟨B, 2, none⟩ = some (.slice A0 n c)
  row : LRow ptR w S A0 body
  own : w.ownsRow (B + 1) 69 7 (.slice (some ⟨B + 1, 0, none⟩) k n) k vs
  pP : w.cell? ⟨B + 2, 0, none⟩ = some (.slice (some ⟨B + 1, 0, none⟩) k n)
  pF : w.frozen? ⟨B + 2, 0, none⟩ = false
  pQ : w.cell? ⟨B + 3, 0, none⟩ = some (.func (.func 48) #[] #[.pointer (some ⟨B + 2, 0, none⟩), .pointer (some ⟨B, 0, none⟩), .pointer (some ⟨B + 3, 0, none⟩)])
  tab : FormTab w
/-- New blocks change nothing of it. -/
theorem PlW.below {B n c : Nat} {A0 : Option Addr} {body : List Pt} {S : Nat → Prop} {k : Nat} {vs : List Value} {w w' : World} (h : PlW B n c A0 body S k vs w) (hb : Below w.heap.size w w') (hS : ∀ b, S b → b < B) : PlW B n c A0 body S k vs w' :=
  have hB := h.hB
  ⟨Nat.lt_of_lt_of_le h.hB hb.size, (hb.cell (p := ⟨_, _, none⟩) (show B < w.heap.size by omega)).trans h.d2, h.row.keep (SameOn.of_below hb fun b hs => by have := hS b hs; omega), own_below' h.own hb, (hb.cell (p := ⟨_, _, none⟩) (show B + 2 < w.heap.size by omega)).trans h.pP, (hb.frozen (p := ⟨_, _, none⟩) (show B + 2 < w.heap.size by omega)).trans h.pF, (hb.cell (p := ⟨_, _, none⟩) (show B + 3 < w.heap.size by omega)).trans h.pQ, h.tab.below hb⟩
/-- The row has grown, and its slice has been stored. -/
theorem PlW.grown {B n c : Nat} {A0 : Option Addr} {body : List Pt} {S : Nat → Prop} {k k2 : Nat} {vs us : List Value} {w w' : World} (h : PlW B n c A0 body S k vs w) (hS : ∀ b, S b → b < B) (hG : 0 < B) (hg : w.grownBy w' (some (B + 1)))
    (ho : w'.ownsRow (B + 1) 69 7 (.slice (some ⟨B + 1, 0, none⟩) k2 n) k2 us) :
    PlW B n c A0 body S k2 us (w'.setCell ⟨B + 2, 0, none⟩ (.slice (some ⟨B + 1, 0, none⟩) k2 n)) := by
  have hB := h.hB
  have hs := hg.size
  have hc : ∀ b o, b < w.heap.size → b ≠ B + 1 → w'.cell? ⟨b, o, none⟩ = w.cell? ⟨b, o, none⟩ := fun b o hb hn => World.cell?_of_block (hg.block b hb (by intro e; injection e with e; exact hn e))
  have hc2 : ∀ b o, b < w.heap.size → b ≠ B + 1 → b ≠ B + 2 → (w'.setCell ⟨B + 2, 0, none⟩ (.slice (some ⟨B + 1, 0, none⟩) k2 n)).cell? ⟨b, o, none⟩ = w.cell? ⟨b, o, none⟩ := fun b o hb hn h2 =>
    (World.cell?_setCell_other _ _ _ _ (fun e => by injection e with e; exact h2 e.symm)).trans (hc b o hb hn)
  have hf : w'.frozen? ⟨B + 2, 0, none⟩ = false := (World.frozen?_of_block (hg.block (B + 2) (by omega) (by simp))).trans h.pF
  have hp : w'.cell? ⟨B + 2, 0, none⟩ = some (.slice (some ⟨B + 1, 0, none⟩) k n) := (hc _ _ (by omega) (by omega)).trans h.pP
  refine ⟨by simpa using Nat.lt_of_lt_of_le hB hs, (hc2 _ _ (by omega) (by omega) (by omega)).trans h.d2, h.row.keep fun b o hb => ?_, ?_, ?_, ?_, (hc2 _ _ (by omega) (by omega) (by omega)).trans h.pQ, fun j hj => ?_⟩
  · have := hS b hb
    exact hc2 b o (by omega) (by omega) (by omega)
  · exact own_below ho (B := B + 2) ((Below.refl _ _).setCell (show B + 2 ≤ B + 2 from Nat.le_refl _) _) fun g e => by cases e; show B + 1 < B + 2; omega
  · simp [go_sem, hp]
  · simp [go_sem, hf]
  · obtain ⟨c1, c2, c3, c4⟩ := h.tab j hj
    exact ⟨(hc2 _ _ (by omega) (by omega) (by omega)).trans c1, (hc2 _ _ (by omega) (by omega) (by omega)).trans c2, (hc2 _ _ (by omega) (by omega) (by omega)).trans c3, (hc2 _ _ (by omega) (by omega) (by omega)).trans c4⟩
/-- A cell of the row has been written. -/
theorem PlW.stored {B n c : Nat} {A0 : Option Addr} {body : List Pt} {S : Nat → Prop} {k : Nat} {vs : List Value} {w : World} (h : PlW B n c A0 body S k vs w) (hS : ∀ b, S b → b < B) (hG : 0 < B) (j : Nat) (u : Value) :
    PlW B n c A0 body S k (vs.set j u) (w.setCell ⟨B + 1, j, none⟩ u) := by
  have hB := h.hB
  have hc : ∀ b o, b ≠ B + 1 → (w.setCell ⟨B + 1, j, none⟩ u).cell? ⟨b, o, none⟩ = w.cell? ⟨b, o, none⟩ := fun b o hn =>
    World.cell?_setCell_other _ _ _ _ (fun e => by injection e with e; exact hn e.symm)
  refine ⟨by simpa using hB, (hc _ _ (by omega)).trans h.d2, h.row.keep fun b o hb => ?_, (h.own.stored j u).1, (hc _ _ (by omega)).trans h.pP, ?_, (hc _ _ (by omega)).trans h.pQ, fun i hi => ?_⟩
  · have := hS b hb
    exact hc b o (by omega)
  · have := h.pF
    simp [go_sem, this]
  · obtain ⟨c1, c2, c3, c4⟩ := h.tab i hi
    exact ⟨(hc _ _ (by omega)).trans c1, (hc _ _ (by omega)).trans c2, (hc _ _ (by omega)).trans c3, (hc _ _ (by omega)).trans c4⟩
theorem info_Pl : (Tryd.prog.info? 69).map (fun i => (i.zero, i.size, i.bytes)) = some (some (.agg #[.int .i64 0, .int .i64 0, .string ByteArray.empty, .slice none 0 0, .int .i64 0, .int .i64 0, .bool false]), 7, 80) := by kernel_rfl
end Go.Proofs.YthinoagdgbnphaaDoor
