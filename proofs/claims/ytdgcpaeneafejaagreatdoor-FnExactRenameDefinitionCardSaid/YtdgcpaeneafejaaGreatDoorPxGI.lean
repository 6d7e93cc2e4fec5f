/- Bodies in their places: subtrees one behind the other, rows that read as them, worlds that differ in two blocks. -/
/- The closure that places the parts of a body one after the other. -/
/- Bodies in their places: what the program hands back. -/
import Derived.Test.YtdgcpaeneafejaaGreatDoorPxE
import Derived.OwnWalk
import Derived.Deep.AppendLies
import Derived.Laws.EntriesVeiled
namespace Go.Proofs.YtdgcpaeneafejaaGreatDoor
open Go.RowKit
def Px.head : Px → Pt
  | .leaf p => p
  | .one p _ => p
  | .two p _ _ => p
def Px.kids : Px → List Px
  | .leaf _ => []
  | .one _ a => [a]
  | .two _ a b => [a, b]
def sizeL : List Px → Nat
  | [] => 0
  | y :: ys => y.size + sizeL ys
def annL : List Px → Nat → Int → Bool → List An
  | [], _, _, _ => []
  | y :: ys, n, s, c => y.ann n s c ++ annL ys (n + y.size) s c
theorem Px.ann_kids (x : Px) (n : Nat) (s : Int) (c : Bool) : x.ann n s c = ⟨x.head, n + x.size, s, c⟩ :: annL x.kids (n + 1) (s + sm x.head) (x.head.k == 1) := by
  cases x <;> simp [Px.ann, Px.kids, Px.head, annL, Px.size]
theorem Px.size_kids (x : Px) : x.size = 1 + sizeL x.kids := by
  cases x <;> simp [Px.size, Px.kids, sizeL]
theorem Px.flat_kids (x : Px) : x.flat = x.head :: x.kids.flatMap Px.flat := by
  cases x <;> simp [Px.flat, Px.kids, Px.head]
theorem Px.ok_kids {x : Px} (h : x.ok) : fol x.head = x.kids.length ∧ ∀ y ∈ x.kids, y.ok := by
  cases x with
  | leaf p => exact ⟨h, by simp [Px.kids]⟩
  | one p a => exact ⟨h.1, by simpa [Px.kids] using h.2⟩
  | two p a b => exact ⟨h.1, by simpa [Px.kids] using h.2⟩
theorem sizeL_take {l : List Px} : ∀ {i : Nat} {y : Px}, l[i]? = some y → sizeL (l.take (i + 1)) = sizeL (l.take i) + y.size := by
  induction l with
  | nil => intro i y h; simp at h
  | cons a l ih =>
    intro i y h
    rcases i with _ | i
    · simp at h; subst h; simp [sizeL]
    · have := ih (i := i) (y := y) (by simpa using h)
      simp only [List.take_succ_cons, sizeL, this]; omega
theorem annL_take {l : List Px} : ∀ {i : Nat} {y : Px} (n : Nat) (s : Int) (c : Bool), l[i]? = some y → annL (l.take (i + 1)) n s c = annL (l.take i) n s c ++ y.ann (n + sizeL (l.take i)) s c := by
  induction l with
  | nil => intro i y n s c h; simp at h
  | cons a l ih =>
    intro i y n s c h
    rcases i with _ | i
    · simp at h; subst h; simp [annL, sizeL]
    · have := ih (i := i) (y := y) (n + a.size) s c (by simpa using h)
      simp only [List.take_succ_cons, annL, this, sizeL, List.append_assoc]
      rw [show n + a.size + sizeL (l.take i) = n + (a.size + sizeL (l.take i)) by omega]
theorem flat_drop {l : List Px} : ∀ {i : Nat} {y : Px} (r : List Pt), l[i]? = some y → (l.flatMap Px.flat ++ r).drop (sizeL (l.take i)) = y.flat ++ ((l.drop (i + 1)).flatMap Px.flat ++ r) := by
  induction l with
  | nil => intro i y r h; simp at h
  | cons a l ih =>
    intro i y r h
    rcases i with _ | i
    · simp at h; subst h; simp [sizeL]
    · have := ih (i := i) (y := y) r (by simpa using h)
      simp only [List.take_succ_cons, sizeL, List.flatMap_cons, List.append_assoc, List.drop_succ_cons]
      rw [← List.drop_drop, List.drop_left' (Px.flat_len a), this]
theorem sizeL_le {l : List Px} {i : Nat} : sizeL (l.take i) ≤ sizeL l := by
  induction l generalizing i with
  | nil => simp
  | cons a l ih =>
    rcases i with _ | i
    · simp [sizeL]
    · have := ih (i := i)
      simp only [List.take_succ_cons, sizeL]; omega
theorem sizeL_next {l : List Px} {i : Nat} {y : Px} (h : l[i]? = some y) : sizeL (l.take i) + y.size ≤ sizeL l := by
  rw [← sizeL_take h]; exact sizeL_le
/-- A part in its place as a record. -/
def anR : Rec An where
  R w S a vs := ∃ E ce, vs = [.int .i64 a.p.k, .int .i64 a.p.n, .string a.p.nm, .slice E a.p.args.length ce, .int .i64 a.e, .int .i64 a.s, .bool a.c] ∧ a.p.nm.size ≤ maxLen ∧ a.p.args.length ≤ ce ∧ ce ≤ maxLen ∧ LRow (listR tmR) w S E a.p.args
  width := 7
  pos := by decide
  len h := by obtain ⟨A, c, rfl, _⟩ := h; rfl
  keep h hk := by obtain ⟨A, c, e, h0, h1, h2, h3⟩ := h; exact ⟨A, c, e, h0, h1, h2, h3.keep hk⟩
  more h hS := by obtain ⟨A, c, e, h0, h1, h2, h3⟩ := h; exact ⟨A, c, e, h0, h1, h2, h3.more hS⟩
/-- Cells that read as a list of records. -/
def Rds {α : Type} (F : Rec α) (w : World) (S : Nat → Prop) (vs : List Value) (xs : List α) : Prop :=
  vs.length = xs.length * F.width ∧ ∀ k x, xs[k]? = some x → F.R w S x ((vs.drop (k * F.width)).take F.width)
theorem Rds.nil {α : Type} {F : Rec α} {w : World} {S : Nat → Prop} : Rds F w S [] [] := ⟨by simp, fun k x h => by simp at h⟩
theorem Rds.one {α : Type} {F : Rec α} {w : World} {S : Nat → Prop} {cs : List Value} {x : α} (h : F.R w S x cs) : Rds F w S cs [x] :=
  ⟨by rw [F.len h]; simp, fun k y hk => by
    rcases k with _ | k
    · simp at hk; subst hk
      rw [Nat.zero_mul, List.drop_zero, List.take_of_length_le (by rw [F.len h]; exact Nat.le_refl _)]; exact h
    · simp at hk⟩
theorem Rds.app {α : Type} {F : Rec α} {w : World} {S : Nat → Prop} {vs us : List Value} {xs ys : List α} (h : Rds F w S vs xs) (g : Rds F w S us ys) : Rds F w S (vs ++ us) (xs ++ ys) := by
  refine ⟨by rw [List.length_append, List.length_append, h.1, g.1, Nat.add_mul], fun k x hk => ?_⟩
  by_cases hlt : k < xs.length
  · rw [List.getElem?_append_left hlt] at hk
    have hle : (k + 1) * F.width ≤ xs.length * F.width := Nat.mul_le_mul_right _ hlt
    rw [Nat.succ_mul] at hle
    rw [List.drop_append_of_le_length (by rw [h.1]; omega), List.take_append_of_le_length (by rw [List.length_drop, h.1]; omega)]
    exact h.2 k x hk
  · rw [List.getElem?_append_right (by omega)] at hk
    have e : k * F.width = vs.length + (k - xs.length) * F.width := by rw [h.1, ← Nat.add_mul]; congr 1; omega
    rw [e, ← List.drop_drop, List.drop_left]
    exact g.2 _ x hk
theorem Rds.keep {α : Type} {F : Rec α} {w w' : World} {S : Nat → Prop} {vs : List Value} {xs : List α} (h : Rds F w S vs xs) (hk : SameOn S w w') : Rds F w' S vs xs :=
  ⟨h.1, fun k x hx => F.keep (h.2 k x hx) hk⟩
theorem Rds.lrow {α : Type} {F : Rec α} {w : World} {lo n c g : Nat} {T : TypeId} {S S' : Nat → Prop} {vs : List Value} {xs : List α} (h : Rds F w S vs xs) (ho : w.ownsRow lo T F.width (.slice (some ⟨g, 0, none⟩) n c) n vs) (hS : ∀ b, S b → S' b) (hg : S' g) : LRow F w S' (some ⟨g, 0, none⟩) xs :=
  ⟨vs, SRow.of_own ho S' (fun g' e => by cases e; exact hg), h.1, fun k x hx => F.more (h.2 k x hx) hS⟩
/-- The world w' is w but for the blocks B + 1 and B + 2 and new ones. -/
structure Two (B : Nat) (w w' : World) : Prop where
  os : w'.os = w.os
  tape : w'.tape = w.tape
  output : w'.output = w.output
  size : w.heap.size ≤ w'.heap.size
  block : ∀ k, k < w.heap.size → k ≠ B + 1 → k ≠ B + 2 → w'.heap[k]? = w.heap[k]?
theorem Two.refl (B : Nat) (w : World) : Two B w w := ⟨rfl, rfl, rfl, Nat.le_refl _, fun _ _ _ _ => rfl⟩
theorem Two.trans {B : Nat} {a b c : World} (h : Two B a b) (g : Two B b c) : Two B a c :=
  ⟨g.os.trans h.os, g.tape.trans h.tape, g.output.trans h.output, Nat.le_trans h.size g.size, fun k hk h1 h2 => (g.block k (Nat.lt_of_lt_of_le hk h.size) h1 h2).trans (h.block k hk h1 h2)⟩
theorem Two.of_below {B : Nat} {w w' : World} (h : Below w.heap.size w w') : Two B w w' := ⟨h.os, h.tape, h.output, h.size, fun k hk _ _ => h.block k hk⟩
theorem Two.alloc {B : Nat} {a w : World} (h : Two B a w) (o : Obj) : Two B a (w.alloc o) := h.trans (.of_below ((Below.refl _ _).alloc (Nat.le_refl _) o))
theorem Two.grown {B : Nat} {a w w' : World} (h : Two B a w) (hg : w.grownBy w' (some (B + 1))) : Two B a w' :=
  h.trans ⟨hg.os, hg.tape, hg.output, hg.size, fun k hk h1 _ => hg.block k hk (by intro e; injection e with e; exact h1 e)⟩
theorem Two.setCell {B : Nat} {a w : World} (h : Two B a w) {p : Addr} (hp : a.heap.size ≤ p.block ∨ p.block = B + 1 ∨ p.block = B + 2) (u : Value) : Two B a (w.setCell p u) :=
  ⟨h.os, h.tape, h.output, by have := h.size; simpa using this, fun k hk h1 h2 => (Below.heap_setCell w p u k (by omega)).trans (h.block k hk h1 h2)⟩
theorem Two.cell {B : Nat} {w w' : World} (h : Two B w w') {b o : Nat} (hb : b < w.heap.size) (h1 : b ≠ B + 1) (h2 : b ≠ B + 2) : w'.cell? ⟨b, o, none⟩ = w.cell? ⟨b, o, none⟩ :=
  World.cell?_of_block (w := w) (h.block b hb h1 h2)
theorem Two.below {B : Nat} {w w' : World} (h : Two B w w') (hB : B < w.heap.size) : Below (B + 1) w w' :=
  ⟨h.os, h.tape, h.output, h.size, fun k hk => h.block k (by omega) (by omega) (by omega)⟩
/-- The closure's world: where the definition, the row of placed parts, its slice and the closure itself lie. -/
structure PlW (B n c : Nat) (A0 : Option Addr) (body : List Pt) (S : Nat → Prop) (k : Nat) (vs : List Value) (w : World) : Prop where
  hB : B + 3 < w.heap.size
  d2 : w.cell? ⟨B, 2, none⟩ = some (.slice A0 n c)
  row : LRow ptR w S A0 body
  own : w.ownsRow (B + 1) 160 7 (.slice (some ⟨B + 1, 0, none⟩) k n) k vs
  pP : w.cell? ⟨B + 2, 0, none⟩ = some (.slice (some ⟨B + 1, 0, none⟩) k n)
  pF : w.frozen? ⟨B + 2, 0, none⟩ = false
  pQ : w.cell? ⟨B + 3, 0, none⟩ = some (.func (.func 152) #[] #[.pointer (some ⟨B + 2, 0, none⟩), .pointer (some ⟨B, 0, none⟩), .pointer (some ⟨B + 3, 0, none⟩)])
  tab : FormTab w
/-- New blocks change nothing of it. -/
theorem PlW.below {B n c : Nat} {A0 : Option Addr} {body : List Pt} {S : Nat → Prop} {k : Nat} {vs : List Value} {w w' : World} (h : PlW B n c A0 body S k vs w) (hb : Below w.heap.size w w') (hS : ∀ b, S b → b < B) : PlW B n c A0 body S k vs w' :=
  have hB := h.hB
  ⟨Nat.lt_of_lt_of_le h.hB hb.size, (hb.cell (p := ⟨_, _, none⟩) (show B < w.heap.size by omega)).trans h.d2, h.row.keep (SameOn.of_below hb fun b hs => by have := hS b hs; omega), own_below' h.own hb, (hb.cell (p := ⟨_, _, none⟩) (show B + 2 < w.heap.size by omega)).trans h.pP, (hb.frozen (p := ⟨_, _, none⟩) (show B + 2 < w.heap.size by omega)).trans h.pF, (hb.cell (p := ⟨_, _, none⟩) (show B + 3 < w.heap.size by omega)).trans h.pQ, h.tab.below hb⟩
/-- The row has grown, and its slice has been stored. -/
theorem PlW.grown {B n c : Nat} {A0 : Option Addr} {body : List Pt} {S : Nat → Prop} {k k2 : Nat} {vs us : List Value} {w w' : World} (h : PlW B n c A0 body S k vs w) (hS : ∀ b, S b → b < B) (hG : 0 < B) (hg : w.grownBy w' (some (B + 1)))
    (ho : w'.ownsRow (B + 1) 160 7 (.slice (some ⟨B + 1, 0, none⟩) k2 n) k2 us) :
    PlW B n c A0 body S k2 us (w'.setCell ⟨B + 2, 0, none⟩ (.slice (some ⟨B + 1, 0, none⟩) k2 n)) := by
  have hB := h.hB
  have hs := hg.size
  have hc : ∀ b o, b < w.heap.size → b ≠ B + 1 → w'.cell? ⟨b, o, none⟩ = w.cell? ⟨b, o, none⟩ := fun b o hb hn => World.cell?_of_block (hg.block b hb (by intro e; injection e with e; exact hn e))
  have hc2 : ∀ b o, b < w.heap.size → b ≠ B + 1 → b ≠ B + 2 → (w'.setCell ⟨B + 2, 0, none⟩ (.slice (some ⟨B + 1, 0, none⟩) k2 n)).cell? ⟨b, o, none⟩ = w.cell? ⟨b, o, none⟩ := fun b o hb hn h2 =>
    (World.cell?_setCell_other _ _ _ _ (fun e => by injection e with e; exact h2 e.symm)).trans (hc b o hb hn)
  have hf : w'.frozen? ⟨B + 2, 0, none⟩ = false := (World.frozen?_of_block (hg.block (B + 2) (by omega) (by simp))).trans h.pF
  have hp : w'.cell? ⟨B + 2, 0, none⟩ = some (.slice (some ⟨B + 1, 0, none⟩) k n) := (hc _ _ (by omega) (by omega)).trans h.pP
  refine ⟨by simpa using Nat.lt_of_lt_of_le hB hs, (hc2 _ _ (by omega) (by omega) (by omega)).trans h.d2, h.row.keep fun b o hb => ?_, ?_, ?_, ?_, (hc2 _ _ (by omega) (by omega) (by omega)).trans h.pQ, fun j hj => ?_⟩
  · have := hS b hb
    exact hc2 b o (by omega) (by omega) (by omega)
  · exact own_below ho (B := B + 2) ((Below.refl _ _).setCell (show B + 2 ≤ B + 2 from Nat.le_refl _) _) fun g e => by cases e; show B + 1 < B + 2; omega
  · simp [go_sem, hp]
  · simp [go_sem, hf]
  · obtain ⟨c1, c2, c3, c4⟩ := h.tab j hj
    exact ⟨(hc2 _ _ (by omega) (by omega) (by omega)).trans c1, (hc2 _ _ (by omega) (by omega) (by omega)).trans c2, (hc2 _ _ (by omega) (by omega) (by omega)).trans c3, (hc2 _ _ (by omega) (by omega) (by omega)).trans c4⟩
/-- A cell of the row has been written. -/
theorem PlW.stored {B n c : Nat} {A0 : Option Addr} {body : List Pt} {S : Nat → Prop} {k : Nat} {vs : List Value} {w : World} (h : PlW B n c A0 body S k vs w) (hS : ∀ b, S b → b < B) (hG : 0 < B) (j : Nat) (u : Value) :
    PlW B n c A0 body S k (vs.set j u) (w.setCell ⟨B + 1, j, none⟩ u) := by
  have hB := h.hB
  have hc : ∀ b o, b ≠ B + 1 → (w.setCell ⟨B + 1, j, none⟩ u).cell? ⟨b, o, none⟩ = w.cell? ⟨b, o, none⟩ := fun b o hn =>
    World.cell?_setCell_other _ _ _ _ (fun e => by injection e with e; exact hn e.symm)
  refine ⟨by simpa using hB, (hc _ _ (by omega)).trans h.d2, h.row.keep fun b o hb => ?_, (h.own.stored j u).1, (hc _ _ (by omega)).trans h.pP, ?_, (hc _ _ (by omega)).trans h.pQ, fun i hi => ?_⟩
  · have := hS b hb
    exact hc b o (by omega)
  · have := h.pF
    simp [go_sem, this]
  · obtain ⟨c1, c2, c3, c4⟩ := h.tab i hi
    exact ⟨(hc _ _ (by omega)).trans c1, (hc _ _ (by omega)).trans c2, (hc _ _ (by omega)).trans c3, (hc _ _ (by omega)).trans c4⟩
theorem info_Pl : (Tryz.prog.info? 160).map (fun i => (i.zero, i.size, i.bytes)) = some (some (.agg #[.int .i64 0, .int .i64 0, .string ByteArray.empty, .slice none 0 0, .int .i64 0, .int .i64 0, .bool false]), 7, 80) := by kernel_rfl
end Go.Proofs.YtdgcpaeneafejaaGreatDoor

namespace Go.Proofs.YtdgcpaeneafejaaGreatDoor
open Go.RowKit
def PlaceAt (x : Px) : Prop := ∀ (w : World) (B n cA : Nat) (A0 : Option Addr) (body : List Pt) (S : Nat → Prop) (k : Nat) (vs : List Value) (s : Int) (cc : Bool) (r : List Pt),
  x.ok → body.drop k = x.flat ++ r → body.length = n → n ≤ 20 → (0 ≤ s ∧ s ≤ 3 + k) → (∀ b, S b → b < B) → 0 < B → PlW B n cA A0 body S k vs w →
  Calls Tryz.prog 152 #[.int .i64 s, .bool cc, .pointer (some ⟨B + 2, 0, none⟩), .pointer (some ⟨B, 0, none⟩), .pointer (some ⟨B + 3, 0, none⟩)] w fun e w' =>
    e = .returned (.tuple #[]) ∧ Two B w w' ∧ ∃ news, PlW B n cA A0 body S (k + x.size) (vs ++ news) w' ∧ Rds anR w' S news (x.ann k s cc)
theorem set_mid {vs c us : List Value} {k : Nat} (h : vs.length = k * 7) (hc : c.length = 7) (u : Value) : (vs ++ (c ++ us)).set (k * 7 + 4) u = vs ++ (c.set 4 u ++ us) := by
  rw [List.set_append_right _ _ (by omega), h, show k * 7 + 4 - k * 7 = 4 by omega, List.set_append_left _ _ (by omega)]
theorem news_new (w : World) (o1 : Obj) (cs : Array Value) (t : TypeId) : ∀ j u, cs.toList[j]? = some u → ((w.alloc o1).alloc (.cells cs t)).cell? ((⟨w.heap.size + 1, 0, none⟩ : Addr).add j) = some u := by
  intro j u hj
  have hadd : (⟨w.heap.size + 1, 0, none⟩ : Addr).add j = ⟨w.heap.size + 1, j, none⟩ := by unfold Addr.add; split <;> simp_all
  rw [hadd, World.cell?_alloc_at _ _ _ _ (by simp)]
  simpa using hj
theorem one_cells (a b : Int) (c : ByteArray) (E : Option Addr) (l d : Nat) (e f : Int) (g : Bool) : ∀ u ∈ ([.int .i64 a, .int .i64 b, .string c, .slice E l d, .int .i64 e, .int .i64 f, .bool g] : List Value), u.oneCell' = true := by
  intro u hu
  simp only [List.mem_cons, List.not_mem_nil, or_false] at hu
  rcases hu with rfl | rfl | rfl | rfl | rfl | rfl | rfl <;> rfl
set_option maxRecDepth 100000 in
set_option maxHeartbeats 4000000 in
theorem place_node (x : Px) (IH : ∀ y ∈ x.kids, PlaceAt y) : PlaceAt x := by
  intro w B n cA A0 body S k vs s cc r hok hdrop hlen hn hs hSB hG h
  have hsz := x.size_kids
  have hkn : k + x.size ≤ n := by
    have e := congrArg List.length hdrop
    rw [List.length_drop, List.length_append, Px.flat_len, hlen] at e
    omega
  have hk : k < n := by omega
  have hkl : x.kids.length ≤ 2 := by cases x <;> simp [Px.kids]
  obtain ⟨hfol, hoks⟩ := Px.ok_kids hok
  have hx : body[k]? = some x.head := by
    have e : (body.drop k)[0]? = some x.head := by rw [hdrop, Px.flat_kids]; rfl
    rw [List.getElem?_drop, Nat.add_zero] at e; exact e
  have hd1 : body.drop (k + 1) = x.kids.flatMap Px.flat ++ r := by
    rw [← List.drop_drop, hdrop, Px.flat_kids]; rfl
  obtain ⟨b0, o0, cs0, x0, rfl, hb0, hR0, hx0, hc0⟩ := h.row.at_ (k := k) (by rw [hlen]; exact hk)
  obtain rfl : x0 = x.head := by have := hx0.out.symm.trans hx; injection this
  obtain ⟨E, ce, rfl, hz1, hlc1, hcm1, hr1⟩ := hR0
  have p0 : w.cell? ⟨b0, o0 + k * 4, none⟩ = some (.int .i64 x.head.k) := hc0 0 _ rfl
  have p1 : w.cell? ⟨b0, o0 + k * 4 + 1, none⟩ = some (.int .i64 x.head.n) := hc0 1 _ rfl
  have p2 : w.cell? ⟨b0, o0 + k * 4 + 2, none⟩ = some (.string x.head.nm) := hc0 2 _ rfl
  have p3 : w.cell? ⟨b0, o0 + k * 4 + 3, none⟩ = some (.slice E x.head.args.length ce) := hc0 3 _ rfl
  have q2 := h.d2
  have qP := h.pP
  have hB := h.hB
  have hbb := hSB b0 hb0
  have l0 : b0 < w.heap.size := by omega
  have lB : B < w.heap.size := by omega
  have lP : B + 2 < w.heap.size := by omega
  have lQ : B + 3 < w.heap.size := by omega
  have HSB := Lib.hid hSB
  have HPL := Lib.hid h
  have HIH := Lib.hid IH
  have HROW := Lib.hid hr1
  have HOK := Lib.hid hoks
  have HD := Lib.hid hd1
  have HL := Lib.hid hlen
  have HSZ := Lib.hid hsz
  have HF := Lib.hid hfol
  have HVL := Lib.hid (show vs.length = k * 7 from h.own.1)
  have HANN := Lib.hid (x.ann_kids k s cc)
  obtain ⟨i0, hi, hz0, hzs, hzb⟩ := info_parts info_Pl
  clear h IH hc0 hr1 hx hx0 hoks hdrop hlen hSB hok hd1 hfol
  rcases h4 : (x.head.k == 4) with _ | _
  · have kb : (x.head.k == 4) = false := h4
    have HS2 := Lib.hid (show s + sm x.head = s by unfold sm; rw [if_neg (by simpa using h4)]; omega)
    clear h4
    go_enter Tryz.func152, Tryz.ntmps152
    go_wp2_with (at_builtin; refine wpList_append_fits _ rfl (.tmp 16) (.tmp 21) 161 rfl (B + 1) 160 i0 7 Tryz.underlying161 hi hzs (B + 1) k n vs rfl (by exact own_below' HPL.out.own (by repeat (first | exact Below.refl _ _ | refine Below.alloc ?_ (by simp <;> omega) _))) ⟨w.heap.size + 1, 0, none⟩ 1 1 [.int .i64 x.head.k, .int .i64 x.head.n, .string x.head.nm, .slice E x.head.args.length ce, .int .i64 0, .int .i64 s, .bool cc] rfl rfl (by exact news_new _ _ _ _) (one_cells _ _ _ _ _ _ _ _ _) (by omega) ?_; intro w2 hown2 hg2; have HP2 := Lib.hid (PlW.grown (HPL.out.below (w' := (w.alloc _).alloc _) (by repeat (first | exact Below.refl _ _ | refine Below.alloc ?_ (by simp <;> omega) _)) HSB.out) HSB.out hG hg2 hown2); have HT2 := Lib.hid (((((Two.refl B w).alloc _).alloc _).grown hg2).setCell (p := ⟨B + 2, 0, none⟩) (.inr (.inr rfl)) (.slice (some ⟨B + 1, 0, none⟩) (k + 1) n)); have r0 := (hg2.cell_far ⟨w.heap.size, 0, none⟩ (by simp <;> omega) (by simp; omega)).trans (show _ = some (.int .i64 x.head.k) by simp [go_sem]); have r1 := (hg2.cell_far ⟨w.heap.size, 1, none⟩ (by simp <;> omega) (by simp; omega)).trans (show _ = some (.int .i64 x.head.n) by simp [go_sem]); have r2 := (hg2.cell_far ⟨w.heap.size, 2, none⟩ (by simp <;> omega) (by simp; omega)).trans (show _ = some (.string x.head.nm) by simp [go_sem]); have r3 := (hg2.cell_far ⟨w.heap.size, 3, none⟩ (by simp <;> omega) (by simp; omega)).trans (show _ = some (.slice E x.head.args.length ce) by simp [go_sem]); have g1 := (hg2.cell_far ⟨B + 2, 0, none⟩ (by simp; omega) (by simp)).trans (show _ = some (.slice (some ⟨B + 1, 0, none⟩) k n) by simp [go_sem, qP, lP]); have g2 := (hg2.frozen_far ⟨B + 2, 0, none⟩ (by simp; omega) (by simp)).trans (show _ = false by simp [go_sem, HPL.out.pF, lP]); have hs2 := hg2.size; simp at hs2; clear hg2 hown2)
    have lH : w.heap.size < w2.heap.size := by omega
    have lP2 : B + 2 < w2.heap.size := by omega
    go_wp2_with (go_at_call 153; refine (implFollow_any x.head E ce _ HP2.out.tab).mono ?_; rintro e w3 ⟨rfl, hb3⟩; rw [HF.out])
    have HP3 := Lib.hid (HP2.out.below hb3 HSB.out)
    have HT3 := Lib.hid (HT2.out.trans (.of_below hb3))
    have z0 : w3.cell? ⟨w.heap.size, 0, none⟩ = some (.int .i64 x.head.k) := (hb3.cell (p := ⟨w.heap.size, 0, none⟩) (by simp; omega)).trans (by simp [go_sem, r0])
    have hs3 := hb3.size
    simp at hs3
    clear r0 r1 r2 r3 g1 g2 hb3 lH lP2 l0 p0 p1 p2 p3 q2 qP hi hz0 hzs hzb
    go_loopw [30] (fun iv wr => ∃ i : Nat, i ≤ x.kids.length ∧ iv = .int .i64 i ∧ wr.cell? ⟨w.heap.size, 0, none⟩ = some (.int .i64 x.head.k) ∧ Hid (Two B w wr) ∧ Hid (∃ news, PlW B n cA (some ⟨b0, o0, none⟩) body S (k + 1 + sizeL (x.kids.take i)) (vs ++ ([.int .i64 x.head.k, .int .i64 x.head.n, .string x.head.nm, .slice E x.head.args.length ce, .int .i64 0, .int .i64 s, .bool cc] ++ news)) wr ∧ Rds anR wr S news (annL (x.kids.take i) (k + 1) (s) (x.head.k == 1)))) (fun iv _ => x.kids.length - (intOf iv).toNat)
    case atStart => exact ⟨0, Nat.zero_le _, rfl, z0, HT3, Lib.hid ⟨[], by have := HP3.out; simpa [sizeL] using this, Rds.nil⟩⟩
    case round =>
      obtain ⟨i, hi, rfl, z1, HT, HN⟩ := hrel
      obtain ⟨news, hpl, hrd⟩ := HN.out
      have HPw := Lib.hid hpl
      have HRd := Lib.hid hrd
      have u3 := hpl.pQ
      have uP := hpl.pP
      have uF := hpl.pF
      have hwr := hpl.hB
      have lH : w.heap.size < wr.heap.size := World.block_lt_of_cell? wr _ z1
      have lP2 : B + 2 < wr.heap.size := by omega
      have lB2 : B < wr.heap.size := by omega
      clear hpl hrd HN z0
      by_cases hlt : i < x.kids.length
      · obtain ⟨y, hy⟩ : ∃ y, x.kids[i]? = some y := ⟨_, List.getElem?_eq_getElem hlt⟩
        have hm := List.mem_of_getElem? hy
        have hle := sizeL_next hy
        have hsz' := HSZ.out
        have HD2 := Lib.hid (show body.drop (k + 1 + sizeL (x.kids.take i)) = y.flat ++ ((x.kids.drop (i + 1)).flatMap Px.flat ++ r) by rw [← List.drop_drop, HD.out, flat_drop r hy])
        have HY := Lib.hid hy
        have CI := Lib.hid (fun bb => HIH.out y hm wr B n cA (some ⟨b0, o0, none⟩) body S (k + 1 + sizeL (x.kids.take i)) _ (s) bb _ (HOK.out y hm) HD2.out HL.out hn (by omega) HSB.out hG HPw.out)
        clear hm hy hle hsz'
        go_wp2_with (go_at_call 152; refine (CI.out _).mono ?_; rintro e w4 ⟨rfl, ht4, news2, hp4, hr4⟩)
        go_roundw
        case rel => exact ⟨i + 1, by omega, by go_num, (ht4.cell lH (by omega) (by omega)).trans z1, Lib.hid (HT.out.trans ht4), Lib.hid ⟨news ++ news2, by rw [sizeL_take HY.out, ← Nat.add_assoc]; simpa only [List.append_assoc] using hp4, by rw [annL_take _ _ _ HY.out]; exact (HRd.out.keep fun b o hb => by have := HSB.out b hb; exact ht4.cell (by omega) (by omega) (by omega)).app hr4⟩⟩
        case measure => simp [intOf]; omega
      · have hie : x.kids.take i = x.kids := List.take_of_length_le (by omega)
        have hN : k + 1 + sizeL (x.kids.take i) = k + x.size := by have := HSZ.out; rw [hie]; omega
        rw [hN] at HPw uP
        rw [hie] at HRd
        have h7 := HPw.out.own.1
        obtain ⟨⟨old, u5⟩, uf5⟩ := own_some HPw.out.own (k := k * 7 + 4) (by have := HSZ.out; omega)
        have hkN : k < k + x.size := by have := HSZ.out; omega
        have hsN : k + x.size ≤ 20 := by omega
        have HSame := Lib.hid (show SameOn S w (wr.setCell ⟨B + 1, k * 7 + 4, none⟩ (.int .i64 ((k + x.size : Nat) : Int))) from fun b o hb => by
          have := HSB.out b hb
          exact (World.cell?_setCell_other _ _ _ _ (fun e => by injection e with e; omega)).trans (HT.out.cell (by omega) (by omega) (by omega)))
        have HFin := Lib.hid (show Two B w (wr.setCell ⟨B + 1, k * 7 + 4, none⟩ (.int .i64 ((k + x.size : Nat) : Int))) ∧ ∃ news, PlW B n cA (some ⟨b0, o0, none⟩) body S (k + x.size) (vs ++ news) (wr.setCell ⟨B + 1, k * 7 + 4, none⟩ (.int .i64 ((k + x.size : Nat) : Int))) ∧ Rds anR (wr.setCell ⟨B + 1, k * 7 + 4, none⟩ (.int .i64 ((k + x.size : Nat) : Int))) S news (x.ann k s cc) from
          ⟨HT.out.setCell (.inr (.inl rfl)) _, [.int .i64 x.head.k, .int .i64 x.head.n, .string x.head.nm, .slice E x.head.args.length ce, .int .i64 ((k + x.size : Nat) : Int), .int .i64 s, .bool cc] ++ news, by
            have hst := HPw.out.stored HSB.out hG (k * 7 + 4) (.int .i64 ((k + x.size : Nat) : Int))
            rw [set_mid HVL.out rfl] at hst
            exact hst, by
            rw [HANN.out, HS2.out]
            exact Rds.app (xs := [⟨x.head, k + x.size, s, cc⟩]) (Rds.one (F := anR) ⟨E, ce, rfl, hz1, hlc1, hcm1, HROW.out.keep HSame.out⟩) (HRd.out.keep fun b o hb => by have := HSB.out b hb; exact World.cell?_setCell_other _ _ _ _ (fun e => by injection e with e; omega))⟩)
        obtain ⟨N, eN⟩ : ∃ N, N = k + x.size := ⟨_, rfl⟩
        rw [← eN] at uP hkN hsN HFin
        have lB1 : B + 1 < wr.heap.size := by omega
        have HEN := Lib.hid eN
        clear HPw hN h7 HSame eN
        go_wp2
        first | go_end0 | skip
        exact ⟨rfl, by have h := HFin.out; rw [← HEN.out]; exact h⟩
  · have kb : (x.head.k == 4) = true := h4
    have HS2 := Lib.hid (show s + sm x.head = s + 1 by unfold sm; rw [if_pos (by simpa using h4)])
    clear h4
    go_enter Tryz.func152, Tryz.ntmps152
    go_wp2_with (at_builtin; refine wpList_append_fits _ rfl (.tmp 16) (.tmp 21) 161 rfl (B + 1) 160 i0 7 Tryz.underlying161 hi hzs (B + 1) k n vs rfl (by exact own_below' HPL.out.own (by repeat (first | exact Below.refl _ _ | refine Below.alloc ?_ (by simp <;> omega) _))) ⟨w.heap.size + 1, 0, none⟩ 1 1 [.int .i64 x.head.k, .int .i64 x.head.n, .string x.head.nm, .slice E x.head.args.length ce, .int .i64 0, .int .i64 s, .bool cc] rfl rfl (by exact news_new _ _ _ _) (one_cells _ _ _ _ _ _ _ _ _) (by omega) ?_; intro w2 hown2 hg2; have HP2 := Lib.hid (PlW.grown (HPL.out.below (w' := (w.alloc _).alloc _) (by repeat (first | exact Below.refl _ _ | refine Below.alloc ?_ (by simp <;> omega) _)) HSB.out) HSB.out hG hg2 hown2); have HT2 := Lib.hid (((((Two.refl B w).alloc _).alloc _).grown hg2).setCell (p := ⟨B + 2, 0, none⟩) (.inr (.inr rfl)) (.slice (some ⟨B + 1, 0, none⟩) (k + 1) n)); have r0 := (hg2.cell_far ⟨w.heap.size, 0, none⟩ (by simp <;> omega) (by simp; omega)).trans (show _ = some (.int .i64 x.head.k) by simp [go_sem]); have r1 := (hg2.cell_far ⟨w.heap.size, 1, none⟩ (by simp <;> omega) (by simp; omega)).trans (show _ = some (.int .i64 x.head.n) by simp [go_sem]); have r2 := (hg2.cell_far ⟨w.heap.size, 2, none⟩ (by simp <;> omega) (by simp; omega)).trans (show _ = some (.string x.head.nm) by simp [go_sem]); have r3 := (hg2.cell_far ⟨w.heap.size, 3, none⟩ (by simp <;> omega) (by simp; omega)).trans (show _ = some (.slice E x.head.args.length ce) by simp [go_sem]); have g1 := (hg2.cell_far ⟨B + 2, 0, none⟩ (by simp; omega) (by simp)).trans (show _ = some (.slice (some ⟨B + 1, 0, none⟩) k n) by simp [go_sem, qP, lP]); have g2 := (hg2.frozen_far ⟨B + 2, 0, none⟩ (by simp; omega) (by simp)).trans (show _ = false by simp [go_sem, HPL.out.pF, lP]); have hs2 := hg2.size; simp at hs2; clear hg2 hown2)
    have lH : w.heap.size < w2.heap.size := by omega
    have lP2 : B + 2 < w2.heap.size := by omega
    go_wp2_with (go_at_call 153; refine (implFollow_any x.head E ce _ HP2.out.tab).mono ?_; rintro e w3 ⟨rfl, hb3⟩; rw [HF.out])
    have HP3 := Lib.hid (HP2.out.below hb3 HSB.out)
    have HT3 := Lib.hid (HT2.out.trans (.of_below hb3))
    have z0 : w3.cell? ⟨w.heap.size, 0, none⟩ = some (.int .i64 x.head.k) := (hb3.cell (p := ⟨w.heap.size, 0, none⟩) (by simp; omega)).trans (by simp [go_sem, r0])
    have hs3 := hb3.size
    simp at hs3
    clear r0 r1 r2 r3 g1 g2 hb3 lH lP2 l0 p0 p1 p2 p3 q2 qP hi hz0 hzs hzb
    go_loopw [30] (fun iv wr => ∃ i : Nat, i ≤ x.kids.length ∧ iv = .int .i64 i ∧ wr.cell? ⟨w.heap.size, 0, none⟩ = some (.int .i64 x.head.k) ∧ Hid (Two B w wr) ∧ Hid (∃ news, PlW B n cA (some ⟨b0, o0, none⟩) body S (k + 1 + sizeL (x.kids.take i)) (vs ++ ([.int .i64 x.head.k, .int .i64 x.head.n, .string x.head.nm, .slice E x.head.args.length ce, .int .i64 0, .int .i64 s, .bool cc] ++ news)) wr ∧ Rds anR wr S news (annL (x.kids.take i) (k + 1) (s + 1) (x.head.k == 1)))) (fun iv _ => x.kids.length - (intOf iv).toNat)
    case atStart => exact ⟨0, Nat.zero_le _, rfl, z0, HT3, Lib.hid ⟨[], by have := HP3.out; simpa [sizeL] using this, Rds.nil⟩⟩
    case round =>
      obtain ⟨i, hi, rfl, z1, HT, HN⟩ := hrel
      obtain ⟨news, hpl, hrd⟩ := HN.out
      have HPw := Lib.hid hpl
      have HRd := Lib.hid hrd
      have u3 := hpl.pQ
      have uP := hpl.pP
      have uF := hpl.pF
      have hwr := hpl.hB
      have lH : w.heap.size < wr.heap.size := World.block_lt_of_cell? wr _ z1
      have lP2 : B + 2 < wr.heap.size := by omega
      have lB2 : B < wr.heap.size := by omega
      clear hpl hrd HN z0
      by_cases hlt : i < x.kids.length
      · obtain ⟨y, hy⟩ : ∃ y, x.kids[i]? = some y := ⟨_, List.getElem?_eq_getElem hlt⟩
        have hm := List.mem_of_getElem? hy
        have hle := sizeL_next hy
        have hsz' := HSZ.out
        have HD2 := Lib.hid (show body.drop (k + 1 + sizeL (x.kids.take i)) = y.flat ++ ((x.kids.drop (i + 1)).flatMap Px.flat ++ r) by rw [← List.drop_drop, HD.out, flat_drop r hy])
        have HY := Lib.hid hy
        have CI := Lib.hid (fun bb => HIH.out y hm wr B n cA (some ⟨b0, o0, none⟩) body S (k + 1 + sizeL (x.kids.take i)) _ (s + 1) bb _ (HOK.out y hm) HD2.out HL.out hn (by omega) HSB.out hG HPw.out)
        clear hm hy hle hsz'
        go_wp2_with (go_at_call 152; refine (CI.out _).mono ?_; rintro e w4 ⟨rfl, ht4, news2, hp4, hr4⟩)
        go_roundw
        case rel => exact ⟨i + 1, by omega, by go_num, (ht4.cell lH (by omega) (by omega)).trans z1, Lib.hid (HT.out.trans ht4), Lib.hid ⟨news ++ news2, by rw [sizeL_take HY.out, ← Nat.add_assoc]; simpa only [List.append_assoc] using hp4, by rw [annL_take _ _ _ HY.out]; exact (HRd.out.keep fun b o hb => by have := HSB.out b hb; exact ht4.cell (by omega) (by omega) (by omega)).app hr4⟩⟩
        case measure => simp [intOf]; omega
      · have hie : x.kids.take i = x.kids := List.take_of_length_le (by omega)
        have hN : k + 1 + sizeL (x.kids.take i) = k + x.size := by have := HSZ.out; rw [hie]; omega
        rw [hN] at HPw uP
        rw [hie] at HRd
        have h7 := HPw.out.own.1
        obtain ⟨⟨old, u5⟩, uf5⟩ := own_some HPw.out.own (k := k * 7 + 4) (by have := HSZ.out; omega)
        have hkN : k < k + x.size := by have := HSZ.out; omega
        have hsN : k + x.size ≤ 20 := by omega
        have HSame := Lib.hid (show SameOn S w (wr.setCell ⟨B + 1, k * 7 + 4, none⟩ (.int .i64 ((k + x.size : Nat) : Int))) from fun b o hb => by
          have := HSB.out b hb
          exact (World.cell?_setCell_other _ _ _ _ (fun e => by injection e with e; omega)).trans (HT.out.cell (by omega) (by omega) (by omega)))
        have HFin := Lib.hid (show Two B w (wr.setCell ⟨B + 1, k * 7 + 4, none⟩ (.int .i64 ((k + x.size : Nat) : Int))) ∧ ∃ news, PlW B n cA (some ⟨b0, o0, none⟩) body S (k + x.size) (vs ++ news) (wr.setCell ⟨B + 1, k * 7 + 4, none⟩ (.int .i64 ((k + x.size : Nat) : Int))) ∧ Rds anR (wr.setCell ⟨B + 1, k * 7 + 4, none⟩ (.int .i64 ((k + x.size : Nat) : Int))) S news (x.ann k s cc) from
          ⟨HT.out.setCell (.inr (.inl rfl)) _, [.int .i64 x.head.k, .int .i64 x.head.n, .string x.head.nm, .slice E x.head.args.length ce, .int .i64 ((k + x.size : Nat) : Int), .int .i64 s, .bool cc] ++ news, by
            have hst := HPw.out.stored HSB.out hG (k * 7 + 4) (.int .i64 ((k + x.size : Nat) : Int))
            rw [set_mid HVL.out rfl] at hst
            exact hst, by
            rw [HANN.out, HS2.out]
            exact Rds.app (xs := [⟨x.head, k + x.size, s, cc⟩]) (Rds.one (F := anR) ⟨E, ce, rfl, hz1, hlc1, hcm1, HROW.out.keep HSame.out⟩) (HRd.out.keep fun b o hb => by have := HSB.out b hb; exact World.cell?_setCell_other _ _ _ _ (fun e => by injection e with e; omega))⟩)
        obtain ⟨N, eN⟩ : ∃ N, N = k + x.size := ⟨_, rfl⟩
        rw [← eN] at uP hkN hsN HFin
        have lB1 : B + 1 < wr.heap.size := by omega
        have HEN := Lib.hid eN
        clear HPw hN h7 HSame eN
        go_wp2
        first | go_end0 | skip
        exact ⟨rfl, by have h := HFin.out; rw [← HEN.out]; exact h⟩
theorem place_all (x : Px) : PlaceAt x := by
  induction x with
  | leaf p => exact place_node _ (by intro y hy; simp [Px.kids] at hy)
  | one p a ih => exact place_node _ (by intro y hy; simp [Px.kids] at hy; subst hy; exact ih)
  | two p a b iha ihb => exact place_node _ (by
      intro y hy
      simp [Px.kids] at hy
      rcases hy with h | h
      · rw [h]; exact iha
      · rw [h]; exact ihb)
end Go.Proofs.YtdgcpaeneafejaaGreatDoor

namespace Go.Proofs.YtdgcpaeneafejaaGreatDoor
open Go.RowKit
/-- 'make([]T, 0, n)': one new block. -/
theorem wpList_make_own1 {P : Program} (w : World) {ops : Array Oper} {rest : List Oper} {o : Oper} {a : Act} {Q : Exit → Act → World → Prop}
    (hg : o.guard = none) (l c : Operand) (t : TypeId) (hop : o.op = Op.makeSlice t l c)
    (base : Nat) (e : TypeId) (i : TypeInfo) (z : Value) (size : Nat) (h1 : P.underlying t = some (.slice e)) (h2 : P.info? e = some i) (h3 : i.zero = some z) (h4 : i.size = size)
    (kl kc : IntKind) (C : Int) (n : Nat) (hl : a.eval l = .int kl 0) (hc : a.eval c = .int kc C) (hC : C = (n : Int)) (b2 : i.bytes * n ≤ 281474976710656) (b3 : n ≤ maxLen) (b4 : base ≤ w.heap.size)
    (hK : ∀ w', w'.ownsRow base e size (.slice (some ⟨w.heap.size, 0, none⟩) 0 n) 0 [] → w.grownBy w' none → w'.heap.size = w.heap.size + 1 → wpList P ops Q rest (a.put o.dst (.slice (some ⟨w.heap.size, 0, none⟩) 0 n)) w') :
    wpList P ops Q (o :: rest) a w := by
  refine wpList_plain hg fun K hK' => ?_
  subst hC h4
  have h63' : (n : Int) ≤ 9223372036854775807 := by
    have h := b3
    simp [maxLen] at h
    omega
  have hb' : (i.bytes : Int) * (n : Int) ≤ 281474976710656 := by
    have h : ((i.bytes * n : Nat) : Int) ≤ 281474976710656 := by omega
    rwa [Int.natCast_mul] at h
  have hr := run_make (P := P) w t e i z h1 h2 h3 kl kc 0 n (Int.le_refl _) (by omega) hb' h63'
  simp only [Int.toNat_zero, Int.toNat_natCast] at hr
  unfold Oper.wp
  simp [execOp, hop, hl, hc, hr, Result.andThen]
  exact hK' _ _ (hK _ (World.ownsRow_made w _ n b4 b3 (size_madeCells _ _)) (World.grownBy_alloc w _ none) (by simp))
/-- The closure's world at its first call. -/
theorem plw_start {w w1 : World} {n c : Nat} {A0 : Option Addr} {body : List Pt} {S : Nat → Prop} (T1 T2 : TypeId) (h1 : w1.heap.size = w.heap.size + 2) (hb : Below w.heap.size w w1) (r2 : w1.cell? ⟨w.heap.size, 2, none⟩ = some (.slice A0 n c)) (hr : LRow ptR w S A0 body) (hS : ∀ b, S b → b < w.heap.size)
    (ho : w1.ownsRow (w.heap.size + 1) 160 7 (.slice (some ⟨w.heap.size + 1, 0, none⟩) 0 n) 0 []) (ht : FormTab w) :
    PlW w.heap.size n c A0 body S 0 [] ((w1.alloc (.cells #[.slice (some ⟨w.heap.size + 1, 0, none⟩) 0 n] T1)).alloc (.cells #[.func (.func 152) #[] #[.pointer (some ⟨w.heap.size + 2, 0, none⟩), .pointer (some ⟨w.heap.size, 0, none⟩), .pointer (some ⟨w.heap.size + 3, 0, none⟩)]] T2)) := by
  have hW : ∀ o1 o2 : Obj, Below w1.heap.size w1 ((w1.alloc o1).alloc o2) := fun o1 o2 => ((Below.refl _ _).alloc (Nat.le_refl _) _).alloc (by simp) _
  have hw : ∀ o1 o2 : Obj, Below w.heap.size w ((w1.alloc o1).alloc o2) := fun o1 o2 => hb.trans ((hW o1 o2).mono hb.size)
  refine ⟨by simp [h1], ((hW _ _).cell (p := ⟨_, _, none⟩) (show w.heap.size < w1.heap.size by omega)).trans r2, hr.keep (SameOn.of_below (hw _ _) hS), own_below' ho (hW _ _), ?_, ?_, ?_, ht.below (hw _ _)⟩
  · rw [World.cell?_alloc_past _ _ _ (by simp [h1]), World.cell?_alloc_at _ _ _ _ h1.symm]; rfl
  · simp [go_sem, h1]
  · rw [World.cell?_alloc_at _ _ _ _ (by simp [h1])]; rfl
set_option maxRecDepth 100000 in
set_option maxHeartbeats 4000000 in
theorem implPlaced_any (d : Df) (A0 : Option Addr) (c : Nat) (w : World) (S : Nat → Prop) (h : LRow ptR w S A0 d.body) (hS : ∀ b, S b → b < w.heap.size) (hsh : shapeB d.body = true) (hp0 : 0 ≤ d.ps) (hp3 : d.ps ≤ 3) (ht : FormTab w) :
    Calls Tryz.prog 129 #[.agg #[.string d.nm, .int .i64 d.ps, .slice A0 d.body.length c]] w fun e w' =>
      ∃ A, e = .returned (.slice A (annOf d).length (annOf d).length) ∧ LRow anR w' (fun b => S b ∨ b = w.heap.size + 1) A (annOf d) ∧ Below w.heap.size w w' ∧ w.heap.size + 1 < w'.heap.size := by
  have hmf : ∀ (fn : Fn) (first cap : Array Value) (w : World), (Instr.makeFunc fn first cap).run Tryz.prog w = .ok (.func fn first cap) w := fun _ _ _ _ => rfl
  obtain ⟨hf, hok, h20⟩ := pxOf_ok hsh
  have hlen : d.body.length = (pxOf d.body).size := by rw [← Px.flat_len, hf]
  have hn : d.body.length ≤ 20 := by omega
  have hal : (annOf d).length = d.body.length := annOf_len hsh
  obtain ⟨t1, _⟩ := ht 0 (by omega)
  have hG : 0 < w.heap.size := World.block_lt_of_cell? w _ t1
  clear t1
  have HRow := Lib.hid h
  have HS := Lib.hid hS
  have HTab := Lib.hid ht
  have HLen := Lib.hid hlen
  have HFl := Lib.hid hf
  have HOk := Lib.hid hok
  have HAl := Lib.hid hal
  obtain ⟨i0, hi, hz0, hzs, hzb⟩ := info_parts info_Pl
  generalize hN : d.body.length = n at *
  have HN := Lib.hid hN
  clear h hS ht hlen hf hok hsh hal hN
  go_enter Tryz.func129, Tryz.ntmps129
  go_wp2_with (at_make; refine wpList_make_own1 _ rfl _ _ _ rfl (w.heap.size + 1) 160 i0 _ 7 Tryz.underlying161 hi hz0 hzs .i64 .i64 _ n rfl rfl rfl (by rw [hzb]; omega) (by unfold maxLen; omega) (by simp) ?_; intro w1 hown1 hg1 hs1; go_loud (have r0 := (hg1.cell_far ⟨w.heap.size, 0, none⟩ (by simp) (by simp)).trans (show _ = some (.string d.nm) by simp [go_sem]); have r1 := (hg1.cell_far ⟨w.heap.size, 1, none⟩ (by simp) (by simp)).trans (show _ = some (.int .i64 d.ps) by simp [go_sem]); have r2 := (hg1.cell_far ⟨w.heap.size, 2, none⟩ (by simp) (by simp)).trans (show _ = some (.slice A0 n c) by simp [go_sem]); have HG1 := Lib.hid hg1; have HO1 := Lib.hid hown1; have HE := Lib.hid (show w1.heap.size = w.heap.size + 2 by simpa using hs1); have lB : w.heap.size < w1.heap.size := (by rw [HE.out]; omega); clear hown1 hg1 hs1))
  go_wp2_with fail
  have hsz1 := HE.out
  have hb1 : Below w.heap.size w w1 := ((Below.refl w.heap.size w).alloc (Nat.le_refl _) _).grown HG1.out (by simp) (by simp)
  have HB1 := Lib.hid hb1
  have HO := Lib.hid (show w1.ownsRow (w.heap.size + 1) 160 7 (.slice (some ⟨w.heap.size + 1, 0, none⟩) 0 n) 0 [] by have := HO1.out; simpa using this)
  have HP := Lib.hid (fun T1 T2 => plw_start (c := c) (S := S) T1 T2 hsz1 hb1 r2 HRow.out HS.out HO.out HTab.out)
  clear hb1
  rw [hsz1]
  refine (place_all (pxOf d.body) _ w.heap.size n c A0 d.body S 0 [] d.ps false [] HOk.out (by rw [List.drop_zero, List.append_nil, HFl.out]) HN.out hn ⟨hp0, by omega⟩ HS.out hG (HP.out _ _)).mono ?_
  rintro e w4 ⟨rfl, ht4, news, hp4, hr4⟩
  have hz : 0 + (pxOf d.body).size = n := by have := HLen.out; omega
  rw [hz] at hp4
  have q2 := hp4.pP
  have HF4 := Lib.hid (show LRow anR w4 (fun b => S b ∨ b = w.heap.size + 1) (some ⟨w.heap.size + 1, 0, none⟩) (annOf d) ∧ Below w.heap.size w w4 ∧ w.heap.size + 1 < w4.heap.size from
    ⟨hr4.lrow hp4.own (fun b hb => .inl hb) (.inr rfl), HB1.out.trans (Below.trans (((Below.refl _ _).alloc (by omega) _).alloc (by simp; omega) _) ((ht4.below (by simp; omega)).mono (by omega))), by have h := World.block_lt_of_cell? w4 _ q2; simp at h; omega⟩)
  have l4 : w.heap.size + 2 < w4.heap.size := World.block_lt_of_cell? w4 _ q2
  have HZ := Lib.hid HAl.out
  clear hp4 hr4 ht4 hz hsz1
  go_wp2
  go_ret
  exact ⟨some ⟨w.heap.size + 1, 0, none⟩, by rw [HZ.out]; rfl, HF4.out⟩
end Go.Proofs.YtdgcpaeneafejaaGreatDoor
