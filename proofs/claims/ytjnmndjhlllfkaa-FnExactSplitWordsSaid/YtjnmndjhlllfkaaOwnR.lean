/- Records whose memory is the call's own, no two parts of them sharing a block: what keeps such a reading, and one place of a list turned. -/
import Derived.Test.YtjnmndjhlllfkaaSRow
import Derived.Test.YtjnmndjhlllfkaaDat
namespace Go.Proofs.Ytjnmndjhlllfkaa
open Go.RowKit
/-- No block of S that is there has been turned. -/
def SameB (S : Nat → Prop) (w w' : World) : Prop := ∀ b, S b → b < w.heap.size → w'.heap[b]? = w.heap[b]?
/-- From w to w' nothing has turned but blocks of S, and new ones. -/
structure TurnS (S : Nat → Prop) (w w' : World) : Prop where
  os : w'.os = w.os
  tape : w'.tape = w.tape
  output : w'.output = w.output
  size : w.heap.size ≤ w'.heap.size
  block : ∀ k, k < w.heap.size → ¬ S k → w'.heap[k]? = w.heap[k]?
theorem TurnS.refl (S : Nat → Prop) (w : World) : TurnS S w w := ⟨rfl, rfl, rfl, Nat.le_refl _, fun _ _ _ => rfl⟩
theorem TurnS.trans {S : Nat → Prop} {a b c : World} (h : TurnS S a b) (k : TurnS S b c) : TurnS S a c :=
  ⟨k.os.trans h.os, k.tape.trans h.tape, k.output.trans h.output, Nat.le_trans h.size k.size, fun i hi hd => (k.block i (Nat.lt_of_lt_of_le hi h.size) hd).trans (h.block i hi hd)⟩
theorem TurnS.more {S S' : Nat → Prop} {w w' : World} (h : TurnS S w w') (hS : ∀ b, S b → S' b) : TurnS S' w w' :=
  ⟨h.os, h.tape, h.output, h.size, fun k hk hn => h.block k hk fun hs => hn (hS k hs)⟩
theorem TurnS.of_below {S : Nat → Prop} {w w' : World} (h : Below w.heap.size w w') : TurnS S w w' := ⟨h.os, h.tape, h.output, h.size, fun k hk _ => h.block k hk⟩
theorem TurnS.of_grown {S : Nat → Prop} {w w' : World} {g : Nat} (h : w.grownBy w' (some g)) (hg : S g) : TurnS S w w' :=
  ⟨h.os, h.tape, h.output, h.size, fun k hk hn => h.block k hk fun e => by injection e with e; subst e; exact hn hg⟩
theorem TurnS.below {S : Nat → Prop} {B : Nat} {w w' : World} (h : TurnS S w w') (hB : B ≤ w.heap.size) (hS : ∀ b, S b → B ≤ b) : Below B w w' :=
  ⟨h.os, h.tape, h.output, h.size, fun k hk => h.block k (by omega) fun hs => by have := hS k hs; omega⟩
theorem SameB.of_turn {S S' : Nat → Prop} {w w' : World} (h : TurnS S' w w') (hd : ∀ b, S b → ¬ S' b) : SameB S w w' := fun b hb hlt => h.block b hlt (hd b hb)
theorem SameB.of_below {S : Nat → Prop} {w w' : World} (h : Below w.heap.size w w') : SameB S w w' := fun b _ hlt => h.block b hlt
theorem SameB.of_belowB {S : Nat → Prop} {B : Nat} {w w' : World} (h : Below B w w') (hS : ∀ b, S b → b < B) : SameB S w w' := fun b hb _ => h.block b (hS b hb)
theorem SameB.more {S S' : Nat → Prop} {w w' : World} (h : SameB S w w') (hS : ∀ b, S' b → S b) : SameB S' w w' := fun b hb hlt => h b (hS b hb) hlt
theorem own_sameB {S : Nat → Prop} {w w' : World} {lo : Nat} {T : TypeId} {s n : Nat} {v : Value} {vs : List Value} (h : w.ownsRow lo T s v n vs) (hk : SameB S w w') (hS : ∀ g, v.ownBlock = some g → S g) : w'.ownsRow lo T s v n vs := by
  refine ⟨h.1, ?_⟩
  rcases h.2 with hn | ⟨g, cap, cur, rfl, hb, hg, rest⟩
  · exact .inl hn
  · exact .inr ⟨g, cap, cur, rfl, hb, by rw [hk g (hS g rfl) (Array.getElem?_eq_some_iff.1 hg).1]; exact hg, rest⟩
theorem own_low {w : World} {lo lo' : Nat} {T : TypeId} {s n : Nat} {v : Value} {vs : List Value} (h : w.ownsRow lo T s v n vs) (h1 : lo' ≤ lo) : w.ownsRow lo' T s v n vs := by
  refine ⟨h.1, ?_⟩
  rcases h.2 with hn | ⟨g, cap, cur, e, hb, rest⟩
  · exact .inl hn
  · exact .inr ⟨g, cap, cur, e, Nat.le_trans h1 hb, rest⟩
theorem own_cap {w : World} {lo : Nat} {T : TypeId} {s n c : Nat} {A : Option Addr} {vs : List Value} (h : w.ownsRow lo T s (.slice A n c) n vs) : n ≤ c ∧ c ≤ maxLen := by
  rcases h.2 with ⟨e, hn⟩ | ⟨g, cap, cur, e, hb, hg, hnc, hcm, _⟩
  · injection e with _ _ e3; subst e3; subst hn; exact ⟨Nat.le_refl _, by unfold maxLen; omega⟩
  · injection e with _ _ e3; subst e3; exact ⟨hnc, hcm⟩
/-- A kind of record with its memory its own: O says that all blocks that it holds lie in S, apart from one another. -/
structure Owd (α : Type) where
  F : Rec α
  O : World → (Nat → Prop) → α → List Value → Prop
  rd : ∀ {w S x vs}, O w S x vs → F.R w S x vs
  keep : ∀ {w w' S x vs}, O w S x vs → SameB S w w' → O w' S x vs
  more : ∀ {w S S' x vs}, O w S x vs → (∀ b, S b → S' b) → O w S' x vs
def intO : Owd Int where
  F := intR
  O w S x vs := intR.R w S x vs
  rd h := h
  keep h _ := h
  more h _ := h
def txtO : Owd ByteArray where
  F := txtR
  O w S x vs := txtR.R w S x vs
  rd h := h
  keep h _ := h
  more h _ := h
def tmO : Owd Tm where
  F := tmR
  O w S x vs := tmR.R w S x vs
  rd h := h
  keep h _ := h
  more h _ := h
def mtO : Owd Mt where
  F := mtR
  O w S x vs := mtR.R w S x vs
  rd h := h
  keep h _ := h
  more h _ := h
/-- The slice (A, n, c) of elements of the type T owns a row that reads as xs, the elements apart. -/
structure OL {α : Type} (G : Owd α) (T : TypeId) (w : World) (S : Nat → Prop) (A : Option Addr) (n c : Nat) (xs : List α) : Prop where
  len : xs.length = n
  top : ∀ g, (Value.slice A n c).ownBlock = some g → S g
  row : ∃ (vs : List Value) (E : Nat → Nat → Prop), w.ownsRow 0 T G.F.width (.slice A n c) n vs ∧ (∀ j x, xs[j]? = some x → G.O w (E j) x ((vs.drop (j * G.F.width)).take G.F.width)) ∧
    (∀ j b, j < n → E j b → S b ∧ (Value.slice A n c).ownBlock ≠ some b) ∧ ∀ i j b, i < n → j < n → i ≠ j → E i b → ¬ E j b
theorem OL.nil {α : Type} {G : Owd α} {T : TypeId} {w : World} {S : Nat → Prop} : OL G T w S none 0 0 [] :=
  ⟨rfl, fun g h => by simp [Value.ownBlock] at h, [], fun _ _ => False, World.ownsRow_nil _ _ _ _, fun j x h => by simp at h, fun j b h => by omega, fun i j b h => by omega⟩
theorem OL.cap {α : Type} {G : Owd α} {T : TypeId} {w : World} {S : Nat → Prop} {A : Option Addr} {n c : Nat} {xs : List α} (h : OL G T w S A n c xs) : n ≤ c ∧ c ≤ maxLen := by
  obtain ⟨_, _, vs, E, h1, _⟩ := h
  exact own_cap h1
theorem OL.keep {α : Type} {G : Owd α} {T : TypeId} {w w' : World} {S : Nat → Prop} {A : Option Addr} {n c : Nat} {xs : List α} (h : OL G T w S A n c xs) (hk : SameB S w w') : OL G T w' S A n c xs := by
  obtain ⟨hl, ht, vs, E, h1, h2, h3, h4⟩ := h
  exact ⟨hl, ht, vs, E, own_sameB h1 hk ht, fun j x hx => G.keep (h2 j x hx) (hk.more fun b hb => (h3 j b (by rw [← hl]; exact (List.getElem?_eq_some_iff.1 hx).1) hb).1), h3, h4⟩
theorem OL.more {α : Type} {G : Owd α} {T : TypeId} {w : World} {S S' : Nat → Prop} {A : Option Addr} {n c : Nat} {xs : List α} (h : OL G T w S A n c xs) (hS : ∀ b, S b → S' b) : OL G T w S' A n c xs := by
  obtain ⟨hl, ht, vs, E, h1, h2, h3, h4⟩ := h
  exact ⟨hl, fun g hg => hS g (ht g hg), vs, E, h1, h2, fun j b hj hb => ⟨hS b (h3 j b hj hb).1, (h3 j b hj hb).2⟩, h4⟩
theorem OL.lrow {α : Type} {G : Owd α} {T : TypeId} {w : World} {S : Nat → Prop} {A : Option Addr} {n c : Nat} {xs : List α} (h : OL G T w S A n c xs) : LRow G.F w S A xs := by
  obtain ⟨hl, ht, vs, E, h1, h2, h3, h4⟩ := h
  refine ⟨vs, SRow.of_own h1 S ht, by rw [hl]; exact h1.1, fun k x hx => G.F.more (G.rd (h2 k x hx)) fun b hb => (h3 k b (by rw [← hl]; exact (List.getElem?_eq_some_iff.1 hx).1) hb).1⟩
/-- A list of records as one cell. -/
def listO {α : Type} (G : Owd α) (T : TypeId) : Owd (List α) where
  F := listR G.F
  O w S x vs := ∃ A c, vs = [.slice A x.length c] ∧ OL G T w S A x.length c x
  rd h := by obtain ⟨A, c, rfl, h⟩ := h; exact ⟨A, c, rfl, h.cap.1, h.cap.2, h.lrow⟩
  keep h hk := by obtain ⟨A, c, rfl, h⟩ := h; exact ⟨A, c, rfl, h.keep hk⟩
  more h hS := by obtain ⟨A, c, rfl, h⟩ := h; exact ⟨A, c, rfl, h.more hS⟩
theorem chunk_pre {pre cs post : List Value} {k j d : Nat} (hp : pre.length = k * d) (hj : j < k) : ((pre ++ (cs ++ post)).drop (j * d)).take d = (pre.drop (j * d)).take d := by
  have hle : (j + 1) * d ≤ k * d := Nat.mul_le_mul_right _ hj
  rw [Nat.succ_mul] at hle
  rw [List.drop_append_of_le_length (by omega), List.take_append_of_le_length (by rw [List.length_drop]; omega)]
theorem chunk_post {pre cs post : List Value} {k j d : Nat} (hp : pre.length = k * d) (hc : cs.length = d) (hj : k < j) : ((pre ++ (cs ++ post)).drop (j * d)).take d = (post.drop (j * d - (k + 1) * d)).take d := by
  have hle : (k + 1) * d ≤ j * d := Nat.mul_le_mul_right _ hj
  have h2 : (k + 1) * d = k * d + d := Nat.succ_mul _ _
  rw [List.drop_append, List.drop_eq_nil_of_le (by omega), List.nil_append, List.drop_append, List.drop_eq_nil_of_le (by omega), List.nil_append]
  congr 2
  omega
/-- One element of an owned list, and the list with the element turned. -/
theorem OL.open_ {α : Type} {G : Owd α} {T : TypeId} {w : World} {S : Nat → Prop} {A : Option Addr} {n c k : Nat} {xs : List α} {x : α} (h : OL G T w S A n c xs) (hx : xs[k]? = some x) :
    ∃ (g : Nat) (pre cs post : List Value) (E : Nat → Prop), A = some ⟨g, 0, none⟩ ∧ S g ∧ ¬ E g ∧ (∀ b, E b → S b) ∧ pre.length = k * G.F.width ∧ g < w.heap.size ∧
      w.ownsRow 0 T G.F.width (.slice (some ⟨g, 0, none⟩) n c) n (pre ++ (cs ++ post)) ∧ G.O w E x cs ∧
      ∀ w' cs' x', w'.ownsRow 0 T G.F.width (.slice (some ⟨g, 0, none⟩) n c) n (pre ++ (cs' ++ post)) → G.O w' E x' cs' → TurnS (fun b => b = g ∨ E b) w w' → OL G T w' S A n c (xs.set k x') := by
  obtain ⟨hl, ht, vs, E, h1, h2, h3, h4⟩ := h
  have hk := (List.getElem?_eq_some_iff.1 hx).1
  have hw := G.F.pos
  have hle : (k + 1) * G.F.width ≤ n * G.F.width := Nat.mul_le_mul_right _ (by omega)
  have h0 := h1.1
  rw [Nat.succ_mul] at hle
  rcases h1.2 with ⟨_, hn⟩ | ⟨g, cap, cur, e, _, hg, _⟩
  · omega
  injection e with e1 _ e3
  subst e1 e3
  have hgS := ht g rfl
  refine ⟨g, vs.take (k * G.F.width), (vs.drop (k * G.F.width)).take G.F.width, (vs.drop (k * G.F.width)).drop G.F.width, E k, rfl, hgS, fun hE => (h3 k g (by omega) hE).2 rfl, fun b hb => (h3 k b (by omega) hb).1, by rw [List.length_take]; omega, (Array.getElem?_eq_some_iff.1 hg).1, ?_, h2 k x hx, ?_⟩
  · rw [List.take_append_drop, List.take_append_drop]; exact h1
  · intro w' cs' x' ho hO hT
    have hc' : cs'.length = G.F.width := G.F.len (G.rd hO)
    have hcl : ((vs.drop (k * G.F.width)).take G.F.width).length = G.F.width := by rw [List.length_take, List.length_drop]; omega
    have hpl : (vs.take (k * G.F.width)).length = k * G.F.width := by rw [List.length_take]; omega
    have hvs : vs = vs.take (k * G.F.width) ++ ((vs.drop (k * G.F.width)).take G.F.width ++ (vs.drop (k * G.F.width)).drop G.F.width) := by rw [List.take_append_drop, List.take_append_drop]
    refine ⟨by simpa using hl, ht, _, E, ho, fun j y hy => ?_, h3, h4⟩
    by_cases e : j = k
    · subst e
      rw [List.getElem?_set_self hk] at hy
      injection hy with hy
      subst hy
      have e2 : ((vs.take (j * G.F.width) ++ (cs' ++ (vs.drop (j * G.F.width)).drop G.F.width)).drop (j * G.F.width)).take G.F.width = cs' := by
        rw [List.drop_left' hpl, List.take_left' hc']
      rw [e2]; exact hO
    · rw [List.getElem?_set_ne (Ne.symm e)] at hy
      have hjn : j < n := by rw [← hl]; exact (List.getElem?_eq_some_iff.1 hy).1
      have hj := h2 j y hy
      have hsame : ((vs.take (k * G.F.width) ++ (cs' ++ (vs.drop (k * G.F.width)).drop G.F.width)).drop (j * G.F.width)).take G.F.width = (vs.drop (j * G.F.width)).take G.F.width := by
        rcases Nat.lt_or_gt_of_ne e with hlt | hgt
        · rw [chunk_pre hpl hlt]
          conv => rhs; rw [hvs]
          rw [chunk_pre hpl hlt]
        · rw [chunk_post hpl hc' hgt]
          conv => rhs; rw [hvs]
          rw [chunk_post hpl hcl hgt]
      rw [hsame]
      refine G.keep hj (SameB.of_turn hT fun b hb => ?_)
      rintro (rfl | hE)
      · exact (h3 j b hjn hb).2 rfl
      · exact h4 j k b hjn (by omega) e hb hE
theorem set_block {pre cs post : List Value} {p j : Nat} {v : Value} (hp : pre.length = p) (hj : j < cs.length) : (pre ++ (cs ++ post)).set (p + j) v = pre ++ (cs.set j v ++ post) := by
  subst hp
  rw [List.set_append_right _ _ (by omega), show pre.length + j - pre.length = j by omega, List.set_append_left _ _ hj]
/-- A cell of the element in place k. -/
theorem own_part {w : World} {T : TypeId} {d g n c k j p : Nat} {pre cs post : List Value} {v : Value} (h : w.ownsRow 0 T d (.slice (some ⟨g, 0, none⟩) n c) n (pre ++ (cs ++ post))) (hp : pre.length = k * d) (e : p = k * d + j) (hj : cs[j]? = some v) (hc : cs.length = d) (hk : k < n) :
    w.cell? ⟨g, p, none⟩ = some v ∧ w.frozen? ⟨g, p, none⟩ = false := by
  subst e
  have hjl := (List.getElem?_eq_some_iff.1 hj).1
  have hle : (k + 1) * d ≤ n * d := Nat.mul_le_mul_right _ hk
  rw [Nat.succ_mul] at hle
  refine ⟨?_, h.frozenAt _⟩
  rw [h.cellAt _ (by omega), List.getElem?_append_right (by omega), hp, show k * d + j - k * d = j by omega, List.getElem?_append_left hjl]
  exact hj
theorem own_store {w : World} {T : TypeId} {d g n c k j p : Nat} {pre cs post : List Value} (h : w.ownsRow 0 T d (.slice (some ⟨g, 0, none⟩) n c) n (pre ++ (cs ++ post))) (hp : pre.length = k * d) (e : p = k * d + j) (hj : j < cs.length) (v : Value) :
    (w.setCell ⟨g, p, none⟩ v).ownsRow 0 T d (.slice (some ⟨g, 0, none⟩) n c) n (pre ++ (cs.set j v ++ post)) ∧ TurnS (fun b => b = g) w (w.setCell ⟨g, p, none⟩ v) := by
  subst e
  have := h.stored (k * d + j) v
  rw [set_block hp hj] at this
  exact ⟨this.1, TurnS.of_grown this.2 rfl⟩
theorem SameB.refl (S : Nat → Prop) (w : World) : SameB S w w := fun _ _ _ => rfl
theorem SameB.setCell {S : Nat → Prop} {w w1 : World} {b o : Nat} {v : Value} (h : SameB S w w1) (hb : ¬ S b) : SameB S w (w1.setCell ⟨b, o, none⟩ v) := by
  intro b' hS hlt
  refine (heap_setCell_other w1 ⟨b, o, none⟩ b' v (fun e => ?_)).trans (h b' hS hlt)
  have e' : b' = b := e
  subst e'
  exact hb hS
def cpO : Owd Cp where
  F := cpR
  O w S x vs := ∃ A c, vs = [.int .i64 x.d, .slice A x.vs.length c] ∧ OL intO 2 w S A x.vs.length c x.vs
  rd h := by obtain ⟨A, c, rfl, h⟩ := h; exact ⟨A, c, rfl, h.cap.1, h.cap.2, h.lrow⟩
  keep h hk := by obtain ⟨A, c, rfl, h⟩ := h; exact ⟨A, c, rfl, h.keep hk⟩
  more h hS := by obtain ⟨A, c, rfl, h⟩ := h; exact ⟨A, c, rfl, h.more hS⟩
/-- A record of the call's own, handed back by value, its memory its own. -/
def MadeRO {α : Type} (G : Owd α) (x : α) (w : World) (e : Ending) (w' : World) : Prop := ∃ cs : List Value, e = .returned (.agg cs.toArray) ∧ G.O w' (In w.heap.size w'.heap.size) x cs ∧ Below w.heap.size w w'
theorem MadeRO.weak {α : Type} {G : Owd α} {x : α} {w w' : World} {e : Ending} (h : MadeRO G x w e w') : MadeR G.F x w e w' := by
  obtain ⟨cs, he, hO, hb⟩ := h
  exact ⟨cs, he, G.rd hO, hb⟩
/-- A slice of records of the call's own, its memory its own. -/
def MadeLO {α : Type} (G : Owd α) (T : TypeId) (xs : List α) (w : World) (e : Ending) (w' : World) : Prop :=
  e = .returned (.slice (some ⟨w.heap.size, 0, none⟩) xs.length xs.length) ∧ OL G T w' (In w.heap.size w'.heap.size) (some ⟨w.heap.size, 0, none⟩) xs.length xs.length xs ∧ Below w.heap.size w w'
theorem MadeLO.weak {α : Type} {G : Owd α} {T : TypeId} {xs : List α} {w w' : World} {e : Ending} (h : MadeLO G T xs w e w') : MadeL G.F xs w e w' := ⟨h.1, h.2.1.lrow, h.2.2⟩
/-- The first k elements of a list that is being made, in blocks from lo + 1 on, apart. -/
def MadeO {α : Type} (G : Owd α) (w : World) (lo k : Nat) (vs : List Value) (xs : List α) : Prop :=
  ∃ E : Nat → Nat → Prop, (∀ j y, j < k → xs[j]? = some y → G.O w (E j) y ((vs.drop (j * G.F.width)).take G.F.width)) ∧ (∀ j b, j < k → E j b → lo + 1 ≤ b ∧ b < w.heap.size) ∧ ∀ i j b, i < k → j < k → i ≠ j → E i b → ¬ E j b
theorem MadeO.zero {α : Type} (G : Owd α) (w : World) (lo : Nat) (vs : List Value) (xs : List α) : MadeO G w lo 0 vs xs := ⟨fun _ _ => False, fun j y h => by omega, fun j b h => by omega, fun i j b h => by omega⟩
theorem madeO_step {α : Type} (G : Owd α) {wr w2 w3 : World} {lo k : Nat} {vs cs : List Value} {xs : List α} {x : α} (hl : vs.length = k * G.F.width) (hR : G.O w2 (In wr.heap.size w2.heap.size) x cs) (hx : xs[k]? = some x)
    (ho : MadeO G wr lo k vs xs) (hb : Below wr.heap.size wr w2) (hlo : lo + 1 ≤ wr.heap.size) (hg : w2.grownBy w3 (some lo)) :
    (vs ++ cs).length = (k + 1) * G.F.width ∧ MadeO G w3 lo (k + 1) (vs ++ cs) xs := by
  have hcl := G.F.len (G.rd hR)
  have h23 := hg.size
  have h12 := hb.size
  obtain ⟨E, h1, h2, h3⟩ := ho
  have keep3 : ∀ S : Nat → Prop, (∀ b, S b → lo + 1 ≤ b) → SameB S w2 w3 := fun S hS b hb hlt => hg.block b hlt fun e => by injection e with e; have := hS b hb; omega
  refine ⟨by rw [List.length_append, hl, hcl, Nat.succ_mul], fun j => if j = k then In wr.heap.size w2.heap.size else E j, fun j y hj hy => ?_, fun j b hj hE => ?_, fun i j b hi hj hne hE hE2 => ?_⟩
  · by_cases e : j = k
    · subst e
      obtain rfl : y = x := by have := hy.symm.trans hx; injection this
      rw [← hl, List.drop_left, List.take_of_length_le (by omega)]
      simp only [if_true]
      exact G.keep hR (keep3 _ fun b h => by have := h.1; omega)
    · have hj' : j < k := by omega
      have hO := h1 j y hj' hy
      have hle : (j + 1) * G.F.width ≤ k * G.F.width := Nat.mul_le_mul_right _ hj'
      rw [Nat.succ_mul] at hle
      rw [List.drop_append_of_le_length (by omega), List.take_append_of_le_length (by rw [List.length_drop]; omega)]
      simp only [if_neg e]
      exact G.keep (G.keep hO (SameB.of_below hb)) (keep3 _ fun b h => (h2 j b hj' h).1)
  · by_cases e : j = k
    · simp only [if_pos e] at hE
      exact ⟨by have := hE.1; omega, by have := hE.2; omega⟩
    · simp only [if_neg e] at hE
      have := h2 j b (by omega) hE
      exact ⟨this.1, by omega⟩
  · by_cases ei : i = k
    · simp only [if_pos ei] at hE
      by_cases ej : j = k
      · omega
      · simp only [if_neg ej] at hE2
        have := h2 j b (by omega) hE2
        have := hE.1
        omega
    · simp only [if_neg ei] at hE
      by_cases ej : j = k
      · simp only [if_pos ej] at hE2
        have := h2 i b (by omega) hE
        have := hE2.1
        omega
      · simp only [if_neg ej] at hE2
        exact h3 i j b (by omega) (by omega) hne hE hE2
theorem madeO_done {α : Type} (G : Owd α) {w' : World} {lo n c : Nat} {T : TypeId} {vs : List Value} {xs : List α} (hl : xs.length = n) (hown : w'.ownsRow lo T G.F.width (.slice (some ⟨lo, 0, none⟩) n c) n vs)
    (ho : MadeO G w' lo n vs xs) : OL G T w' (In lo w'.heap.size) (some ⟨lo, 0, none⟩) n c xs := by
  obtain ⟨E, h1, h2, h3⟩ := ho
  exact ⟨hl, fun g e => by cases e; exact ⟨Nat.le_refl _, (hown.lt _ rfl).2⟩, vs, E, own_low hown (Nat.zero_le _), fun j x hx => h1 j x (by have := (List.getElem?_eq_some_iff.1 hx).1; omega) hx,
    fun j b hj hE => ⟨⟨by have := h2 j b hj hE; omega, (h2 j b hj hE).2⟩, fun e => by have h := h2 j b hj hE; simp [Value.ownBlock] at e; omega⟩, h3⟩
/-- How a kind of record is marked: what it holds behind the marks from k on, and how many marks it takes. -/
structure Mk (α : Type) where
  md : Int → α → α
  cnt : α → Nat
def cntL {α : Type} (M : Mk α) : List α → Nat
  | [] => 0
  | x :: xs => M.cnt x + cntL M xs
def mkL {α : Type} (M : Mk α) : Int → List α → List α
  | _, [] => []
  | k, x :: xs => M.md k x :: mkL M (k + M.cnt x) xs
def listM {α : Type} (M : Mk α) : Mk (List α) := ⟨mkL M, cntL M⟩
theorem mkL_length {α : Type} (M : Mk α) : ∀ (xs : List α) (k : Int), (mkL M k xs).length = xs.length := by
  intro xs
  induction xs with
  | nil => intro k; rfl
  | cons x xs ih => intro k; simp [mkL, ih]
theorem cntL_append {α : Type} (M : Mk α) (a b : List α) : cntL M (a ++ b) = cntL M a + cntL M b := by
  induction a with
  | nil => simp [cntL]
  | cons x a ih => simp [cntL, ih, Nat.add_assoc]
theorem cntL_succ {α : Type} {M : Mk α} {xs : List α} {k : Nat} {x : α} (h : xs[k]? = some x) : cntL M (xs.take (k + 1)) = cntL M (xs.take k) + M.cnt x := by
  rw [take_one _ _ _ h, cntL_append]; simp [cntL]
theorem cntL_take {α : Type} {M : Mk α} (xs : List α) (k : Nat) : cntL M (xs.take k) ≤ cntL M xs := by
  have := cntL_append M (xs.take k) (xs.drop k)
  rw [List.take_append_drop] at this
  omega
theorem mkL_append {α : Type} (M : Mk α) : ∀ (a b : List α) (k : Int), mkL M k (a ++ b) = mkL M k a ++ mkL M (k + cntL M a) b := by
  intro a
  induction a with
  | nil => intro b k; simp [mkL, cntL]
  | cons x a ih => intro b k; simp only [mkL, cntL, List.cons_append, ih]; congr 3; omega
theorem mkL_at {α : Type} {M : Mk α} {xs : List α} {k0 : Int} {k : Nat} {x : α} (h : xs[k]? = some x) : (mkL M k0 xs)[k]? = some (M.md (k0 + cntL M (xs.take k)) x) := by
  have hk := (List.getElem?_eq_some_iff.1 h).1
  have e : xs = xs.take k ++ (x :: xs.drop (k + 1)) := by rw [← drop_one _ _ _ h, List.take_append_drop]
  have hl : (mkL M k0 (xs.take k)).length = k := by rw [mkL_length, List.length_take]; omega
  conv => lhs; rw [e]
  rw [mkL_append, List.getElem?_append_right (by omega), hl, Nat.sub_self]
  rfl
/-- Up to place k marked, from there on as it was. -/
def midL {α : Type} (M : Mk α) (k0 : Int) (xs : List α) (k : Nat) : List α := (mkL M k0 xs).take k ++ xs.drop k
theorem midL_zero {α : Type} (M : Mk α) (k0 : Int) (xs : List α) : midL M k0 xs 0 = xs := by simp [midL]
theorem midL_all {α : Type} {M : Mk α} {k0 : Int} {xs : List α} {n : Nat} (h : xs.length = n) : midL M k0 xs n = mkL M k0 xs := by
  unfold midL
  rw [List.take_of_length_le (by rw [mkL_length]; omega), List.drop_eq_nil_of_le (by omega), List.append_nil]
theorem midL_at {α : Type} {M : Mk α} {k0 : Int} {xs : List α} {k : Nat} {x : α} (h : xs[k]? = some x) : (midL M k0 xs k)[k]? = some x := by
  have hk := (List.getElem?_eq_some_iff.1 h).1
  have hl : ((mkL M k0 xs).take k).length = k := by rw [List.length_take, mkL_length]; omega
  unfold midL
  rw [List.getElem?_append_right (by omega), hl, Nat.sub_self, List.getElem?_drop]
  simpa using h
theorem midL_succ {α : Type} {M : Mk α} {k0 : Int} {xs : List α} {k : Nat} {x : α} (h : xs[k]? = some x) : (midL M k0 xs k).set k (M.md (k0 + cntL M (xs.take k)) x) = midL M k0 xs (k + 1) := by
  have hk := (List.getElem?_eq_some_iff.1 h).1
  have hl : ((mkL M k0 xs).take k).length = k := by rw [List.length_take, mkL_length]; omega
  unfold midL
  rw [drop_one _ _ _ h, List.set_append_right _ _ (by omega), hl, Nat.sub_self, List.set_cons_zero, take_one _ _ _ (mkL_at h), List.append_assoc]
  rfl
/-- What a marking call answers. -/
def MarkRet {α : Type} (G : Owd α) (T : TypeId) (M : Mk α) (k0 : Int) (S : Nat → Prop) (A : Option Addr) (n c : Nat) (xs : List α) (w : World) (e : Ending) (w' : World) : Prop :=
  e = .returned (.int .i64 (k0 + cntL M xs)) ∧ OL G T w' S A n c (mkL M k0 xs) ∧ TurnS S w w'
end Go.Proofs.Ytjnmndjhlllfkaa
