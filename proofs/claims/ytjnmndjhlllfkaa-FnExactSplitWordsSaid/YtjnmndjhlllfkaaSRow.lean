/- Plain words for memory: slices whose elements are records of several cells, read as lists, all of whose parts lie in blocks of one set. -/
import Derived.WalkKit
import Derived.ProofKit
import Derived.Deep.Slices
import Derived.Lib.Hide
import Derived.Test.YtjnmndjhlllfkaaMem
import Derived.Test.YtjnmndjhlllfkaaOwn
import Derived.Test.YtjnmndjhlllfkaaTmM
import Derived.Test.YtjnmndjhlllfkaaTmW
import Derived.Test.YtjnmndjhlllfkaaBuildT
namespace Go.Proofs.Ytjnmndjhlllfkaa
open Go.RowKit
/-- The slice of address A reads as the values vs, which lie in a block of the set S. -/
def SRow (w : World) (S : Nat → Prop) (A : Option Addr) (vs : List Value) : Prop :=
  0 < vs.length → ∃ b off, A = some ⟨b, off, none⟩ ∧ S b ∧ ∀ i v, vs[i]? = some v → w.cell? ⟨b, off + i, none⟩ = some v
/-- No block of S has been turned. -/
def SameOn (S : Nat → Prop) (w w' : World) : Prop := ∀ b o, S b → w'.cell? ⟨b, o, none⟩ = w.cell? ⟨b, o, none⟩
theorem SameOn.refl (S : Nat → Prop) (w : World) : SameOn S w w := fun _ _ _ => rfl
theorem SameOn.trans {S : Nat → Prop} {w w1 w2 : World} (h : SameOn S w w1) (h2 : SameOn S w1 w2) : SameOn S w w2 := fun b o hb => (h2 b o hb).trans (h b o hb)
theorem SameOn.of_below {S : Nat → Prop} {B : Nat} {w w' : World} (h : Below B w w') (hS : ∀ b, S b → b < B) : SameOn S w w' := fun b o hb => h.cell (p := ⟨b, o, none⟩) (hS b hb)
theorem SameOn.drewN (S : Nat → Prop) (w : World) (n : Nat) : SameOn S w (w.drewN n) := fun _ _ _ => rfl
/-- A write into one row turns no other block. -/
theorem SameOn.of_grown {S : Nat → Prop} {w w' : World} {row : Option Nat} (h : w.grownBy w' row) (hS : ∀ b, S b → b < w.heap.size) (hr : ∀ g, row = some g → ¬ S g) : SameOn S w w' := by
  intro b o hb
  have e := h.block b (hS b hb) (fun e => hr b e.symm hb)
  unfold World.cell?
  rw [e]
theorem SameOn.setCell {S : Nat → Prop} {w w1 : World} {b o : Nat} {v : Value} (h : SameOn S w w1) (hb : ¬ S b) : SameOn S w (w1.setCell ⟨b, o, none⟩ v) := fun b' o' hS =>
  (World.cell?_setCell_other _ _ _ _ (fun e => by injection e with e1; subst e1; exact hb hS)).trans (h b' o' hS)
theorem SameOn.of_drawn {S : Nat → Prop} {w w' : World} (h : Drawn w w') : SameOn S w w' := by
  obtain ⟨n, rfl⟩ := h
  exact SameOn.drewN S w n
theorem SRow.nil {w : World} {S : Nat → Prop} {A : Option Addr} : SRow w S A [] := fun h => absurd h (by simp)
theorem SRow.keep {w w' : World} {S : Nat → Prop} {A : Option Addr} {vs : List Value} (h : SRow w S A vs) (hk : SameOn S w w') : SRow w' S A vs := by
  intro hp
  obtain ⟨b, off, e, hb, hc⟩ := h hp
  exact ⟨b, off, e, hb, fun i v hv => (hk b _ hb).trans (hc i v hv)⟩
theorem SRow.more {w : World} {S S' : Nat → Prop} {A : Option Addr} {vs : List Value} (h : SRow w S A vs) (hS : ∀ b, S b → S' b) : SRow w S' A vs := by
  intro hp
  obtain ⟨b, off, e, hb, hc⟩ := h hp
  exact ⟨b, off, e, hS b hb, hc⟩
theorem SRow.row {w : World} {S : Nat → Prop} {B : Nat} {A : Option Addr} {vs : List Value} (h : SRow w S A vs) (hS : ∀ b, S b → b < B) : Row w B A vs := by
  intro hp
  obtain ⟨b, off, e, hb, hc⟩ := h hp
  exact ⟨b, off, e, hS b hb, hc⟩
theorem SRow.of_row {w : World} {B : Nat} {A : Option Addr} {vs : List Value} (h : Row w B A vs) : SRow w (· < B) A vs := h
/-- A row of the call's own reads as what it holds. -/
theorem SRow.of_own {w : World} {lo : Nat} {T : TypeId} {s n c : Nat} {A : Option Addr} {vs : List Value} (h : w.ownsRow lo T s (.slice A n c) n vs) (S : Nat → Prop) (hS : ∀ g, (Value.slice A n c).ownBlock = some g → S g) : SRow w S A vs := by
  intro hp
  rcases h.2 with ⟨e, hn⟩ | ⟨g, cap, cur, e, hb, hg, hnc, _, hcs, ht⟩
  · have h1 := h.1
    rw [hn, Nat.zero_mul] at h1
    omega
  · injection e with e1 e2 e3
    subst e1
    refine ⟨g, 0, rfl, hS g rfl, fun i v hv => ?_⟩
    rw [Nat.zero_add, cell_of_row w g i cur T (0, 0) hg]
    rw [← ht, List.getElem?_take] at hv
    split at hv
    · simpa using hv
    · cases hv
/-- A kind of record: how many cells it takes, and what they say. -/
structure Rec (α : Type) where
  R : World → (Nat → Prop) → α → List Value → Prop
  width : Nat
  pos : 0 < width
  len : ∀ {w S x vs}, R w S x vs → vs.length = width
  keep : ∀ {w w' S x vs}, R w S x vs → SameOn S w w' → R w' S x vs
  more : ∀ {w S S' x vs}, R w S x vs → (∀ b, S b → S' b) → R w S' x vs
/-- The slice of address A reads as the list of records xs. -/
def LRow {α : Type} (F : Rec α) (w : World) (S : Nat → Prop) (A : Option Addr) (xs : List α) : Prop :=
  ∃ vs : List Value, SRow w S A vs ∧ vs.length = xs.length * F.width ∧ ∀ k x, xs[k]? = some x → F.R w S x ((vs.drop (k * F.width)).take F.width)
theorem LRow.nil {α : Type} {F : Rec α} {w : World} {S : Nat → Prop} {A : Option Addr} : LRow F w S A [] := ⟨[], SRow.nil, by simp, fun k x h => by simp at h⟩
theorem LRow.keep {α : Type} {F : Rec α} {w w' : World} {S : Nat → Prop} {A : Option Addr} {xs : List α} (h : LRow F w S A xs) (hk : SameOn S w w') : LRow F w' S A xs := by
  obtain ⟨vs, h1, h2, h3⟩ := h
  exact ⟨vs, h1.keep hk, h2, fun k x hx => F.keep (h3 k x hx) hk⟩
theorem LRow.more {α : Type} {F : Rec α} {w : World} {S S' : Nat → Prop} {A : Option Addr} {xs : List α} (h : LRow F w S A xs) (hS : ∀ b, S b → S' b) : LRow F w S' A xs := by
  obtain ⟨vs, h1, h2, h3⟩ := h
  exact ⟨vs, h1.more hS, h2, fun k x hx => F.more (h3 k x hx) hS⟩
theorem LRow.at_ {α : Type} {F : Rec α} {w : World} {S : Nat → Prop} {A : Option Addr} {xs : List α} (h : LRow F w S A xs) {k : Nat} (hk : k < xs.length) :
    ∃ b off cs x, A = some ⟨b, off, none⟩ ∧ S b ∧ F.R w S x cs ∧ Hid (xs[k]? = some x) ∧ ∀ j v, cs[j]? = some v → w.cell? ⟨b, off + k * F.width + j, none⟩ = some v := by
  obtain ⟨vs, h1, h2, h3⟩ := h
  have hx : xs[k]? = some xs[k] := List.getElem?_eq_getElem hk
  have hR := h3 k _ hx
  have hw := F.pos
  have hle : (k + 1) * F.width ≤ xs.length * F.width := Nat.mul_le_mul_right _ hk
  rw [Nat.succ_mul] at hle
  obtain ⟨b, off, e, hb, hc⟩ := h1 (by omega)
  refine ⟨b, off, _, xs[k], e, hb, hR, Lib.hid hx, fun j v hj => ?_⟩
  rw [Nat.add_assoc]
  refine hc _ v ?_
  rw [List.getElem?_take] at hj
  split at hj
  · rwa [List.getElem?_drop] at hj
  · cases hj
/-- A number as a record. -/
def intR : Rec Int where
  R _ _ x vs := vs = [.int .i64 x]
  width := 1
  pos := by decide
  len h := by rw [h]; rfl
  keep h _ := h
  more h _ := h
/-- A text as a record. -/
def txtR : Rec ByteArray where
  R _ _ x vs := vs = [.string x] ∧ x.size ≤ maxLen
  width := 1
  pos := by decide
  len h := by rw [h.1]; rfl
  keep h _ := h
  more h _ := h
/-- A term as a record. -/
def tmR : Rec Tm where
  R _ _ x vs := vs = tv x
  width := 2
  pos := by decide
  len h := by rw [h]; rfl
  keep h _ := h
  more h _ := h
/-- A list of records as one cell. -/
def listR {α : Type} (F : Rec α) : Rec (List α) where
  R w S x vs := ∃ A c, vs = [.slice A x.length c] ∧ x.length ≤ c ∧ c ≤ maxLen ∧ LRow F w S A x
  width := 1
  pos := by decide
  len h := by obtain ⟨A, c, rfl, _⟩ := h; rfl
  keep h hk := by obtain ⟨A, c, e, h1, h2, h3⟩ := h; exact ⟨A, c, e, h1, h2, h3.keep hk⟩
  more h hS := by obtain ⟨A, c, e, h1, h2, h3⟩ := h; exact ⟨A, c, e, h1, h2, h3.more hS⟩
theorem flat_at {α : Type} (f : α → List Value) (d : Nat) : ∀ (xs : List α), (∀ x ∈ xs, (f x).length = d) → ∀ (k : Nat) (x : α), xs[k]? = some x → ((xs.flatMap f).drop (k * d)).take d = f x := by
  intro xs
  induction xs with
  | nil => intro _ k x h; simp at h
  | cons a xs ih =>
    intro hd k x h
    have ha := hd a (by simp)
    cases k with
    | zero =>
      simp at h; subst h
      rw [Nat.zero_mul, List.drop_zero, List.flatMap_cons, List.take_left' ha]
    | succ k =>
      have := ih (fun y hy => hd y (by simp [hy])) k x (by simpa using h)
      rw [List.flatMap_cons, Nat.succ_mul, Nat.add_comm, ← List.drop_drop, List.drop_left' ha]
      exact this
theorem flat_len {α : Type} (f : α → List Value) (d : Nat) : ∀ (xs : List α), (∀ x ∈ xs, (f x).length = d) → (xs.flatMap f).length = xs.length * d := by
  intro xs
  induction xs with
  | nil => intro _; simp
  | cons a xs ih =>
    intro hd
    have ha := hd a (by simp)
    have := ih fun y hy => hd y (by simp [hy])
    rw [List.flatMap_cons, List.length_append, ha, this, List.length_cons, Nat.succ_mul, Nat.add_comm]
theorem bcell {W w1 : World} (hb : Below W.heap.size W w1) : (∀ b o, b < W.heap.size → w1.cell? ⟨b, o, none⟩ = W.cell? ⟨b, o, none⟩) ∧ (∀ b o, b < W.heap.size → w1.frozen? ⟨b, o, none⟩ = W.frozen? ⟨b, o, none⟩) :=
  ⟨fun b o h => hb.cell (p := ⟨b, o, none⟩) h, fun b o h => hb.frozen (p := ⟨b, o, none⟩) h⟩
/-- The blocks from lo on and below hi. -/
def In (lo hi : Nat) (b : Nat) : Prop := lo ≤ b ∧ b < hi
theorem In.lt {lo hi b : Nat} (h : In lo hi b) : b < hi := h.2
/-- Values stored one behind the other, from place p on. -/
def setAll (L : List Value) (p : Nat) : List Value → List Value
  | [] => L
  | c :: cs => setAll (L.set p c) (p + 1) cs
theorem setAll_block : ∀ (cs pre mid post : List Value), mid.length = cs.length → setAll (pre ++ (mid ++ post)) pre.length cs = pre ++ (cs ++ post) := by
  intro cs
  induction cs with
  | nil => intro pre mid post h; obtain rfl : mid = [] := List.eq_nil_of_length_eq_zero h; rfl
  | cons c cs ih =>
    intro pre mid post h
    cases mid with
    | nil => simp at h
    | cons m mid =>
      have hset : (pre ++ (m :: mid ++ post)).set pre.length c = (pre ++ [c]) ++ (mid ++ post) := by
        rw [List.set_append_right _ _ (Nat.le_refl _), Nat.sub_self]; simp
      show setAll ((pre ++ (m :: mid ++ post)).set pre.length c) (pre.length + 1) cs = _
      rw [hset]
      have := ih (pre ++ [c]) mid post (by simpa using h)
      rw [List.length_append] at this
      simpa using this
theorem made_cons (z : Array Value) (m : Nat) : (madeCells z ((m + 1) * z.size)).toList = z.toList ++ (madeCells z (m * z.size)).toList := by
  apply List.ext_getElem?
  intro j
  have e := Nat.succ_mul m z.size
  by_cases h2 : j < z.size
  · have h1 : j < (m + 1) * z.size := by rw [Nat.succ_mul]; omega
    rw [List.getElem?_append_left (by simpa using h2)]
    simp [madeCells, h1, Nat.mod_eq_of_lt h2, h2]
  · rw [List.getElem?_append_right (by simpa using h2)]
    by_cases h1 : j < (m + 1) * z.size
    · have h3 : j - z.size < m * z.size := by rw [Nat.succ_mul] at h1; omega
      simp [madeCells, h1, h3, Nat.mod_eq_sub_mod (show z.size ≤ j by omega)]
    · have h3 : ¬ j - z.size < m * z.size := by rw [Nat.succ_mul] at h1; omega
      simp [madeCells, h1, h3]
/-- The next record stored behind those that are there, in front of what is still empty. -/
theorem set_next {F : Nat} {vs cs : List Value} {z : Array Value} {n k : Nat} (hl : vs.length = k * F) (hz : z.size = F) (hc : cs.length = F) (hk : k < n) :
    setAll (vs ++ (madeCells z ((n - k) * F)).toList) (k * F) cs = (vs ++ cs) ++ (madeCells z ((n - (k + 1)) * F)).toList := by
  subst hz
  have e : n - k = (n - (k + 1)) + 1 := by omega
  rw [e, made_cons, ← hl, setAll_block _ _ _ _ (by rw [hc]; simp), List.append_assoc]
theorem made_step {α : Type} (F : Rec α) {wr w2 w3 : World} {lo k : Nat} {vs cs : List Value} {xs : List α} {x : α} (hl : vs.length = k * F.width) (hR : F.R w2 (In wr.heap.size w2.heap.size) x cs) (hx : xs[k]? = some x)
    (ho : ∀ j y, j < k → xs[j]? = some y → F.R wr (In (lo + 1) wr.heap.size) y ((vs.drop (j * F.width)).take F.width)) (hb : Below wr.heap.size wr w2) (hlo : lo + 1 ≤ wr.heap.size) (hg : w2.grownBy w3 (some lo)) :
    (vs ++ cs).length = (k + 1) * F.width ∧ ∀ j y, j < k + 1 → xs[j]? = some y → F.R w3 (In (lo + 1) w3.heap.size) y (((vs ++ cs).drop (j * F.width)).take F.width) := by
  have hcl := F.len hR
  have h23 := hg.size
  have h12 := hb.size
  refine ⟨by rw [List.length_append, hl, hcl, Nat.succ_mul], fun j y hj hy => ?_⟩
  have keep3 : ∀ S : Nat → Prop, (∀ b, S b → lo + 1 ≤ b ∧ b < w2.heap.size) → SameOn S w2 w3 := fun S hS =>
    SameOn.of_grown hg (fun b hb => (hS b hb).2) (fun g e hb => by injection e with e; have := (hS g hb).1; omega)
  by_cases e : j = k
  · subst e
    obtain rfl : y = x := by have := hy.symm.trans hx; injection this
    rw [← hl, List.drop_left, List.take_of_length_le (by omega)]
    exact F.more (F.keep hR (keep3 _ fun b h => ⟨by have := h.1; omega, h.2⟩)) fun b h => ⟨by have := h.1; omega, by have := h.2; omega⟩
  · have hj' : j < k := by omega
    have h1 := ho j y hj' hy
    have hle : (j + 1) * F.width ≤ k * F.width := Nat.mul_le_mul_right _ hj'
    rw [Nat.succ_mul] at hle
    rw [List.drop_append_of_le_length (by omega), List.take_append_of_le_length (by rw [List.length_drop]; omega)]
    have h2 := F.keep h1 (SameOn.of_below hb fun b h => h.2)
    have h3 := F.keep h2 (keep3 _ fun b h => ⟨h.1, by have := h.2; omega⟩)
    exact F.more h3 fun b h => ⟨h.1, by have := h.2; omega⟩
theorem made_done {α : Type} (F : Rec α) {w' : World} {lo n c : Nat} {T : TypeId} {vs : List Value} {xs : List α} (hl : xs.length = n) (hown : w'.ownsRow lo T F.width (.slice (some ⟨lo, 0, none⟩) n c) n vs)
    (ho : ∀ j y, j < n → xs[j]? = some y → F.R w' (In (lo + 1) w'.heap.size) y ((vs.drop (j * F.width)).take F.width)) : LRow F w' (In lo w'.heap.size) (some ⟨lo, 0, none⟩) xs :=
  ⟨vs, SRow.of_own hown _ (fun g e => by cases e; exact ⟨Nat.le_refl _, (hown.lt _ rfl).2⟩), by have := hown.1; rw [hl]; exact this, fun k x hx =>
    F.more (ho k x (by have := (List.getElem?_eq_some_iff.1 hx).1; omega) hx) fun b h => ⟨by have := h.1; omega, h.2⟩⟩
theorem flat_of {α : Type} (f : α → List Value) (d : Nat) : ∀ (xs : List α) (vs : List Value), vs.length = xs.length * d → (∀ k x, xs[k]? = some x → (vs.drop (k * d)).take d = f x) → vs = xs.flatMap f := by
  intro xs
  induction xs with
  | nil => intro vs h _; simpa using h
  | cons a xs ih =>
    intro vs h hx
    have h0 := hx 0 a rfl
    rw [Nat.zero_mul, List.drop_zero] at h0
    have hl : (a :: xs).length * d = xs.length * d + d := by rw [List.length_cons, Nat.succ_mul]
    have h1 := ih (vs.drop d) (by rw [List.length_drop]; omega) (fun k x hk => by
      have := hx (k + 1) x (by simpa using hk)
      rw [Nat.succ_mul, Nat.add_comm, ← List.drop_drop] at this
      exact this)
    rw [List.flatMap_cons, ← h0, ← h1, List.take_append_drop]
theorem flatMap_one {α : Type} (g : α → Value) (xs : List α) : xs.flatMap (fun x => [g x]) = xs.map g := by
  induction xs with
  | nil => rfl
  | cons a xs ih => rw [List.flatMap_cons, ih]; rfl
theorem LRow.irow {w : World} {S : Nat → Prop} {B : Nat} {A : Option Addr} {xs : List Int} (h : LRow intR w S A xs) (hS : ∀ b, S b → b < B) : IRow w B A xs := by
  obtain ⟨vs, h1, h2, h3⟩ := h
  have e := flat_of (fun x : Int => [Value.int .i64 x]) 1 xs vs h2 h3
  rw [flatMap_one] at e
  subst e
  exact h1.row hS
theorem LRow.trow {w : World} {S : Nat → Prop} {B : Nat} {A : Option Addr} {xs : List Tm} (h : LRow tmR w S A xs) (hS : ∀ b, S b → b < B) : TRow w B A xs := by
  obtain ⟨vs, h1, h2, h3⟩ := h
  have e := flat_of tv 2 xs vs h2 h3
  subst e
  exact h1.row hS
theorem take_one_at {vs : List Value} {k : Nat} {v : Value} (h : (vs.drop k).take 1 = [v]) : vs[k]? = some v := by
  have h1 : ((vs.drop k).take 1)[0]? = some v := by rw [h]; rfl
  rw [List.getElem?_take, if_pos (by decide), List.getElem?_drop, Nat.add_zero] at h1
  exact h1
theorem LRow.ttrow {w : World} {S : Nat → Prop} {B : Nat} {A : Option Addr} {xs : List (List Tm)} (h : LRow (listR tmR) w S A xs) (hS : ∀ b, S b → b < B) : TTRow w B A xs := by
  obtain ⟨vs, h1, h2, h3⟩ := h
  refine ⟨vs, h1.row hS, by simpa [listR] using h2, fun i x hx => ?_⟩
  obtain ⟨A', c', e, _, _, h4⟩ := h3 i x hx
  have e2 : (vs.drop (i * 1)).take 1 = [.slice A' x.length c'] := e
  rw [Nat.mul_one] at e2
  exact ⟨A', c', take_one_at e2, h4.trow hS⟩
theorem IRow.lrow {w : World} {B : Nat} {A : Option Addr} {xs : List Int} (h : IRow w B A xs) : LRow intR w (· < B) A xs := by
  refine ⟨xs.map (Value.int .i64), h, by simp [intR], fun k x hx => ?_⟩
  have := flat_at (fun x : Int => [Value.int .i64 x]) 1 xs (fun _ _ => rfl) k x hx
  rw [flatMap_one] at this
  exact this
end Go.Proofs.Ytjnmndjhlllfkaa
