/- Plain words for names: which numbers are small letters or digits, and which lists of bytes are names. -/
/- Plain words for memory: a slice that reads as a list of one-cell values (nil let in), and what keeps such a reading. -/
/- Rows that the law's own calls have made, each within known bounds of block numbers: what keeps them. -/
/- Names and names of actions: the model's and the program's tests answer one plain question. -/
/- The range test of the model. -/
/- Plain words for memory: a slice of slices of 64-bit integers that reads as a list of lists. -/
import Derived.WalkKit
import Derived.Lib.Hide
import Derived.Deep.Draws
import Derived.Deep.QuietTactic
import Derived.Test.YtfhcokbphcjknaaGreatDoorProg
import Derived.ProofKit
import Derived.Outline
import Derived.Deep.Matrix
namespace Go.Proofs.YtfhcokbphcjknaaGreatDoor
open Go.RowKit
def smallI (r : Int) : Bool := decide (97 ≤ r ∧ r ≤ 122)
def digitI (r : Int) : Bool := decide (48 ≤ r ∧ r ≤ 57)
theorem smallI_yes {r : Int} (h : 97 ≤ r ∧ r ≤ 122) : smallI r = true := by unfold smallI; exact decide_eq_true h
theorem smallI_no {r : Int} (h : ¬ (97 ≤ r ∧ r ≤ 122)) : smallI r = false := by unfold smallI; exact decide_eq_false h
theorem digitI_yes {r : Int} (h : 48 ≤ r ∧ r ≤ 57) : digitI r = true := by unfold digitI; exact decide_eq_true h
theorem digitI_no {r : Int} (h : ¬ (48 ≤ r ∧ r ≤ 57)) : digitI r = false := by unfold digitI; exact decide_eq_false h
theorem smallI_iff {r : Int} : smallI r = true ↔ 97 ≤ r ∧ r ≤ 122 := by unfold smallI; exact decide_eq_true_iff
theorem digitI_iff {r : Int} : digitI r = true ↔ 48 ≤ r ∧ r ≤ 57 := by unfold digitI; exact decide_eq_true_iff
theorem ib_ne {a b : Int} (h : a ≠ b) : (a == b) = false := by simp [h]
theorem ib_eq {a b : Int} (h : a = b) : (a == b) = true := by simp [h]
/-- A byte that may stand at place i of a name. -/
def goodB (i : Nat) (b : UInt8) : Prop := smallI b.toNat = true ∨ (i ≠ 0 ∧ digitI b.toNat = true)
def nameP (l : List UInt8) : Prop := 1 ≤ l.length ∧ l.length ≤ 10 ∧ ∀ i b, l[i]? = some b → goodB i b
open Classical in
noncomputable def nameB (l : List UInt8) : Bool := decide (nameP l)
open Classical in
theorem nameB_yes {l : List UInt8} (h : nameP l) : nameB l = true := by unfold nameB; exact decide_eq_true h
open Classical in
theorem nameB_no {l : List UInt8} (h : ¬ nameP l) : nameB l = false := by unfold nameB; exact decide_eq_false h
open Classical in
theorem nameB_iff {l : List UInt8} : nameB l = true ↔ nameP l := by unfold nameB; exact decide_eq_true_iff
theorem byte_at (s : ByteArray) (i : Nat) (h : i < s.size) : s.data.toList[i]? = some s[i] := by
  have h' : i < s.data.toList.length := by simpa using h
  rw [List.getElem?_eq_getElem h']; rfl
theorem byte_len (s : ByteArray) : s.data.toList.length = s.size := by simp
theorem name_short {s : ByteArray} (h : s.size < 1) : nameB s.data.toList = false := nameB_no fun ⟨h1, _⟩ => by rw [byte_len] at h1; omega
theorem name_long {s : ByteArray} (h : 10 < s.size) : nameB s.data.toList = false := nameB_no fun ⟨_, h1, _⟩ => by rw [byte_len] at h1; omega
theorem name_bad {s : ByteArray} (k : Nat) (h : k < s.size) (hb : ¬ goodB k s[k]) : nameB s.data.toList = false := nameB_no fun ⟨_, _, h1⟩ => hb (h1 k _ (byte_at s k h))
theorem name_all {s : ByteArray} (h1 : 1 ≤ s.size) (h2 : s.size ≤ 10) (h : ∀ i (hi : i < s.size), goodB i s[i]) : nameB s.data.toList = true :=
  nameB_yes ⟨by rw [byte_len]; exact h1, by rw [byte_len]; exact h2, fun i b hb => by
    obtain ⟨hi, he⟩ := List.getElem?_eq_some_iff.1 hb
    rw [byte_len] at hi
    have := byte_at s i hi
    rw [hb] at this
    injection this with this
    rw [this]; exact h i hi⟩
theorem not_good_zero {b : UInt8} (h : smallI b.toNat = false) : ¬ goodB 0 b := by
  rintro (h1 | ⟨h1, _⟩)
  · rw [h] at h1; cases h1
  · exact h1 rfl
theorem not_good {i : Nat} {b : UInt8} (h : smallI b.toNat = false) (h2 : digitI b.toNat = false) : ¬ goodB i b := by
  rintro (h1 | ⟨_, h1⟩)
  · rw [h] at h1; cases h1
  · rw [h2] at h1; cases h1
end Go.Proofs.YtfhcokbphcjknaaGreatDoor

namespace Go.Proofs.YtfhcokbphcjknaaGreatDoor
open Go.RowKit
/-- The slice of address A reads as the values vs: where there are any, they lie in a row below block B. -/
def Row (w : World) (B : Nat) (A : Option Addr) (vs : List Value) : Prop :=
  0 < vs.length → ∃ b off, A = some ⟨b, off, none⟩ ∧ b < B ∧ ∀ i v, vs[i]? = some v → w.cell? ⟨b, off + i, none⟩ = some v
theorem Row.nil {w : World} {B : Nat} {A : Option Addr} : Row w B A [] := fun h => absurd h (by simp)
theorem Row.keep {w w' : World} {B : Nat} {A : Option Addr} {vs : List Value} (h : Row w B A vs) (hk : ∀ b o, b < B → w'.cell? ⟨b, o, none⟩ = w.cell? ⟨b, o, none⟩) : Row w' B A vs := by
  intro hp
  obtain ⟨b, off, e, hb, hc⟩ := h hp
  exact ⟨b, off, e, hb, fun i v hv => (hk b _ hb).trans (hc i v hv)⟩
theorem Row.below {w w' : World} {B : Nat} {A : Option Addr} {vs : List Value} (h : Row w B A vs) (hb : Below B w w') : Row w' B A vs :=
  h.keep fun b o hlt => hb.cell (p := ⟨b, o, none⟩) hlt
theorem Row.more {w : World} {B B' : Nat} {A : Option Addr} {vs : List Value} (h : Row w B A vs) (hB : B ≤ B') : Row w B' A vs := by
  intro hp
  obtain ⟨b, off, e, hb, hc⟩ := h hp
  exact ⟨b, off, e, by omega, hc⟩
theorem Row.drewN {w : World} {B : Nat} {A : Option Addr} {vs : List Value} (h : Row w B A vs) (n : Nat) : Row (w.drewN n) B A vs := h
theorem Row.drew {w : World} {B : Nat} {A : Option Addr} {vs : List Value} (h : Row w B A vs) : Row w.drew B A vs := h
theorem Row.at_ {w : World} {B : Nat} {A : Option Addr} {vs : List Value} (h : Row w B A vs) {k : Nat} (hk : k < vs.length) :
    ∃ b off, A = some ⟨b, off, none⟩ ∧ b < B ∧ w.cell? ⟨b, off + k, none⟩ = some vs[k] := by
  obtain ⟨b, off, e, hb, hc⟩ := h (by omega)
  exact ⟨b, off, e, hb, hc k _ (List.getElem?_eq_getElem hk)⟩
theorem below_drewN (w : World) (B n : Nat) : Below B w (w.drewN n) := ⟨rfl, rfl, rfl, Nat.le_refl _, fun _ _ => rfl⟩

/-- The world w' is w, but for draws of an order that Go leaves open. -/
def Drawn (w w' : World) : Prop := ∃ n, w' = w.drewN n
theorem Drawn.refl (w : World) : Drawn w w := ⟨0, rfl⟩
theorem Drawn.drewN {w w' : World} (h : Drawn w w') (n : Nat) : Drawn w (w'.drewN n) := by
  obtain ⟨m, rfl⟩ := h
  exact ⟨m + n, by rw [World.drewN_drewN]⟩
theorem Drawn.drew {w w' : World} (h : Drawn w w') : Drawn w w'.drew := h.drewN 1
theorem Drawn.trans {w w1 w2 : World} (h : Drawn w w1) (h2 : Drawn w1 w2) : Drawn w w2 := by
  obtain ⟨n, rfl⟩ := h2
  exact h.drewN n
theorem Drawn.below {w w' : World} (h : Drawn w w') (B : Nat) : Below B w w' := by
  obtain ⟨n, rfl⟩ := h
  exact below_drewN w B n
theorem Row.drawn {w w' : World} {B : Nat} {A : Option Addr} {vs : List Value} (h : Row w B A vs) (hd : Drawn w w') : Row w' B A vs := h.below (hd.below _)
/-- A slice of 64-bit integers that reads as the list xs. -/
def IRow (w : World) (B : Nat) (A : Option Addr) (xs : List Int) : Prop := Row w B A (xs.map (Value.int .i64))
theorem IRow.below {w w' : World} {B : Nat} {A : Option Addr} {xs : List Int} (h : IRow w B A xs) (hb : Below B w w') : IRow w' B A xs := Row.below h hb
theorem IRow.more {w : World} {B B' : Nat} {A : Option Addr} {xs : List Int} (h : IRow w B A xs) (hB : B ≤ B') : IRow w B' A xs := Row.more h hB
theorem IRow.drawn {w w' : World} {B : Nat} {A : Option Addr} {xs : List Int} (h : IRow w B A xs) (hd : Drawn w w') : IRow w' B A xs := Row.below h (hd.below _)
theorem IRow.drewN {w : World} {B : Nat} {A : Option Addr} {xs : List Int} (h : IRow w B A xs) (n : Nat) : IRow (w.drewN n) B A xs := h
theorem IRow.at_ {w : World} {B : Nat} {A : Option Addr} {xs : List Int} (h : IRow w B A xs) {k : Nat} (hk : k < xs.length) :
    ∃ b off u, A = some ⟨b, off, none⟩ ∧ b < B ∧ w.cell? ⟨b, off + k, none⟩ = some (.int .i64 u) ∧ Hid (xs[k]? = some u) := by
  obtain ⟨b, off, e, hb, hc⟩ := Row.at_ h (k := k) (by simpa using hk)
  exact ⟨b, off, xs[k], e, hb, by simpa using hc, List.getElem?_eq_getElem hk⟩
theorem Row.of_own {w : World} {base : Nat} {T : TypeId} {A : Option Addr} {n c : Nat} {vs : List Value} (h : w.ownsRow base T 1 (.slice A n c) n vs) : Row w w.heap.size A vs := by
  intro hp
  rcases h.2 with ⟨e, hn⟩ | ⟨g, cap, cur, e, hb, hg, hnc, _, hcs, ht⟩
  · have := h.1; omega
  · injection e with e1 e2 e3
    subst e1
    refine ⟨g, 0, rfl, (Array.getElem?_eq_some_iff.1 hg).1, fun i v hv => ?_⟩
    rw [Nat.zero_add, cell_of_row w g i cur T (0, 0) hg]
    rw [← ht, List.getElem?_take] at hv
    split at hv
    · simpa using hv
    · cases hv
/-- What the call owns from base on is kept by a world that is as it was below a greater block number. -/
theorem own_below {w w' : World} {base B : Nat} {T : TypeId} {s n : Nat} {v : Value} {vs : List Value} (h : w.ownsRow base T s v n vs) (hb : Below B w w') (hv : ∀ g, v.ownBlock = some g → g < B) : w'.ownsRow base T s v n vs := by
  refine ⟨h.1, ?_⟩
  rcases h.2 with hn | ⟨g, cap, cur, rfl, hbg, hg, rest⟩
  · exact .inl hn
  · exact .inr ⟨g, cap, cur, rfl, hbg, by rw [hb.block g (hv g rfl)]; exact hg, rest⟩
theorem own_below' {w w' : World} {base : Nat} {T : TypeId} {s n : Nat} {v : Value} {vs : List Value} (h : w.ownsRow base T s v n vs) (hb : Below w.heap.size w w') : w'.ownsRow base T s v n vs :=
  own_below h hb fun g hg => (h.lt g hg).2
theorem own_drawn {w w' : World} {base : Nat} {T : TypeId} {s n : Nat} {v : Value} {vs : List Value} (h : w.ownsRow base T s v n vs) (hb : Drawn w w') : w'.ownsRow base T s v n vs :=
  own_below' h (hb.below _)
theorem grown_trans {w w1 w2 : World} {row : Option Nat} (h : w.grownBy w1 row) (h2 : w1.grownBy w2 row) : w.grownBy w2 row :=
  ⟨h2.os.trans h.os, h2.tape.trans h.tape, h2.output.trans h.output, Nat.le_trans h.size h2.size, fun k hk hne => (h2.block k (Nat.lt_of_lt_of_le hk h.size) hne).trans (h.block k hk hne)⟩
theorem grown_drawn {w w1 : World} {row : Option Nat} (h : Drawn w w1) : w.grownBy w1 row := by
  obtain ⟨n, rfl⟩ := h
  exact ⟨rfl, rfl, rfl, Nat.le_refl _, fun _ _ _ => rfl⟩
/-- A store into a row of the call's own, behind draws. -/
theorem own_put {w w' : World} {base : Nat} {T : TypeId} {s g n c : Nat} {vs vs' : List Value} (h : w.ownsRow base T s (.slice (some ⟨g, 0, none⟩) n c) n vs) (hd : Drawn w w') {k : Nat} {v : Value} (e : vs.set k v = vs') :
    (w'.setCell ⟨g, k, none⟩ v).ownsRow base T s (.slice (some ⟨g, 0, none⟩) n c) n vs' := by
  rw [← e]
  exact ((own_drawn h hd).stored k v).1
/-- A cell of a row of the call's own holds something, and is not frozen. -/
theorem own_some {w : World} {base : Nat} {T : TypeId} {s g n c : Nat} {vs : List Value} (h : w.ownsRow base T s (.slice (some ⟨g, 0, none⟩) n c) n vs) {k : Nat} (hk : k < n * s) : (∃ old, w.cell? ⟨g, k, none⟩ = some old) ∧ w.frozen? ⟨g, k, none⟩ = false := by
  refine ⟨⟨vs[k]'(by rw [h.1]; exact hk), ?_⟩, h.frozenAt k⟩
  rw [h.cellAt k hk]
  exact List.getElem?_eq_getElem _
theorem quiet_same {P : Program} {f : FuncId} {args : Array Value} {w : World} {n : Nat} {v : Value}
    (h : Calls P f args (w.drewN n) fun e w' => e = .returned v ∧ w.drewN n = w') : Calls P f args (w.drewN n) fun e w'' => e = .returned v ∧ ∃ m, w'' = w.drewN m :=
  h.mono fun _ _ ⟨he, hm⟩ => ⟨he, n, hm.symm⟩
theorem quiet_drawn {P : Program} {f : FuncId} {args : Array Value} {w : World} {n : Nat} {v : Value}
    (h : Calls P f args (w.drewN n) fun e w' => e = .returned v ∧ Drawn (w.drewN n) w') : Calls P f args (w.drewN n) fun e w'' => e = .returned v ∧ ∃ m, w'' = w.drewN m :=
  h.mono fun _ _ ⟨he, m, hm⟩ => ⟨he, n + m, by rw [hm, World.drewN_drewN]⟩
theorem quiet_same2 {P : Program} {f : FuncId} {args : Array Value} {w : World} {a n : Nat} {v : Value}
    (h : Calls P f args (w.drewN (a + n)) fun e w' => e = .returned v ∧ w.drewN (a + n) = w') : Calls P f args (w.drewN (a + n)) fun e w'' => e = .returned v ∧ ∃ m, w'' = w.drewN (a + m) :=
  h.mono fun _ _ ⟨he, hm⟩ => ⟨he, n, hm.symm⟩
theorem quiet_drawn2 {P : Program} {f : FuncId} {args : Array Value} {w : World} {a n : Nat} {v : Value}
    (h : Calls P f args (w.drewN (a + n)) fun e w' => e = .returned v ∧ Drawn (w.drewN (a + n)) w') : Calls P f args (w.drewN (a + n)) fun e w'' => e = .returned v ∧ ∃ m, w'' = w.drewN (a + m) :=
  h.mono fun _ _ ⟨he, m, hm⟩ => ⟨he, n + m, by rw [hm, World.drewN_drewN, Nat.add_assoc]⟩
/-- An argument's slice of 64-bit integers, as the frame of a law hands it over, reads as a list. -/
theorem irow_in {w : World} {a : Option Addr} {len cap : Nat} {zs : List Int}
    (h : (a = none ∧ len = 0 ∧ cap = 0 ∧ zs = []) ∨ ∃ x, a = some x ∧ len ≤ cap ∧ cap ≤ maxLen ∧ zs.length = cap ∧ (∀ i, i < zs.length → w.cell? (x.add i) = some (.int .i64 (zs.getD i 0))) ∧ ∀ n ∈ zs, (Lit.int .i64 n).wf = true) :
    IRow w w.heap.size a (zs.take len) ∧ (zs.take len).length = len ∧ ∀ n ∈ zs.take len, (Lit.int .i64 n).wf = true := by
  rcases h with ⟨rfl, rfl, rfl, rfl⟩ | ⟨x, rfl, hl, hm, hz, hc, hwf⟩
  · exact ⟨Row.nil, rfl, by simp⟩
  · refine ⟨fun hp => ?_, by rw [List.length_take]; omega, fun n hn => hwf n (List.mem_of_mem_take hn)⟩
    have hp' : 0 < zs.length := by simp at hp; omega
    obtain ⟨b, off, spot⟩ := x
    have h0 := hc 0 hp'
    have hspot : spot = none := by simpa [Addr.add] using World.cell?_spot h0
    subst hspot
    have h0' : w.cell? ⟨b, off, none⟩ = some (.int .i64 (zs.getD 0 0)) := by simpa [Addr.add] using h0
    refine ⟨b, off, rfl, World.block_lt_of_cell? w _ h0', fun i v hv => ?_⟩
    rw [List.getElem?_map, List.getElem?_take] at hv
    split at hv
    · rcases hi : zs[i]? with _ | u
      · rw [hi] at hv; cases hv
      · rw [hi] at hv
        obtain ⟨hlt, he⟩ := List.getElem?_eq_some_iff.1 hi
        have := hc i hlt
        have hadd : (⟨b, off, none⟩ : Addr).add i = ⟨b, off + i, none⟩ := by unfold Addr.add; split <;> simp_all
        rw [hadd, List.getD_eq_getElem?_getD, hi] at this
        rw [this]
        exact hv
    · cases hv
theorem ret_int {k : IntKind} {a b : Int} (h : a = b) : Ending.returned (.int k a) = .returned (.int k b) := by rw [h]
theorem ret_bool {a b : Bool} (h : a = b) : Ending.returned (.bool a) = .returned (.bool b) := by rw [h]
theorem take_snoc (s : ByteArray) (k : Nat) (h : k < s.size) : s.data.toList.take (k + 1) = s.data.toList.take k ++ [s[k]] := by
  rw [List.take_succ_eq_append_getElem (by simpa using h)]; rfl
theorem take_one {α : Type} (xs : List α) (k : Nat) (u : α) (h : xs[k]? = some u) : xs.take (k + 1) = xs.take k ++ [u] := by
  rw [List.take_add_one, h]; rfl
theorem drop_one {α : Type} (xs : List α) (k : Nat) (u : α) (h : xs[k]? = some u) : xs.drop k = u :: xs.drop (k + 1) := by
  obtain ⟨hk, rfl⟩ := List.getElem?_eq_some_iff.1 h
  exact List.drop_eq_getElem_cons hk
end Go.Proofs.YtfhcokbphcjknaaGreatDoor

namespace Go.Proofs.YtfhcokbphcjknaaGreatDoor
open Go.RowKit
/-- The slice of address A owns a row of the values vs that lies from block lo on and below block hi. -/
structure OwnV (w : World) (lo hi : Nat) (T : TypeId) (s : Nat) (A : Option Addr) (n c : Nat) (vs : List Value) : Prop where
  own : w.ownsRow lo T s (.slice A n c) n vs
  top : ∀ g, (Value.slice A n c).ownBlock = some g → g < hi
theorem OwnV.mk' {w' : World} {lo : Nat} {T : TypeId} {s : Nat} {A : Option Addr} {n c : Nat} {vs : List Value} (h : w'.ownsRow lo T s (.slice A n c) n vs) : OwnV w' lo w'.heap.size T s A n c vs :=
  ⟨h, fun g hg => (h.lt g hg).2⟩
theorem OwnV.below {w w' : World} {lo hi B : Nat} {T : TypeId} {s : Nat} {A : Option Addr} {n c : Nat} {vs : List Value} (h : OwnV w lo hi T s A n c vs) (hb : Below B w w') (hB : hi ≤ B) : OwnV w' lo hi T s A n c vs :=
  ⟨own_below h.own hb fun g hg => Nat.lt_of_lt_of_le (h.top g hg) hB, h.top⟩
/-- A write into another row keeps it. -/
theorem OwnV.grown {w w' : World} {lo hi lo' hi' : Nat} {T T' : TypeId} {s s' : Nat} {A A' : Option Addr} {n c n' c' : Nat} {vs vs' : List Value} (h : OwnV w lo hi T s A n c vs)
    (h' : OwnV w lo' hi' T' s' A' n' c' vs') (hg : w.grownBy w' (Value.slice A' n' c').ownBlock) (hd : hi ≤ lo' ∨ hi' ≤ lo) : OwnV w' lo hi T s A n c vs := by
  refine ⟨h.own.kept hg ?_, h.top⟩
  rcases e : (Value.slice A n c).ownBlock with _ | g
  · exact .inl rfl
  · refine .inr fun e' => ?_
    have h1 := h.top g e
    have h2 := (h.own.lt g e).1
    have h3 := h'.top g e'.symm
    have h4 := (h'.own.lt g e'.symm).1
    omega
theorem OwnV.row {w : World} {lo hi : Nat} {T : TypeId} {A : Option Addr} {n c : Nat} {vs : List Value} (h : OwnV w lo hi T 1 A n c vs) : Row w hi A vs := by
  intro hp
  obtain ⟨b, off, e, hb, hc⟩ := Row.of_own h.own hp
  exact ⟨b, off, e, h.top b (by rw [e]; rfl), hc⟩
/-- A write into a row of the call's own turns nothing below it. -/
theorem OwnV.turns {w w' : World} {lo hi B : Nat} {T : TypeId} {s : Nat} {A : Option Addr} {n c : Nat} {vs : List Value} (h : OwnV w lo hi T s A n c vs) (hg : w.grownBy w' (Value.slice A n c).ownBlock) (hB : B ≤ lo) (hs : lo ≤ w.heap.size) : Below B w w' :=
  (Below.refl B w).grown hg (by omega) fun g e => by have := (h.own.lt g e).1; omega
theorem OwnV.len {w : World} {lo hi : Nat} {T : TypeId} {A : Option Addr} {n c : Nat} {vs : List Value} (h : OwnV w lo hi T 1 A n c vs) : vs.length = n := by have := h.own.1; omega
end Go.Proofs.YtfhcokbphcjknaaGreatDoor

namespace Go.Proofs.YtfhcokbphcjknaaGreatDoor
open Go.RowKit
theorem isSmallLetter_any (r : Int) (w : World) : Calls Tryz.prog 70 #[.int .i32 r] w fun e w' => e = .returned (.bool (smallI r)) ∧ w = w' := by
  by_cases h1 : 97 ≤ r
  · by_cases h2 : r ≤ 122
    · have H := Lib.hid (smallI_yes ⟨h1, h2⟩)
      go_enter Tryz.func70, Tryz.ntmps70
      go_wp2
      go_ret
      exact ⟨ret_bool H.out.symm, rfl⟩
    · have H := Lib.hid (smallI_no (fun h : 97 ≤ r ∧ r ≤ 122 => h2 h.2))
      go_enter Tryz.func70, Tryz.ntmps70
      go_wp2
      go_ret
      exact ⟨ret_bool H.out.symm, rfl⟩
  · have H := Lib.hid (smallI_no (fun h : 97 ≤ r ∧ r ≤ 122 => h1 h.1))
    go_enter Tryz.func70, Tryz.ntmps70
    go_wp2
    go_ret
    exact ⟨ret_bool H.out.symm, rfl⟩
theorem isDigit_any (r : Int) (w : World) : Calls Tryz.prog 71 #[.int .i32 r] w fun e w' => e = .returned (.bool (digitI r)) ∧ w = w' := by
  by_cases h1 : 48 ≤ r
  · by_cases h2 : r ≤ 57
    · have H := Lib.hid (digitI_yes ⟨h1, h2⟩)
      go_enter Tryz.func71, Tryz.ntmps71
      go_wp2
      go_ret
      exact ⟨ret_bool H.out.symm, rfl⟩
    · have H := Lib.hid (digitI_no (fun h : 48 ≤ r ∧ r ≤ 57 => h2 h.2))
      go_enter Tryz.func71, Tryz.ntmps71
      go_wp2
      go_ret
      exact ⟨ret_bool H.out.symm, rfl⟩
  · have H := Lib.hid (digitI_no (fun h : 48 ≤ r ∧ r ≤ 57 => h1 h.1))
    go_enter Tryz.func71, Tryz.ntmps71
    go_wp2
    go_ret
    exact ⟨ret_bool H.out.symm, rfl⟩
theorem specSmall_any (r : Int) (w : World) : Calls Tryz.prog 85 #[.int .u8 r] w fun e w' => e = .returned (.bool (smallI r)) ∧ w = w' := by
  by_cases h1 : 97 ≤ r
  · by_cases h2 : r ≤ 122
    · have H := Lib.hid (smallI_yes ⟨h1, h2⟩)
      go_enter Tryz.func85, Tryz.ntmps85
      go_wp2
      go_ret
      exact ⟨ret_bool H.out.symm, rfl⟩
    · have H := Lib.hid (smallI_no (fun h : 97 ≤ r ∧ r ≤ 122 => h2 h.2))
      go_enter Tryz.func85, Tryz.ntmps85
      go_wp2
      go_ret
      exact ⟨ret_bool H.out.symm, rfl⟩
  · have H := Lib.hid (smallI_no (fun h : 97 ≤ r ∧ r ≤ 122 => h1 h.1))
    go_enter Tryz.func85, Tryz.ntmps85
    go_wp2
    go_ret
    exact ⟨ret_bool H.out.symm, rfl⟩
theorem specDigit_any (r : Int) (w : World) : Calls Tryz.prog 86 #[.int .u8 r] w fun e w' => e = .returned (.bool (digitI r)) ∧ w = w' := by
  by_cases h1 : 48 ≤ r
  · by_cases h2 : r ≤ 57
    · have H := Lib.hid (digitI_yes ⟨h1, h2⟩)
      go_enter Tryz.func86, Tryz.ntmps86
      go_wp2
      go_ret
      exact ⟨ret_bool H.out.symm, rfl⟩
    · have H := Lib.hid (digitI_no (fun h : 48 ≤ r ∧ r ≤ 57 => h2 h.2))
      go_enter Tryz.func86, Tryz.ntmps86
      go_wp2
      go_ret
      exact ⟨ret_bool H.out.symm, rfl⟩
  · have H := Lib.hid (digitI_no (fun h : 48 ≤ r ∧ r ≤ 57 => h1 h.1))
    go_enter Tryz.func86, Tryz.ntmps86
    go_wp2
    go_ret
    exact ⟨ret_bool H.out.symm, rfl⟩
theorem empty_yes {s : ByteArray} (h : s.size < 1) : s.toList.isEmpty = true := by
  rw [ByteArray.toList_eq, List.isEmpty_iff_length_eq_zero, byte_len]; omega
theorem empty_no {s : ByteArray} (h : ¬ s.size < 1) : s.toList.isEmpty = false := by
  rcases hb : s.toList.isEmpty with _ | _
  · rfl
  · rw [ByteArray.toList_eq, List.isEmpty_iff_length_eq_zero, byte_len] at hb; omega
set_option maxHeartbeats 1000000 in
theorem specName_any (s : ByteArray) (w : World) :
    Calls Tryz.prog 62 #[.string s] w fun e w' => e = .returned (.bool (nameB s.data.toList)) ∧ w = w' := by
  by_cases h0 : s.size < 1
  · have H := Lib.hid (name_short h0)
    have he := empty_yes h0
    go_enter Tryz.func62, Tryz.ntmps62
    go_wp2
    go_ret
    exact ⟨ret_bool H.out.symm, rfl⟩
  have he := empty_no h0
  by_cases h10 : 10 < s.size
  · have H := Lib.hid (name_long h10)
    have h10' : (10 : Int) < (s.size : Int) := by omega
    go_enter Tryz.func62, Tryz.ntmps62
    go_wp2
    go_ret
    exact ⟨ret_bool H.out.symm, rfl⟩
  have h10' : ¬ (10 : Int) < (s.size : Int) := by omega
  have hp : 0 < s.size := by omega
  have hb0 := (s[0]).toNat_lt
  rcases hsm : smallI (s[0]).toNat with _ | _
  · have H := Lib.hid (name_bad 0 hp (not_good_zero hsm))
    go_enter Tryz.func62, Tryz.ntmps62
    go_wp2_with (go_at_call 85; refine (specSmall_any _ _).mono ?_; rintro e w' ⟨rfl, rfl⟩)
    go_ret
    exact ⟨ret_bool H.out.symm, rfl⟩
  go_enter Tryz.func62, Tryz.ntmps62
  go_wp2_with (go_at_call 85; refine (specSmall_any _ _).mono ?_; rintro e w' ⟨rfl, rfl⟩)
  have HG0 : goodB 0 s[0] := .inl hsm
  have HG := Lib.hid HG0
  clear HG0 hsm hb0 he
  go_loop [3] (fun i => ∃ k : Nat, k ≤ s.size ∧ i = .int .i64 k ∧ Hid (∀ i (hi : i < s.size), i < k → goodB i s[i])) (fun i => s.size - (intOf i).toNat)
  case atStart => exact ⟨0, Nat.zero_le _, rfl, fun i _ h => by omega⟩
  case round =>
    obtain ⟨k, hk, rfl, HK⟩ := hrel
    by_cases hlt : k < s.size
    · have hb := (s[k]).toNat_lt
      rcases hs1 : smallI (s[k]).toNat with _ | _
      · rcases hs2 : digitI (s[k]).toNat with _ | _
        · have H := Lib.hid (name_bad k hlt (not_good hs1 hs2))
          go_wp2_with (first | (go_at_call 85; refine (specSmall_any _ _).mono ?_; rintro e w' ⟨rfl, rfl⟩) | (go_at_call 86; refine (specDigit_any _ _).mono ?_; rintro e w' ⟨rfl, rfl⟩))
          go_ret
          exact ⟨ret_bool H.out.symm, rfl⟩
        · have HN : goodB k s[k] := by
            by_cases h : k = 0
            · subst h; exact HG.out
            · exact .inr ⟨h, hs2⟩
          have HN' := Lib.hid HN
          clear HN
          go_wp2_with (first | (go_at_call 85; refine (specSmall_any _ _).mono ?_; rintro e w' ⟨rfl, rfl⟩) | (go_at_call 86; refine (specDigit_any _ _).mono ?_; rintro e w' ⟨rfl, rfl⟩))
          go_round
          case rel => exact ⟨k + 1, by omega, by go_num, fun i hi h => by
            by_cases e : i = k
            · subst e; exact HN'.out
            · exact HK.out i hi (by omega)⟩
          case measure => simp [intOf]; omega
      · have HN : goodB k s[k] := .inl hs1
        have HN' := Lib.hid HN
        clear HN
        go_wp2_with (go_at_call 85; refine (specSmall_any _ _).mono ?_; rintro e w' ⟨rfl, rfl⟩)
        go_round
        case rel => exact ⟨k + 1, by omega, by go_num, fun i hi h => by
          by_cases e : i = k
          · subst e; exact HN'.out
          · exact HK.out i hi (by omega)⟩
        case measure => simp [intOf]; omega
    · have H := Lib.hid (name_all (s := s) (by omega) (by omega) fun i hi => HK.out i hi (by omega))
      go_wp2
      go_ret
      exact ⟨ret_bool H.out.symm, rfl⟩
theorem decode_first (s : ByteArray) (pos : Nat) (h : pos < s.size) : 1 ≤ (Utf8.decode s pos).2 ∧
    (((s[pos]).toNat < 128 ∧ (Utf8.decode s pos).1 = (s[pos]).toNat ∧ (Utf8.decode s pos).2 = 1) ∨ (128 ≤ (s[pos]).toNat ∧ 128 ≤ (Utf8.decode s pos).1)) := by
  by_cases ha : (s[pos]).toNat < 128
  · rw [decode_ascii s pos h ha]
    exact ⟨Nat.le_refl _, .inl ⟨ha, rfl, rfl⟩⟩
  · have := decode_high s pos h (by omega)
    exact ⟨this.2, .inr ⟨by omega, this.1⟩⟩
theorem decode_kinds (s : ByteArray) (pos : Nat) (h : pos < s.size) : smallI ((Utf8.decode s pos).1 : Nat) = smallI (s[pos]).toNat ∧ digitI ((Utf8.decode s pos).1 : Nat) = digitI (s[pos]).toNat ∧
    (smallI (s[pos]).toNat = true ∨ digitI (s[pos]).toNat = true → (Utf8.decode s pos).2 = 1) := by
  rcases (decode_first s pos h).2 with ⟨h1, h2, h3⟩ | ⟨h1, h2⟩
  · rw [h2, h3]; exact ⟨rfl, rfl, fun _ => rfl⟩
  · have a1 : smallI ((Utf8.decode s pos).1 : Nat) = false := smallI_no (by omega)
    have a2 : digitI ((Utf8.decode s pos).1 : Nat) = false := digitI_no (by omega)
    have a3 : smallI (s[pos]).toNat = false := smallI_no (by omega)
    have a4 : digitI (s[pos]).toNat = false := digitI_no (by omega)
    rw [a1, a2, a3, a4]
    exact ⟨rfl, rfl, fun h => by rcases h with h | h <;> cases h⟩
set_option maxHeartbeats 1000000 in
theorem implName_any (s : ByteArray) (w : World) :
    Calls Tryz.prog 45 #[.string s] w fun e w' => e = .returned (.bool (nameB s.data.toList)) ∧ Below w.heap.size w w' := by
  by_cases h0 : s.size < 1
  · have H := Lib.hid (name_short h0)
    have h0' : (s.size : Int) < 1 := by omega
    go_enter Tryz.func45, Tryz.ntmps45
    go_wp2
    go_ret
    exact ⟨ret_bool H.out.symm, Below.refl _ _⟩
  have h0' : ¬ (s.size : Int) < 1 := by omega
  by_cases h10 : 10 < s.size
  · have H := Lib.hid (name_long h10)
    have h10' : (10 : Int) < (s.size : Int) := by omega
    go_enter Tryz.func45, Tryz.ntmps45
    go_wp2
    go_ret
    exact ⟨ret_bool H.out.symm, Below.refl _ _⟩
  have h10' : ¬ (10 : Int) < (s.size : Int) := by omega
  go_enter Tryz.func45, Tryz.ntmps45
  go_wp2
  go_loopw [3, 4] (fun _ _ wr => ∃ pos : Nat, pos ≤ s.size ∧ wr = w.iter s pos ∧ Hid (∀ i (hi : i < s.size), i < pos → goodB i s[i])) (fun _ _ wr => s.size - wr.iterPos w.heap.size)
  case atStart => exact ⟨0, Nat.zero_le _, rfl, fun i _ h => by omega⟩
  case round =>
    obtain ⟨pos, hle, rfl, HK⟩ := hrel
    by_cases hp : pos < s.size
    · have hnx : ∀ ty, (Instr.next (.pointer (some ⟨w.heap.size, 0, none⟩)) true ty).run Tryz.prog (w.iter s pos) = _ := fun ty => run_next_any w s pos ty hp
      obtain ⟨hd1, hd2, hd3⟩ := decode_kinds s pos hp
      have HD3 := Lib.hid hd3
      clear hd3
      rcases hs1 : smallI (s[pos]).toNat with _ | _
      · rw [hs1] at hd1
        by_cases hz : pos = 0
        · have H := Lib.hid (name_bad pos hp (by subst hz; exact not_good_zero hs1))
          have hz' : ((pos : Int) == 0) = true := by simp [hz]
          clear hz
          go_wp2_with (first | (go_at_call 70; refine (isSmallLetter_any _ _).mono ?_; rintro e w' ⟨rfl, rfl⟩) | (go_at_call 71; refine (isDigit_any _ _).mono ?_; rintro e w' ⟨rfl, rfl⟩))
          go_ret
          exact ⟨ret_bool H.out.symm, (Below.refl _ _).alloc (Nat.le_refl _) _⟩
        · have hz' : ((pos : Int) == 0) = false := by simp [hz]
          rcases hs2 : digitI (s[pos]).toNat with _ | _
          · rw [hs2] at hd2
            have H := Lib.hid (name_bad pos hp (not_good hs1 hs2))
            go_wp2_with (first | (go_at_call 70; refine (isSmallLetter_any _ _).mono ?_; rintro e w' ⟨rfl, rfl⟩) | (go_at_call 71; refine (isDigit_any _ _).mono ?_; rintro e w' ⟨rfl, rfl⟩))
            go_ret
            exact ⟨ret_bool H.out.symm, (Below.refl _ _).alloc (Nat.le_refl _) _⟩
          · rw [hs2] at hd2
            have HN := Lib.hid (show goodB pos s[pos] from .inr ⟨hz, hs2⟩)
            have HW := Lib.hid (HD3.out (.inr hs2))
            go_wp2_with (first | (go_at_call 70; refine (isSmallLetter_any _ _).mono ?_; rintro e w' ⟨rfl, rfl⟩) | (go_at_call 71; refine (isDigit_any _ _).mono ?_; rintro e w' ⟨rfl, rfl⟩))
            go_roundw
            case rel => exact ⟨pos + 1, by omega, by rw [HW.out], fun i hi h => by
              by_cases e : i = pos
              · subst e; exact HN.out
              · exact HK.out i hi (by omega)⟩
            case measure => simp [HW.out]; omega
      · rw [hs1] at hd1
        have HN := Lib.hid (show goodB pos s[pos] from .inl hs1)
        have HW := Lib.hid (HD3.out (.inl hs1))
        go_wp2_with (first | (go_at_call 70; refine (isSmallLetter_any _ _).mono ?_; rintro e w' ⟨rfl, rfl⟩) | (go_at_call 71; refine (isDigit_any _ _).mono ?_; rintro e w' ⟨rfl, rfl⟩))
        go_roundw
        case rel => exact ⟨pos + 1, by omega, by rw [HW.out], fun i hi h => by
          by_cases e : i = pos
          · subst e; exact HN.out
          · exact HK.out i hi (by omega)⟩
        case measure => simp [HW.out]; omega
    · have hnx : ∀ ty, (Instr.next (.pointer (some ⟨w.heap.size, 0, none⟩)) true ty).run Tryz.prog (w.iter s pos) = _ := fun ty => run_next_end w s pos ty hp
      have H := Lib.hid (name_all (s := s) (by omega) (by omega) fun i hi => HK.out i hi (by omega))
      go_wp2
      go_ret
      exact ⟨ret_bool H.out.symm, (Below.refl _ _).alloc (Nat.le_refl _) _⟩
theorem implName_bel (s : ByteArray) (w : World) (B : Nat) (hB : B ≤ w.heap.size) :
    Calls Tryz.prog 45 #[.string s] w fun e w' => e = .returned (.bool (nameB s.data.toList)) ∧ Below B w w' :=
  (implName_any s w).mono fun _ _ ⟨h1, h2⟩ => ⟨h1, h2.mono hB⟩
/-- The bytes of the one name that is no action. -/
def tauBytes : List UInt8 := [116, 97, 117]
noncomputable def actionB (l : List UInt8) : Bool := nameB l && !(l == tauBytes)
theorem specAction_any (s : ByteArray) (w : World) :
    Calls Tryz.prog 66 #[.string s] w fun e w' => e = .returned (.bool (actionB s.data.toList)) ∧ w = w' := by
  have HA : Hid (actionB s.data.toList = (nameB s.data.toList && !(s.toList == [116, 97, 117]))) := by rw [ByteArray.toList_eq]; exact (rfl : _ = _)
  rcases hn : nameB s.data.toList with _ | _
  · go_enter Tryz.func66, Tryz.ntmps66
    go_wp2_with (go_at_call 62; refine (specName_any _ _).mono ?_; rintro e w' ⟨rfl, rfl⟩)
    go_ret
    exact ⟨ret_bool (by rw [HA.out, hn]; rfl), rfl⟩
  · go_enter Tryz.func66, Tryz.ntmps66
    go_wp2_with (go_at_call 62; refine (specName_any _ _).mono ?_; rintro e w' ⟨rfl, rfl⟩)
    go_ret
    exact ⟨ret_bool (by rw [HA.out, hn]; rfl), rfl⟩
theorem implAction_any (s : ByteArray) (w : World) :
    Calls Tryz.prog 56 #[.string s] w fun e w' => e = .returned (.bool (actionB s.data.toList)) ∧ Below w.heap.size w w' := by
  have HA : Hid (actionB s.data.toList = (nameB s.data.toList && !(s.toList == [116, 97, 117]))) := by rw [ByteArray.toList_eq]; exact (rfl : _ = _)
  rcases hn : nameB s.data.toList with _ | _
  · go_enter Tryz.func56, Tryz.ntmps56
    go_wp2_with (go_at_call 45; refine (implName_any _ _).mono ?_; rintro e w1 ⟨rfl, hb⟩)
    go_ret
    exact ⟨ret_bool (by rw [HA.out, hn]; rfl), hb⟩
  · go_enter Tryz.func56, Tryz.ntmps56
    go_wp2_with (go_at_call 45; refine (implName_any _ _).mono ?_; rintro e w1 ⟨rfl, hb⟩)
    go_ret
    exact ⟨ret_bool (by rw [HA.out, hn]; rfl), hb⟩
end Go.Proofs.YtfhcokbphcjknaaGreatDoor

namespace Go.Proofs.YtfhcokbphcjknaaGreatDoor
open Go.RowKit
theorem l00In_yes (x a b : Int) (h : a ≤ x ∧ x ≤ b) (w : World) :
    Calls Tryz.prog 63 #[.int .i64 x, .int .i64 a, .int .i64 b] w fun e w' => e = .returned (.bool true) ∧ w = w' := by
  obtain ⟨h1, h2⟩ := h
  go_enter Tryz.func63, Tryz.ntmps63
  go_wp2
  go_ret
  exact ⟨rfl, rfl⟩
theorem l00In_no (x a b : Int) (h : x < a ∨ b < x) (w : World) :
    Calls Tryz.prog 63 #[.int .i64 x, .int .i64 a, .int .i64 b] w fun e w' => e = .returned (.bool false) ∧ w = w' := by
  by_cases h1 : a ≤ x
  · have h2 : ¬ x ≤ b := by omega
    go_enter Tryz.func63, Tryz.ntmps63
    go_wp2
    go_ret
    exact ⟨rfl, rfl⟩
  · go_enter Tryz.func63, Tryz.ntmps63
    go_wp2
    go_ret
    exact ⟨rfl, rfl⟩
end Go.Proofs.YtfhcokbphcjknaaGreatDoor

namespace Go.Proofs.YtfhcokbphcjknaaGreatDoor
open Go.RowKit
/-- A slice of slices reads as the list of lists xss. -/
def RRow (w : World) (B : Nat) (A : Option Addr) (xss : List (List Int)) : Prop :=
  ∃ vs : List Value, Row w B A vs ∧ vs.length = xss.length ∧ ∀ (i : Nat) (xs : List Int), xss[i]? = some xs → ∃ (A' : Option Addr) (c' : Nat), vs[i]? = some (Value.slice A' xs.length c') ∧ IRow w B A' xs
theorem RRow.below {w w' : World} {B : Nat} {A : Option Addr} {xss : List (List Int)} (h : RRow w B A xss) (hb : Below B w w') : RRow w' B A xss := by
  obtain ⟨vs, h1, h2, h3⟩ := h
  refine ⟨vs, h1.below hb, h2, fun i xs hi => ?_⟩
  obtain ⟨A', c', e, hr⟩ := h3 i xs hi
  exact ⟨A', c', e, hr.below hb⟩
theorem RRow.drawn {w w' : World} {B : Nat} {A : Option Addr} {xss : List (List Int)} (h : RRow w B A xss) (hd : Drawn w w') : RRow w' B A xss := h.below (hd.below _)
theorem RRow.more {w : World} {B B' : Nat} {A : Option Addr} {xss : List (List Int)} (h : RRow w B A xss) (hB : B ≤ B') : RRow w B' A xss := by
  obtain ⟨vs, h1, h2, h3⟩ := h
  refine ⟨vs, h1.more hB, h2, fun i xs hi => ?_⟩
  obtain ⟨A', c', e, hr⟩ := h3 i xs hi
  exact ⟨A', c', e, hr.more hB⟩
theorem RRow.at_ {w : World} {B : Nat} {A : Option Addr} {xss : List (List Int)} (h : RRow w B A xss) {k : Nat} (hk : k < xss.length) :
    ∃ b off A' c' xs, A = some ⟨b, off, none⟩ ∧ b < B ∧ w.cell? ⟨b, off + k, none⟩ = some (.slice A' xs.length c') ∧ IRow w B A' xs ∧ Hid (xss[k]? = some xs) := by
  obtain ⟨vs, h1, h2, h3⟩ := h
  obtain ⟨b, off, e, hb, hc⟩ := h1.at_ (k := k) (by omega)
  obtain ⟨A', c', e', hr⟩ := h3 k xss[k] (List.getElem?_eq_getElem hk)
  rw [List.getElem?_eq_getElem (by omega)] at e'
  injection e' with e'
  exact ⟨b, off, A', c', xss[k], e, hb, by rw [← e']; exact hc, hr, List.getElem?_eq_getElem hk⟩
theorem spot_none {w : World} {a : Addr} {v : Value} (h : w.cell? (a.add 0) = some v) : ∃ b off, a = ⟨b, off, none⟩ ∧ b < w.heap.size := by
  obtain ⟨b, off, spot⟩ := a
  have hspot : spot = none := by simpa [Addr.add] using World.cell?_spot h
  subst hspot
  have h0 : w.cell? ⟨b, off, none⟩ = some v := by simpa [Addr.add] using h
  exact ⟨b, off, rfl, World.block_lt_of_cell? w _ h0⟩
theorem add_lit (b off i : Nat) : (⟨b, off, none⟩ : Addr).add i = ⟨b, off + i, none⟩ := by unfold Addr.add; split <;> simp_all
theorem range_map_at {α : Type} {f : Nat → α} {n i : Nat} {v : α} (h : ((List.range n).map f)[i]? = some v) : i < n ∧ v = f i := by
  obtain ⟨hlt, he⟩ := List.getElem?_eq_some_iff.1 h
  simp at hlt he
  exact ⟨hlt, he.symm⟩
def JIn (w : World) (a : Option Addr) (len : Nat) : Prop :=
  ∃ xss : List (List Int), RRow w w.heap.size a xss ∧ xss.length = len ∧ len ≤ maxLen ∧ ∀ xs ∈ xss, xs.length ≤ maxLen ∧ ∀ n ∈ xs, (Lit.int .i64 n).wf = true
/-- A slice of slices of 64-bit integers that came in reads as a list of lists. -/
theorem rrow_in {H : Type} {enc : TypeId × Value → H} {P : Program} {W : World} {held : Bool} {t e q : TypeId} {fuel : Nat} {a : Option Addr} {len cap : Nat} {x : DataW H × List MemPlace}
    (ht : P.underlying t = some (.slice e)) (he : P.underlying e = some (.slice q)) (hq : P.underlying q = some (.int .i64)) (ce : P.cellsOf e = 1) (cq : P.cellsOf q = 1)
    (h : DataW.trod enc P W 0 (fun _ => true) held fuel t [.slice a len cap] = some x) :
    ∃ xss : List (List Int), RRow W W.heap.size a xss ∧ xss.length = len ∧ len ≤ maxLen ∧ ∀ xs ∈ xss, xs.length ≤ maxLen ∧ ∀ n ∈ xs, (Lit.int .i64 n).wf = true := by
  rcases Go.Deep.open_int_rows ht he hq ce cq h with ⟨hcs, _⟩ | ⟨a', len', cap', A, L, C, Z, hcs, _, hl, hm, _, hr⟩
  · simp at hcs
    obtain ⟨rfl, rfl, rfl⟩ := hcs
    exact ⟨[], ⟨[], Row.nil, rfl, fun i xs hi => by simp at hi⟩, rfl, Nat.zero_le _, by simp⟩
  · simp at hcs
    obtain ⟨rfl, rfl, rfl⟩ := hcs
    refine ⟨(List.range len).map fun r => (Z r).take (L r), ⟨(List.range len).map fun r => Value.slice (A r) (L r) (C r), fun hp => ?_, by simp, fun i xs hi => ?_⟩, by simp, Nat.le_trans hl hm, ?_⟩
    · simp at hp
      obtain ⟨b, off, rfl, hb⟩ := spot_none (hr 0 (by omega)).1
      refine ⟨b, off, rfl, hb, fun i v hv => ?_⟩
      obtain ⟨hj, rfl⟩ := range_map_at hv
      have := (hr i (by omega)).1
      rwa [add_lit] at this
    · obtain ⟨hj, rfl⟩ := range_map_at hi
      obtain ⟨h1, h2, h3, h4, h5, h6, h7⟩ := hr i (by omega)
      have hlen : ((Z i).take (L i)).length = L i := by rw [List.length_take]; omega
      refine ⟨A i, C i, by simp [hj, h4, h2], fun hp => ?_⟩
      simp [h4] at hp
      rcases hA : A i with _ | a'
      · have := h6 hA; omega
      · have hc := (h7 a' hA).2
        obtain ⟨b, off, rfl, hb⟩ := spot_none (hc 0 (by omega))
        refine ⟨b, off, rfl, hb, fun j v hv => ?_⟩
        rw [List.getElem?_map, List.getElem?_take] at hv
        split at hv
        · rcases hz : (Z i)[j]? with _ | u
          · rw [hz] at hv; cases hv
          · rw [hz] at hv
            have := hc j (by omega)
            rw [add_lit, List.getD_eq_getElem?_getD, hz] at this
            rw [this]; exact hv
        · cases hv
    · intro xs hxs
      simp only [List.mem_map, List.mem_range] at hxs
      obtain ⟨r, hr', rfl⟩ := hxs
      obtain ⟨_, h2, h3, h4, h5, _⟩ := hr r (by omega)
      exact ⟨by rw [List.length_take]; omega, fun n hn => h5 n (List.mem_of_mem_take hn)⟩
end Go.Proofs.YtfhcokbphcjknaaGreatDoor
