/- Plain words for memory: a slice that reads as a list of one-cell values (nil let in), and what keeps such a reading. -/
/- Rows that the law's own calls have made, each within known bounds of block numbers: what keeps them. -/
/- Plain words for memory: a slice of slices of 64-bit integers that reads as a list of lists. -/
/- Writes within known bounds of block numbers; a slice of slices of the law's own, no two of them sharing memory. -/
/- Plain words for terms: a slice of terms that reads as a list, which terms there are, and which lists of them are expressions. -/
/- Plain words for memory: a slice of terms that came in reads as a list of terms; rows of terms of the call's own. -/
/- Words for what a call hands back: a list of numbers, or of terms, of its own, and a code. -/
/- Slices of lists of terms of the call's own, no two of them sharing memory: how they are built row by row, and what keeps them. -/
/- Plain words for memory: slices whose elements are records of several cells, read as lists, all of whose parts lie in blocks of one set. -/
/- The data of systems: parts, definitions, components, meetings, and how they are read. -/
/- Records whose memory is the call's own, no two parts of them sharing a block: what keeps such a reading, and one place of a list turned. -/
/- The text of a mark: the letter m and decimal digits. -/
/- Sets of blocks that are apart; how many marks a list takes. -/
/- Edges as records. -/
/- Lts as a record: how it is read, owned, marked. -/
import Derived.WalkKit
import Derived.Lib.Hide
import Derived.Deep.Draws
import Derived.Deep.QuietTactic
import Derived.ProofKit
import Derived.Deep.Matrix
import Derived.Deep.SlicePairs
import Derived.Test.YtbailpfjgjcbdaaGreatDoorProg
import Derived.OwnWalk
import Derived.Deep.Slices
namespace Go.Proofs.YtbailpfjgjcbdaaGreatDoor
open Go.RowKit
/-- The slice of address A reads as the values vs: where there are any, they lie in a row below block B. -/
def Row (w : World) (B : Nat) (A : Option Addr) (vs : List Value) : Prop :=
  0 < vs.length → ∃ b off, A = some ⟨b, off, none⟩ ∧ b < B ∧ ∀ i v, vs[i]? = some v → w.cell? ⟨b, off + i, none⟩ = some v
theorem Row.nil {w : World} {B : Nat} {A : Option Addr} : Row w B A [] := fun h => absurd h (by simp)
theorem Row.keep {w w' : World} {B : Nat} {A : Option Addr} {vs : List Value} (h : Row w B A vs) (hk : ∀ b o, b < B → w'.cell? ⟨b, o, none⟩ = w.cell? ⟨b, o, none⟩) : Row w' B A vs := by
  intro hp
  obtain ⟨b, off, e, hb, hc⟩ := h hp
  exact ⟨b, off, e, hb, fun i v hv => (hk b _ hb).trans (hc i v hv)⟩
theorem Row.below {w w' : World} {B : Nat} {A : Option Addr} {vs : List Value} (h : Row w B A vs) (hb : Below B w w') : Row w' B A vs :=
  h.keep fun b o hlt => hb.cell (p := ⟨b, o, none⟩) hlt
theorem Row.more {w : World} {B B' : Nat} {A : Option Addr} {vs : List Value} (h : Row w B A vs) (hB : B ≤ B') : Row w B' A vs := by
  intro hp
  obtain ⟨b, off, e, hb, hc⟩ := h hp
  exact ⟨b, off, e, by omega, hc⟩
theorem Row.drewN {w : World} {B : Nat} {A : Option Addr} {vs : List Value} (h : Row w B A vs) (n : Nat) : Row (w.drewN n) B A vs := h
theorem Row.drew {w : World} {B : Nat} {A : Option Addr} {vs : List Value} (h : Row w B A vs) : Row w.drew B A vs := h
theorem Row.at_ {w : World} {B : Nat} {A : Option Addr} {vs : List Value} (h : Row w B A vs) {k : Nat} (hk : k < vs.length) :
    ∃ b off, A = some ⟨b, off, none⟩ ∧ b < B ∧ w.cell? ⟨b, off + k, none⟩ = some vs[k] := by
  obtain ⟨b, off, e, hb, hc⟩ := h (by omega)
  exact ⟨b, off, e, hb, hc k _ (List.getElem?_eq_getElem hk)⟩
theorem below_drewN (w : World) (B n : Nat) : Below B w (w.drewN n) := ⟨rfl, rfl, rfl, Nat.le_refl _, fun _ _ => rfl⟩

/-- The world w' is w, but for draws of an order that Go leaves open. -/
def Drawn (w w' : World) : Prop := ∃ n, w' = w.drewN n
theorem Drawn.refl (w : World) : Drawn w w := ⟨0, rfl⟩
theorem Drawn.drewN {w w' : World} (h : Drawn w w') (n : Nat) : Drawn w (w'.drewN n) := by
  obtain ⟨m, rfl⟩ := h
  exact ⟨m + n, by rw [World.drewN_drewN]⟩
theorem Drawn.drew {w w' : World} (h : Drawn w w') : Drawn w w'.drew := h.drewN 1
theorem Drawn.trans {w w1 w2 : World} (h : Drawn w w1) (h2 : Drawn w1 w2) : Drawn w w2 := by
  obtain ⟨n, rfl⟩ := h2
  exact h.drewN n
theorem Drawn.below {w w' : World} (h : Drawn w w') (B : Nat) : Below B w w' := by
  obtain ⟨n, rfl⟩ := h
  exact below_drewN w B n
theorem Row.drawn {w w' : World} {B : Nat} {A : Option Addr} {vs : List Value} (h : Row w B A vs) (hd : Drawn w w') : Row w' B A vs := h.below (hd.below _)
/-- A slice of 64-bit integers that reads as the list xs. -/
def IRow (w : World) (B : Nat) (A : Option Addr) (xs : List Int) : Prop := Row w B A (xs.map (Value.int .i64))
theorem IRow.below {w w' : World} {B : Nat} {A : Option Addr} {xs : List Int} (h : IRow w B A xs) (hb : Below B w w') : IRow w' B A xs := Row.below h hb
theorem IRow.more {w : World} {B B' : Nat} {A : Option Addr} {xs : List Int} (h : IRow w B A xs) (hB : B ≤ B') : IRow w B' A xs := Row.more h hB
theorem IRow.drawn {w w' : World} {B : Nat} {A : Option Addr} {xs : List Int} (h : IRow w B A xs) (hd : Drawn w w') : IRow w' B A xs := Row.below h (hd.below _)
theorem IRow.drewN {w : World} {B : Nat} {A : Option Addr} {xs : List Int} (h : IRow w B A xs) (n : Nat) : IRow (w.drewN n) B A xs := h
theorem IRow.at_ {w : World} {B : Nat} {A : Option Addr} {xs : List Int} (h : IRow w B A xs) {k : Nat} (hk : k < xs.length) :
    ∃ b off u, A = some ⟨b, off, none⟩ ∧ b < B ∧ w.cell? ⟨b, off + k, none⟩ = some (.int .i64 u) ∧ Hid (xs[k]? = some u) := by
  obtain ⟨b, off, e, hb, hc⟩ := Row.at_ h (k := k) (by simpa using hk)
  exact ⟨b, off, xs[k], e, hb, by simpa using hc, List.getElem?_eq_getElem hk⟩
theorem Row.of_own {w : World} {base : Nat} {T : TypeId} {A : Option Addr} {n c : Nat} {vs : List Value} (h : w.ownsRow base T 1 (.slice A n c) n vs) : Row w w.heap.size A vs := by
  intro hp
  rcases h.2 with ⟨e, hn⟩ | ⟨g, cap, cur, e, hb, hg, hnc, _, hcs, ht⟩
  · have := h.1; omega
  · injection e with e1 e2 e3
    subst e1
    refine ⟨g, 0, rfl, (Array.getElem?_eq_some_iff.1 hg).1, fun i v hv => ?_⟩
    rw [Nat.zero_add, cell_of_row w g i cur T (0, 0) hg]
    rw [← ht, List.getElem?_take] at hv
    split at hv
    · simpa using hv
    · cases hv
/-- What the call owns from base on is kept by a world that is as it was below a greater block number. -/
theorem own_below {w w' : World} {base B : Nat} {T : TypeId} {s n : Nat} {v : Value} {vs : List Value} (h : w.ownsRow base T s v n vs) (hb : Below B w w') (hv : ∀ g, v.ownBlock = some g → g < B) : w'.ownsRow base T s v n vs := by
  refine ⟨h.1, ?_⟩
  rcases h.2 with hn | ⟨g, cap, cur, rfl, hbg, hg, rest⟩
  · exact .inl hn
  · exact .inr ⟨g, cap, cur, rfl, hbg, by rw [hb.block g (hv g rfl)]; exact hg, rest⟩
theorem own_below' {w w' : World} {base : Nat} {T : TypeId} {s n : Nat} {v : Value} {vs : List Value} (h : w.ownsRow base T s v n vs) (hb : Below w.heap.size w w') : w'.ownsRow base T s v n vs :=
  own_below h hb fun g hg => (h.lt g hg).2
theorem own_drawn {w w' : World} {base : Nat} {T : TypeId} {s n : Nat} {v : Value} {vs : List Value} (h : w.ownsRow base T s v n vs) (hb : Drawn w w') : w'.ownsRow base T s v n vs :=
  own_below' h (hb.below _)
theorem grown_trans {w w1 w2 : World} {row : Option Nat} (h : w.grownBy w1 row) (h2 : w1.grownBy w2 row) : w.grownBy w2 row :=
  ⟨h2.os.trans h.os, h2.tape.trans h.tape, h2.output.trans h.output, Nat.le_trans h.size h2.size, fun k hk hne => (h2.block k (Nat.lt_of_lt_of_le hk h.size) hne).trans (h.block k hk hne)⟩
theorem grown_drawn {w w1 : World} {row : Option Nat} (h : Drawn w w1) : w.grownBy w1 row := by
  obtain ⟨n, rfl⟩ := h
  exact ⟨rfl, rfl, rfl, Nat.le_refl _, fun _ _ _ => rfl⟩
/-- A store into a row of the call's own, behind draws. -/
theorem own_put {w w' : World} {base : Nat} {T : TypeId} {s g n c : Nat} {vs vs' : List Value} (h : w.ownsRow base T s (.slice (some ⟨g, 0, none⟩) n c) n vs) (hd : Drawn w w') {k : Nat} {v : Value} (e : vs.set k v = vs') :
    (w'.setCell ⟨g, k, none⟩ v).ownsRow base T s (.slice (some ⟨g, 0, none⟩) n c) n vs' := by
  rw [← e]
  exact ((own_drawn h hd).stored k v).1
/-- A cell of a row of the call's own holds something, and is not frozen. -/
theorem own_some {w : World} {base : Nat} {T : TypeId} {s g n c : Nat} {vs : List Value} (h : w.ownsRow base T s (.slice (some ⟨g, 0, none⟩) n c) n vs) {k : Nat} (hk : k < n * s) : (∃ old, w.cell? ⟨g, k, none⟩ = some old) ∧ w.frozen? ⟨g, k, none⟩ = false := by
  refine ⟨⟨vs[k]'(by rw [h.1]; exact hk), ?_⟩, h.frozenAt k⟩
  rw [h.cellAt k hk]
  exact List.getElem?_eq_getElem _
theorem quiet_same {P : Program} {f : FuncId} {args : Array Value} {w : World} {n : Nat} {v : Value}
    (h : Calls P f args (w.drewN n) fun e w' => e = .returned v ∧ w.drewN n = w') : Calls P f args (w.drewN n) fun e w'' => e = .returned v ∧ ∃ m, w'' = w.drewN m :=
  h.mono fun _ _ ⟨he, hm⟩ => ⟨he, n, hm.symm⟩
theorem quiet_drawn {P : Program} {f : FuncId} {args : Array Value} {w : World} {n : Nat} {v : Value}
    (h : Calls P f args (w.drewN n) fun e w' => e = .returned v ∧ Drawn (w.drewN n) w') : Calls P f args (w.drewN n) fun e w'' => e = .returned v ∧ ∃ m, w'' = w.drewN m :=
  h.mono fun _ _ ⟨he, m, hm⟩ => ⟨he, n + m, by rw [hm, World.drewN_drewN]⟩
theorem quiet_same2 {P : Program} {f : FuncId} {args : Array Value} {w : World} {a n : Nat} {v : Value}
    (h : Calls P f args (w.drewN (a + n)) fun e w' => e = .returned v ∧ w.drewN (a + n) = w') : Calls P f args (w.drewN (a + n)) fun e w'' => e = .returned v ∧ ∃ m, w'' = w.drewN (a + m) :=
  h.mono fun _ _ ⟨he, hm⟩ => ⟨he, n, hm.symm⟩
theorem quiet_drawn2 {P : Program} {f : FuncId} {args : Array Value} {w : World} {a n : Nat} {v : Value}
    (h : Calls P f args (w.drewN (a + n)) fun e w' => e = .returned v ∧ Drawn (w.drewN (a + n)) w') : Calls P f args (w.drewN (a + n)) fun e w'' => e = .returned v ∧ ∃ m, w'' = w.drewN (a + m) :=
  h.mono fun _ _ ⟨he, m, hm⟩ => ⟨he, n + m, by rw [hm, World.drewN_drewN, Nat.add_assoc]⟩
/-- An argument's slice of 64-bit integers, as the frame of a law hands it over, reads as a list. -/
theorem irow_in {w : World} {a : Option Addr} {len cap : Nat} {zs : List Int}
    (h : (a = none ∧ len = 0 ∧ cap = 0 ∧ zs = []) ∨ ∃ x, a = some x ∧ len ≤ cap ∧ cap ≤ maxLen ∧ zs.length = cap ∧ (∀ i, i < zs.length → w.cell? (x.add i) = some (.int .i64 (zs.getD i 0))) ∧ ∀ n ∈ zs, (Lit.int .i64 n).wf = true) :
    IRow w w.heap.size a (zs.take len) ∧ (zs.take len).length = len ∧ ∀ n ∈ zs.take len, (Lit.int .i64 n).wf = true := by
  rcases h with ⟨rfl, rfl, rfl, rfl⟩ | ⟨x, rfl, hl, hm, hz, hc, hwf⟩
  · exact ⟨Row.nil, rfl, by simp⟩
  · refine ⟨fun hp => ?_, by rw [List.length_take]; omega, fun n hn => hwf n (List.mem_of_mem_take hn)⟩
    have hp' : 0 < zs.length := by simp at hp; omega
    obtain ⟨b, off, spot⟩ := x
    have h0 := hc 0 hp'
    have hspot : spot = none := by simpa [Addr.add] using World.cell?_spot h0
    subst hspot
    have h0' : w.cell? ⟨b, off, none⟩ = some (.int .i64 (zs.getD 0 0)) := by simpa [Addr.add] using h0
    refine ⟨b, off, rfl, World.block_lt_of_cell? w _ h0', fun i v hv => ?_⟩
    rw [List.getElem?_map, List.getElem?_take] at hv
    split at hv
    · rcases hi : zs[i]? with _ | u
      · rw [hi] at hv; cases hv
      · rw [hi] at hv
        obtain ⟨hlt, he⟩ := List.getElem?_eq_some_iff.1 hi
        have := hc i hlt
        have hadd : (⟨b, off, none⟩ : Addr).add i = ⟨b, off + i, none⟩ := by unfold Addr.add; split <;> simp_all
        rw [hadd, List.getD_eq_getElem?_getD, hi] at this
        rw [this]
        exact hv
    · cases hv
theorem ret_int {k : IntKind} {a b : Int} (h : a = b) : Ending.returned (.int k a) = .returned (.int k b) := by rw [h]
theorem ret_bool {a b : Bool} (h : a = b) : Ending.returned (.bool a) = .returned (.bool b) := by rw [h]
theorem take_snoc (s : ByteArray) (k : Nat) (h : k < s.size) : s.data.toList.take (k + 1) = s.data.toList.take k ++ [s[k]] := by
  rw [List.take_succ_eq_append_getElem (by simpa using h)]; rfl
theorem take_one {α : Type} (xs : List α) (k : Nat) (u : α) (h : xs[k]? = some u) : xs.take (k + 1) = xs.take k ++ [u] := by
  rw [List.take_add_one, h]; rfl
theorem drop_one {α : Type} (xs : List α) (k : Nat) (u : α) (h : xs[k]? = some u) : xs.drop k = u :: xs.drop (k + 1) := by
  obtain ⟨hk, rfl⟩ := List.getElem?_eq_some_iff.1 h
  exact List.drop_eq_getElem_cons hk
end Go.Proofs.YtbailpfjgjcbdaaGreatDoor

namespace Go.Proofs.YtbailpfjgjcbdaaGreatDoor
open Go.RowKit
/-- The slice of address A owns a row of the values vs that lies from block lo on and below block hi. -/
structure OwnV (w : World) (lo hi : Nat) (T : TypeId) (s : Nat) (A : Option Addr) (n c : Nat) (vs : List Value) : Prop where
  own : w.ownsRow lo T s (.slice A n c) n vs
  top : ∀ g, (Value.slice A n c).ownBlock = some g → g < hi
theorem OwnV.mk' {w' : World} {lo : Nat} {T : TypeId} {s : Nat} {A : Option Addr} {n c : Nat} {vs : List Value} (h : w'.ownsRow lo T s (.slice A n c) n vs) : OwnV w' lo w'.heap.size T s A n c vs :=
  ⟨h, fun g hg => (h.lt g hg).2⟩
theorem OwnV.below {w w' : World} {lo hi B : Nat} {T : TypeId} {s : Nat} {A : Option Addr} {n c : Nat} {vs : List Value} (h : OwnV w lo hi T s A n c vs) (hb : Below B w w') (hB : hi ≤ B) : OwnV w' lo hi T s A n c vs :=
  ⟨own_below h.own hb fun g hg => Nat.lt_of_lt_of_le (h.top g hg) hB, h.top⟩
/-- A write into another row keeps it. -/
theorem OwnV.grown {w w' : World} {lo hi lo' hi' : Nat} {T T' : TypeId} {s s' : Nat} {A A' : Option Addr} {n c n' c' : Nat} {vs vs' : List Value} (h : OwnV w lo hi T s A n c vs)
    (h' : OwnV w lo' hi' T' s' A' n' c' vs') (hg : w.grownBy w' (Value.slice A' n' c').ownBlock) (hd : hi ≤ lo' ∨ hi' ≤ lo) : OwnV w' lo hi T s A n c vs := by
  refine ⟨h.own.kept hg ?_, h.top⟩
  rcases e : (Value.slice A n c).ownBlock with _ | g
  · exact .inl rfl
  · refine .inr fun e' => ?_
    have h1 := h.top g e
    have h2 := (h.own.lt g e).1
    have h3 := h'.top g e'.symm
    have h4 := (h'.own.lt g e'.symm).1
    omega
theorem OwnV.row {w : World} {lo hi : Nat} {T : TypeId} {A : Option Addr} {n c : Nat} {vs : List Value} (h : OwnV w lo hi T 1 A n c vs) : Row w hi A vs := by
  intro hp
  obtain ⟨b, off, e, hb, hc⟩ := Row.of_own h.own hp
  exact ⟨b, off, e, h.top b (by rw [e]; rfl), hc⟩
/-- A write into a row of the call's own turns nothing below it. -/
theorem OwnV.turns {w w' : World} {lo hi B : Nat} {T : TypeId} {s : Nat} {A : Option Addr} {n c : Nat} {vs : List Value} (h : OwnV w lo hi T s A n c vs) (hg : w.grownBy w' (Value.slice A n c).ownBlock) (hB : B ≤ lo) (hs : lo ≤ w.heap.size) : Below B w w' :=
  (Below.refl B w).grown hg (by omega) fun g e => by have := (h.own.lt g e).1; omega
theorem OwnV.len {w : World} {lo hi : Nat} {T : TypeId} {A : Option Addr} {n c : Nat} {vs : List Value} (h : OwnV w lo hi T 1 A n c vs) : vs.length = n := by have := h.own.1; omega
end Go.Proofs.YtbailpfjgjcbdaaGreatDoor

namespace Go.Proofs.YtbailpfjgjcbdaaGreatDoor
open Go.RowKit
/-- A slice of slices reads as the list of lists xss. -/
def RRow (w : World) (B : Nat) (A : Option Addr) (xss : List (List Int)) : Prop :=
  ∃ vs : List Value, Row w B A vs ∧ vs.length = xss.length ∧ ∀ (i : Nat) (xs : List Int), xss[i]? = some xs → ∃ (A' : Option Addr) (c' : Nat), vs[i]? = some (Value.slice A' xs.length c') ∧ IRow w B A' xs
theorem RRow.below {w w' : World} {B : Nat} {A : Option Addr} {xss : List (List Int)} (h : RRow w B A xss) (hb : Below B w w') : RRow w' B A xss := by
  obtain ⟨vs, h1, h2, h3⟩ := h
  refine ⟨vs, h1.below hb, h2, fun i xs hi => ?_⟩
  obtain ⟨A', c', e, hr⟩ := h3 i xs hi
  exact ⟨A', c', e, hr.below hb⟩
theorem RRow.drawn {w w' : World} {B : Nat} {A : Option Addr} {xss : List (List Int)} (h : RRow w B A xss) (hd : Drawn w w') : RRow w' B A xss := h.below (hd.below _)
theorem RRow.more {w : World} {B B' : Nat} {A : Option Addr} {xss : List (List Int)} (h : RRow w B A xss) (hB : B ≤ B') : RRow w B' A xss := by
  obtain ⟨vs, h1, h2, h3⟩ := h
  refine ⟨vs, h1.more hB, h2, fun i xs hi => ?_⟩
  obtain ⟨A', c', e, hr⟩ := h3 i xs hi
  exact ⟨A', c', e, hr.more hB⟩
theorem RRow.at_ {w : World} {B : Nat} {A : Option Addr} {xss : List (List Int)} (h : RRow w B A xss) {k : Nat} (hk : k < xss.length) :
    ∃ b off A' c' xs, A = some ⟨b, off, none⟩ ∧ b < B ∧ w.cell? ⟨b, off + k, none⟩ = some (.slice A' xs.length c') ∧ IRow w B A' xs ∧ Hid (xss[k]? = some xs) := by
  obtain ⟨vs, h1, h2, h3⟩ := h
  obtain ⟨b, off, e, hb, hc⟩ := h1.at_ (k := k) (by omega)
  obtain ⟨A', c', e', hr⟩ := h3 k xss[k] (List.getElem?_eq_getElem hk)
  rw [List.getElem?_eq_getElem (by omega)] at e'
  injection e' with e'
  exact ⟨b, off, A', c', xss[k], e, hb, by rw [← e']; exact hc, hr, List.getElem?_eq_getElem hk⟩
theorem spot_none {w : World} {a : Addr} {v : Value} (h : w.cell? (a.add 0) = some v) : ∃ b off, a = ⟨b, off, none⟩ ∧ b < w.heap.size := by
  obtain ⟨b, off, spot⟩ := a
  have hspot : spot = none := by simpa [Addr.add] using World.cell?_spot h
  subst hspot
  have h0 : w.cell? ⟨b, off, none⟩ = some v := by simpa [Addr.add] using h
  exact ⟨b, off, rfl, World.block_lt_of_cell? w _ h0⟩
theorem add_lit (b off i : Nat) : (⟨b, off, none⟩ : Addr).add i = ⟨b, off + i, none⟩ := by unfold Addr.add; split <;> simp_all
theorem range_map_at {α : Type} {f : Nat → α} {n i : Nat} {v : α} (h : ((List.range n).map f)[i]? = some v) : i < n ∧ v = f i := by
  obtain ⟨hlt, he⟩ := List.getElem?_eq_some_iff.1 h
  simp at hlt he
  exact ⟨hlt, he.symm⟩
def JIn (w : World) (a : Option Addr) (len : Nat) : Prop :=
  ∃ xss : List (List Int), RRow w w.heap.size a xss ∧ xss.length = len ∧ len ≤ maxLen ∧ ∀ xs ∈ xss, xs.length ≤ maxLen ∧ ∀ n ∈ xs, (Lit.int .i64 n).wf = true
/-- A slice of slices of 64-bit integers that came in reads as a list of lists. -/
theorem rrow_in {H : Type} {enc : TypeId × Value → H} {P : Program} {W : World} {held : Bool} {t e q : TypeId} {fuel : Nat} {a : Option Addr} {len cap : Nat} {x : DataW H × List MemPlace}
    (ht : P.underlying t = some (.slice e)) (he : P.underlying e = some (.slice q)) (hq : P.underlying q = some (.int .i64)) (ce : P.cellsOf e = 1) (cq : P.cellsOf q = 1)
    (h : DataW.trod enc P W 0 (fun _ => true) held fuel t [.slice a len cap] = some x) :
    ∃ xss : List (List Int), RRow W W.heap.size a xss ∧ xss.length = len ∧ len ≤ maxLen ∧ ∀ xs ∈ xss, xs.length ≤ maxLen ∧ ∀ n ∈ xs, (Lit.int .i64 n).wf = true := by
  rcases Go.Deep.open_int_rows ht he hq ce cq h with ⟨hcs, _⟩ | ⟨a', len', cap', A, L, C, Z, hcs, _, hl, hm, _, hr⟩
  · simp at hcs
    obtain ⟨rfl, rfl, rfl⟩ := hcs
    exact ⟨[], ⟨[], Row.nil, rfl, fun i xs hi => by simp at hi⟩, rfl, Nat.zero_le _, by simp⟩
  · simp at hcs
    obtain ⟨rfl, rfl, rfl⟩ := hcs
    refine ⟨(List.range len).map fun r => (Z r).take (L r), ⟨(List.range len).map fun r => Value.slice (A r) (L r) (C r), fun hp => ?_, by simp, fun i xs hi => ?_⟩, by simp, Nat.le_trans hl hm, ?_⟩
    · simp at hp
      obtain ⟨b, off, rfl, hb⟩ := spot_none (hr 0 (by omega)).1
      refine ⟨b, off, rfl, hb, fun i v hv => ?_⟩
      obtain ⟨hj, rfl⟩ := range_map_at hv
      have := (hr i (by omega)).1
      rwa [add_lit] at this
    · obtain ⟨hj, rfl⟩ := range_map_at hi
      obtain ⟨h1, h2, h3, h4, h5, h6, h7⟩ := hr i (by omega)
      have hlen : ((Z i).take (L i)).length = L i := by rw [List.length_take]; omega
      refine ⟨A i, C i, by simp [hj, h4, h2], fun hp => ?_⟩
      simp [h4] at hp
      rcases hA : A i with _ | a'
      · have := h6 hA; omega
      · have hc := (h7 a' hA).2
        obtain ⟨b, off, rfl, hb⟩ := spot_none (hc 0 (by omega))
        refine ⟨b, off, rfl, hb, fun j v hv => ?_⟩
        rw [List.getElem?_map, List.getElem?_take] at hv
        split at hv
        · rcases hz : (Z i)[j]? with _ | u
          · rw [hz] at hv; cases hv
          · rw [hz] at hv
            have := hc j (by omega)
            rw [add_lit, List.getD_eq_getElem?_getD, hz] at this
            rw [this]; exact hv
        · cases hv
    · intro xs hxs
      simp only [List.mem_map, List.mem_range] at hxs
      obtain ⟨r, hr', rfl⟩ := hxs
      obtain ⟨_, h2, h3, h4, h5, _⟩ := hr r (by omega)
      exact ⟨by rw [List.length_take]; omega, fun n hn => h5 n (List.mem_of_mem_take hn)⟩
end Go.Proofs.YtbailpfjgjcbdaaGreatDoor

namespace Go.Proofs.YtbailpfjgjcbdaaGreatDoor
open Go.RowKit
/-- From w to w' nothing has turned but blocks from lo on and below hi, and new ones. -/
structure Turns (lo hi : Nat) (w w' : World) : Prop where
  os : w'.os = w.os
  tape : w'.tape = w.tape
  output : w'.output = w.output
  size : w.heap.size ≤ w'.heap.size
  block : ∀ k, k < w.heap.size → k < lo ∨ hi ≤ k → w'.heap[k]? = w.heap[k]?
theorem Turns.refl (lo hi : Nat) (w : World) : Turns lo hi w w := ⟨rfl, rfl, rfl, Nat.le_refl _, fun _ _ _ => rfl⟩
theorem Turns.trans {lo hi : Nat} {a b c : World} (h : Turns lo hi a b) (k : Turns lo hi b c) : Turns lo hi a c :=
  ⟨k.os.trans h.os, k.tape.trans h.tape, k.output.trans h.output, Nat.le_trans h.size k.size, fun i hi' hd => (k.block i (Nat.lt_of_lt_of_le hi' h.size) hd).trans (h.block i hi' hd)⟩
theorem Turns.drawn {lo hi : Nat} {w w' : World} (h : Drawn w w') : Turns lo hi w w' := by
  obtain ⟨n, rfl⟩ := h
  exact ⟨rfl, rfl, rfl, Nat.le_refl _, fun _ _ _ => rfl⟩
theorem Turns.of_grown {lo hi : Nat} {w w' : World} {row : Option Nat} (hg : w.grownBy w' row) (hr : ∀ g, row = some g → lo ≤ g ∧ g < hi) : Turns lo hi w w' :=
  ⟨hg.os, hg.tape, hg.output, hg.size, fun k hk hd => hg.block k hk fun e => by have := hr k e.symm; omega⟩
theorem Turns.below {lo hi B : Nat} {w w' : World} (h : Turns lo hi w w') (hB : B ≤ lo) (hs : B ≤ w.heap.size) : Below B w w' :=
  ⟨h.os, h.tape, h.output, h.size, fun k hk => h.block k (by omega) (.inl (by omega))⟩
theorem OwnV.turn {w w' : World} {lo hi lo' hi' : Nat} {T : TypeId} {s : Nat} {A : Option Addr} {n c : Nat} {vs : List Value} (h : OwnV w lo hi T s A n c vs) (ht : Turns lo' hi' w w') (hd : hi ≤ lo' ∨ hi' ≤ lo) : OwnV w' lo hi T s A n c vs := by
  refine ⟨⟨h.own.1, ?_⟩, h.top⟩
  rcases h.own.2 with hn | ⟨g, cap, cur, e, hb, hg, rest⟩
  · exact .inl hn
  · have h1 := h.top g (by rw [e]; rfl)
    exact .inr ⟨g, cap, cur, e, hb, by rw [ht.block g (Array.getElem?_eq_some_iff.1 hg).1 (by omega)]; exact hg, rest⟩
theorem OwnV.wide {w : World} {lo hi lo' hi' : Nat} {T : TypeId} {s : Nat} {A : Option Addr} {n c : Nat} {vs : List Value} (h : OwnV w lo hi T s A n c vs) (h1 : lo' ≤ lo) (h2 : hi ≤ hi') : OwnV w lo' hi' T s A n c vs := by
  refine ⟨⟨h.own.1, ?_⟩, fun g hg => Nat.lt_of_lt_of_le (h.top g hg) h2⟩
  rcases h.own.2 with hn | ⟨g, cap, cur, e, hb, rest⟩
  · exact .inl hn
  · exact .inr ⟨g, cap, cur, e, Nat.le_trans h1 hb, rest⟩
/-- A write into one row keeps another one that lies in another block. -/
theorem OwnV.apart {w w' : World} {lo hi : Nat} {T : TypeId} {s : Nat} {A : Option Addr} {n c : Nat} {vs : List Value} (h : OwnV w lo hi T s A n c vs) {row : Option Nat} (hg : w.grownBy w' row) (hne : (Value.slice A n c).ownBlock = none ∨ (Value.slice A n c).ownBlock ≠ row) : OwnV w' lo hi T s A n c vs :=
  ⟨h.own.kept hg hne, h.top⟩
/-- Rows of numbers, one for each list, in blocks of their own, none of them the outer row's. -/
structure Inner (w : World) (lo hi : Nat) (A : Option Addr) (n : Nat) (xss : List (List Int)) (G : Nat → Option Addr) (C : Nat → Nat) (R : Nat → TypeId) : Prop where
  own : ∀ i, i < n → OwnV w lo hi (R i) 1 (G i) (xss.getD i []).length (C i) ((xss.getD i []).map (Value.int .i64))
  one : ∀ i j g, i < n → j < n → G i = some ⟨g, 0, none⟩ → G j = some ⟨g, 0, none⟩ → i = j
  out : ∀ i g, i < n → G i = some ⟨g, 0, none⟩ → A ≠ some ⟨g, 0, none⟩
def innerV (xss : List (List Int)) (G : Nat → Option Addr) (C : Nat → Nat) (n : Nat) : List Value := (List.range n).map fun i => .slice (G i) (xss.getD i []).length (C i)
theorem innerV_length (xss : List (List Int)) (G : Nat → Option Addr) (C : Nat → Nat) (n : Nat) : (innerV xss G C n).length = n := by simp [innerV]
theorem innerV_at {xss : List (List Int)} {G : Nat → Option Addr} {C : Nat → Nat} {n i : Nat} (h : i < n) : (innerV xss G C n)[i]? = some (.slice (G i) (xss.getD i []).length (C i)) := by simp [innerV, h]
/-- A slice of slices of the law's own. -/
def OwnVV (w : World) (lo hi : Nat) (A : Option Addr) (n c : Nat) (xss : List (List Int)) : Prop :=
  n = xss.length ∧ ∃ (T : TypeId) (G : Nat → Option Addr) (C : Nat → Nat) (R : Nat → TypeId), OwnV w lo hi T 1 A n c (innerV xss G C n) ∧ Inner w lo hi A n xss G C R
theorem Inner.turn {w w' : World} {lo hi lo' hi' : Nat} {A : Option Addr} {n : Nat} {xss : List (List Int)} {G : Nat → Option Addr} {C : Nat → Nat} {R : Nat → TypeId} (h : Inner w lo hi A n xss G C R) (ht : Turns lo' hi' w w') (hd : hi ≤ lo' ∨ hi' ≤ lo) : Inner w' lo hi A n xss G C R :=
  ⟨fun i hi => (h.own i hi).turn ht hd, h.one, h.out⟩
theorem Inner.below {w w' : World} {lo hi B : Nat} {A : Option Addr} {n : Nat} {xss : List (List Int)} {G : Nat → Option Addr} {C : Nat → Nat} {R : Nat → TypeId} (h : Inner w lo hi A n xss G C R) (hb : Below B w w') (hB : hi ≤ B) : Inner w' lo hi A n xss G C R :=
  ⟨fun i hi => (h.own i hi).below hb hB, h.one, h.out⟩
theorem OwnVV.turn {w w' : World} {lo hi lo' hi' : Nat} {A : Option Addr} {n c : Nat} {xss : List (List Int)} (h : OwnVV w lo hi A n c xss) (ht : Turns lo' hi' w w') (hd : hi ≤ lo' ∨ hi' ≤ lo) : OwnVV w' lo hi A n c xss := by
  obtain ⟨hn, T, G, C, R, h1, h2⟩ := h
  exact ⟨hn, T, G, C, R, h1.turn ht hd, h2.turn ht hd⟩
theorem OwnVV.below {w w' : World} {lo hi B : Nat} {A : Option Addr} {n c : Nat} {xss : List (List Int)} (h : OwnVV w lo hi A n c xss) (hb : Below B w w') (hB : hi ≤ B) : OwnVV w' lo hi A n c xss := by
  obtain ⟨hn, T, G, C, R, h1, h2⟩ := h
  exact ⟨hn, T, G, C, R, h1.below hb hB, h2.below hb hB⟩
theorem OwnVV.row {w : World} {lo hi : Nat} {A : Option Addr} {n c : Nat} {xss : List (List Int)} (h : OwnVV w lo hi A n c xss) : RRow w hi A xss := by
  obtain ⟨hn, T, G, C, R, h1, h2⟩ := h
  refine ⟨innerV xss G C n, h1.row, by rw [innerV_length]; exact hn, fun i xs hi => ?_⟩
  obtain ⟨hlt, rfl⟩ := List.getElem?_eq_some_iff.1 hi
  have e : xss.getD i [] = xss[i] := by rw [List.getD_eq_getElem?_getD, hi]; rfl
  refine ⟨G i, C i, by rw [innerV_at (by omega), e], ?_⟩
  have := (h2.own i (by omega)).row
  rwa [e] at this
theorem OwnVV.len {w : World} {lo hi : Nat} {A : Option Addr} {n c : Nat} {xss : List (List Int)} (h : OwnVV w lo hi A n c xss) : xss.length = n := h.1.symm
theorem OwnVV.nil (w : World) (lo hi : Nat) : OwnVV w lo hi none 0 0 [] :=
  ⟨rfl, 0, fun _ => none, fun _ => 0, fun _ => 0, ⟨World.ownsRow_nil _ _ _ _, fun g hg => by cases hg⟩, ⟨fun i h => by omega, fun i j g h => by omega, fun i g h => by omega⟩⟩
def upd {α : Type} (f : Nat → α) (k : Nat) (v : α) : Nat → α := fun i => if i = k then v else f i
theorem upd_same {α : Type} {f : Nat → α} {k : Nat} {v : α} : upd f k v k = v := by simp [upd]
theorem upd_other {α : Type} {f : Nat → α} {k i : Nat} {v : α} (h : i ≠ k) : upd f k v i = f i := by simp [upd, h]
theorem getD_of {xss : List (List Int)} {k : Nat} {xs : List Int} (h : xss[k]? = some xs) : xss.getD k [] = xs := by rw [List.getD_eq_getElem?_getD, h]; rfl
theorem innerV_snoc {xss : List (List Int)} {G : Nat → Option Addr} {C : Nat → Nat} {k : Nat} {xs : List Int} {A' : Option Addr} {c' : Nat} (h : xss[k]? = some xs) :
    innerV xss (upd G k A') (upd C k c') (k + 1) = innerV xss G C k ++ [.slice A' xs.length c'] := by
  simp only [innerV, List.range_succ, List.map_append, List.map_cons, List.map_nil, upd_same, getD_of h]
  congr 1
  refine List.map_congr_left fun i hi => ?_
  have := List.mem_range.1 hi
  rw [upd_other (by omega), upd_other (by omega)]
theorem OwnV.lt_of {w : World} {lo hi : Nat} {T : TypeId} {s n c g : Nat} {vs : List Value} (h : OwnV w lo hi T s (some ⟨g, 0, none⟩) n c vs) : lo ≤ g ∧ g < hi :=
  ⟨(h.own.lt g rfl).1, h.top g rfl⟩
theorem Inner.snoc {w w1 : World} {lo hi lo2 hi2 : Nat} {A : Option Addr} {k : Nat} {xss : List (List Int)} {G : Nat → Option Addr} {C : Nat → Nat} {R : Nat → TypeId} {T : TypeId} {A' : Option Addr} {c' : Nat} {xs : List Int}
    (h : Inner w lo hi A k xss G C R) (hb : Below hi w w1) (ho : OwnV w1 lo2 hi2 T 1 A' xs.length c' (xs.map (Value.int .i64))) (hx : xss[k]? = some xs) (h1 : lo ≤ lo2) (h2 : hi ≤ lo2) (h3 : hi ≤ hi2)
    (hA : ∀ g, A = some ⟨g, 0, none⟩ → g < lo2) : Inner w1 lo hi2 A (k + 1) xss (upd G k A') (upd C k c') (upd R k T) := by
  refine ⟨fun i hi' => ?_, fun i j g hi' hj' e1 e2 => ?_, fun i g hi' e1 e2 => ?_⟩
  · by_cases e : i = k
    · subst e
      rw [upd_same, upd_same, upd_same, getD_of hx]
      exact ho.wide h1 (Nat.le_refl _)
    · rw [upd_other e, upd_other e, upd_other e]
      exact ((h.own i (by omega)).below hb (Nat.le_refl _)).wide (Nat.le_refl _) h3
  · by_cases ei : i = k <;> by_cases ej : j = k
    · omega
    · exfalso
      subst ei
      rw [upd_same] at e1; rw [upd_other ej] at e2
      subst e1
      have a := ho.lt_of
      have b := h.own j (by omega)
      rw [e2] at b
      have := b.lt_of
      omega
    · exfalso
      subst ej
      rw [upd_same] at e2; rw [upd_other ei] at e1
      subst e2
      have a := ho.lt_of
      have b := h.own i (by omega)
      rw [e1] at b
      have := b.lt_of
      omega
    · rw [upd_other ei] at e1; rw [upd_other ej] at e2
      exact h.one i j g (by omega) (by omega) e1 e2
  · by_cases ei : i = k
    · subst ei
      rw [upd_same] at e1
      subst e1
      have a := ho.lt_of
      have := hA g e2
      omega
    · rw [upd_other ei] at e1
      exact h.out i g (by omega) e1 e2
theorem Inner.zero (w : World) (lo hi : Nat) (A : Option Addr) (xss : List (List Int)) (G : Nat → Option Addr) (C : Nat → Nat) (R : Nat → TypeId) : Inner w lo hi A 0 xss G C R :=
  ⟨fun i h => by omega, fun i j g h => by omega, fun i g h => by omega⟩
end Go.Proofs.YtbailpfjgjcbdaaGreatDoor

namespace Go.Proofs.YtbailpfjgjcbdaaGreatDoor
open Go.RowKit
/-- A term: its kind and its value. -/
structure Tm where
  k : Int
  v : Int
def tv (t : Tm) : List Value := [.int .i64 t.k, .int .i64 t.v]
def tvs (es : List Tm) : List Value := es.flatMap tv
theorem tvs_nil : tvs [] = [] := rfl
theorem tvs_cons (t : Tm) (es : List Tm) : tvs (t :: es) = .int .i64 t.k :: .int .i64 t.v :: tvs es := rfl
theorem tvs_append (a b : List Tm) : tvs (a ++ b) = tvs a ++ tvs b := by unfold tvs; rw [List.flatMap_append]
theorem tvs_length (es : List Tm) : (tvs es).length = es.length * 2 := by
  induction es with
  | nil => rfl
  | cons t es ih => rw [tvs_cons, List.length_cons, List.length_cons, List.length_cons, ih]; omega
theorem tvs_at : ∀ {es : List Tm} {k : Nat} {t : Tm}, es[k]? = some t → (tvs es)[k * 2]? = some (.int .i64 t.k) ∧ (tvs es)[k * 2 + 1]? = some (.int .i64 t.v) := by
  intro es
  induction es with
  | nil => intro k t h; simp at h
  | cons a es ih =>
    intro k t h
    cases k with
    | zero => simp at h; subst h; exact ⟨rfl, rfl⟩
    | succ k =>
      have := ih (k := k) (by simpa using h)
      have e : (k + 1) * 2 = k * 2 + 2 := by omega
      rw [tvs_cons, e]
      exact this
theorem tvs_take (es : List Tm) (k : Nat) : (tvs es).take (k * 2) = tvs (es.take k) := by
  induction es generalizing k with
  | nil => simp [tvs]
  | cons t es ih =>
    cases k with
    | zero => simp [tvs]
    | succ k =>
      rw [show (k + 1) * 2 = k * 2 + 1 + 1 by omega, tvs_cons, List.take_succ_cons, List.take_succ_cons, ih, List.take_succ_cons, tvs_cons]
theorem tvs_drop (es : List Tm) (k : Nat) : (tvs es).drop (k * 2) = tvs (es.drop k) := by
  induction es generalizing k with
  | nil => simp [tvs]
  | cons t es ih =>
    cases k with
    | zero => simp
    | succ k =>
      rw [show (k + 1) * 2 = k * 2 + 1 + 1 by omega, tvs_cons, List.drop_succ_cons, List.drop_succ_cons, ih, List.drop_succ_cons]
/-- A slice of terms that reads as a list. -/
def TRow (w : World) (B : Nat) (A : Option Addr) (es : List Tm) : Prop := Row w B A (tvs es)
theorem TRow.nil {w : World} {B : Nat} {A : Option Addr} : TRow w B A [] := Row.nil
theorem TRow.below {w w' : World} {B : Nat} {A : Option Addr} {es : List Tm} (h : TRow w B A es) (hb : Below B w w') : TRow w' B A es := Row.below h hb
theorem TRow.more {w : World} {B B' : Nat} {A : Option Addr} {es : List Tm} (h : TRow w B A es) (hB : B ≤ B') : TRow w B' A es := Row.more h hB
theorem TRow.drawn {w w' : World} {B : Nat} {A : Option Addr} {es : List Tm} (h : TRow w B A es) (hd : Drawn w w') : TRow w' B A es := Row.below h (hd.below _)
theorem TRow.drewN {w : World} {B : Nat} {A : Option Addr} {es : List Tm} (h : TRow w B A es) (n : Nat) : TRow (w.drewN n) B A es := h
theorem TRow.at_ {w : World} {B : Nat} {A : Option Addr} {es : List Tm} (h : TRow w B A es) {k : Nat} (hk : k < es.length) :
    ∃ b off t, A = some ⟨b, off, none⟩ ∧ b < B ∧ w.cell? ⟨b, off + k * 2, none⟩ = some (.int .i64 (t : Tm).k) ∧ w.cell? ⟨b, off + k * 2 + 1, none⟩ = some (.int .i64 t.v) ∧ Hid (es[k]? = some t) := by
  have hx : es[k]? = some es[k] := List.getElem?_eq_getElem hk
  obtain ⟨h1, h2⟩ := tvs_at hx
  obtain ⟨b, off, e, hb, hc⟩ := h (by have := (List.getElem?_eq_some_iff.1 h1).1; omega)
  exact ⟨b, off, es[k], e, hb, hc _ _ h1, hc _ _ h2, hx⟩
/-- How many operands a term has. -/
def ar (t : Tm) : Int := if t.k = 2 then 2 else if t.k = 3 then 1 else 0
theorem ar_two {t : Tm} (h : t.k = 2) : ar t = 2 := by unfold ar; rw [if_pos h]
theorem ar_one {t : Tm} (h : t.k = 3) : ar t = 1 := by unfold ar; rw [if_neg (by omega), if_pos h]
theorem ar_zero {t : Tm} (h : t.k ≠ 2) (h' : t.k ≠ 3) : ar t = 0 := by unfold ar; rw [if_neg h, if_neg h']
theorem ar_bd (t : Tm) : 0 ≤ ar t ∧ ar t ≤ 2 := by unfold ar; split <;> (try split) <;> omega
/-- Whether a term is one with some variables. -/
def tmB (vars : Int) (t : Tm) : Bool :=
  if t.k = 0 then decide (0 ≤ t.v ∧ t.v ≤ 63) else if t.k = 1 then decide (0 ≤ t.v ∧ t.v < vars) else if t.k = 2 then decide (0 ≤ t.v ∧ t.v ≤ 8) else if t.k = 3 then decide (t.v = 0) else false
theorem tmB_num {vars : Int} {t : Tm} (h : t.k = 0) : tmB vars t = decide (0 ≤ t.v ∧ t.v ≤ 63) := by unfold tmB; rw [if_pos h]
theorem tmB_var {vars : Int} {t : Tm} (h : t.k = 1) : tmB vars t = decide (0 ≤ t.v ∧ t.v < vars) := by unfold tmB; rw [if_neg (by omega), if_pos h]
theorem tmB_op {vars : Int} {t : Tm} (h : t.k = 2) : tmB vars t = decide (0 ≤ t.v ∧ t.v ≤ 8) := by unfold tmB; rw [if_neg (by omega), if_neg (by omega), if_pos h]
theorem tmB_not {vars : Int} {t : Tm} (h : t.k = 3) : tmB vars t = decide (t.v = 0) := by unfold tmB; rw [if_neg (by omega), if_neg (by omega), if_neg (by omega), if_pos h]
theorem tmB_none {vars : Int} {t : Tm} (h0 : t.k ≠ 0) (h1 : t.k ≠ 1) (h2 : t.k ≠ 2) (h3 : t.k ≠ 3) : tmB vars t = false := by unfold tmB; rw [if_neg h0, if_neg h1, if_neg h2, if_neg h3]
/-- Whether terms from a place on are as many operations as are missing there. -/
def scan (vars : Int) : List Tm → Int → Bool
  | [], n => decide (n = 0)
  | t :: r, n => if n = 0 ∨ tmB vars t = false then false else scan vars r (n + (ar t - 1))
/-- The place behind the operation that is missing from a place on. -/
def fe : List Tm → Int → Int → Int
  | [], _, _ => -1
  | t :: r, m, i => if m + (ar t - 1) = 0 then i + 1 else fe r (m + (ar t - 1)) (i + 1)
theorem scan_zero {vars : Int} {es : List Tm} (h : es ≠ []) : scan vars es 0 = false := by
  cases es with
  | nil => exact absurd rfl h
  | cons t r => unfold scan; rw [if_pos (.inl rfl)]
theorem scan_all {vars : Int} : ∀ {es : List Tm} {n : Int}, scan vars es n = true → ∀ t ∈ es, tmB vars t = true := by
  intro es
  induction es with
  | nil => intro n _ t ht; cases ht
  | cons a r ih =>
    intro n h t ht
    unfold scan at h
    split at h
    · cases h
    · rename_i hn
      rcases List.mem_cons.1 ht with rfl | ht
      · rcases e : tmB vars t with _ | _
        · exact absurd (.inr e) hn
        · rfl
      · exact ih h t ht
theorem fe_scan {vars : Int} : ∀ (es : List Tm) (m i : Int), (∀ t ∈ es, tmB vars t = true) → 1 ≤ m → 0 ≤ i → decide (fe es m i = i + es.length) = scan vars es m := by
  intro es
  induction es with
  | nil => intro m i _ hm hi; unfold fe scan; rw [decide_eq_false (by simp; omega), decide_eq_false (by omega)]
  | cons t r ih =>
    intro m i h hm hi
    have ht := h t (by simp)
    have ha := ar_bd t
    have hn : ¬ (m = 0 ∨ tmB vars t = false) := by
      rintro (h0 | h0)
      · omega
      · rw [ht] at h0; cases h0
    unfold fe scan
    rw [if_neg hn]
    by_cases e : m + (ar t - 1) = 0
    · rw [if_pos e, e]
      cases r with
      | nil => simp [scan]
      | cons t2 r2 =>
        rw [scan_zero (by simp)]
        exact decide_eq_false (by simp only [List.length_cons]; omega)
    · rw [if_neg e, ← ih _ (i + 1) (fun x hx => h x (by simp [hx])) (by omega) (by omega)]
      have e3 : (i + ((t :: r).length : Nat) : Int) = i + 1 + (r.length : Nat) := by simp only [List.length_cons]; omega
      rw [e3]
/-- Whether a list is an expression with some variables and at most some terms. -/
def exB (vars most : Int) (es : List Tm) : Bool := decide ((es.length : Int) ≤ most) && scan vars es 1
theorem exB_long {vars most : Int} {es : List Tm} (h : ¬ (es.length : Int) ≤ most) : exB vars most es = false := by unfold exB; rw [decide_eq_false h]; rfl
theorem exB_short {vars most : Int} {es : List Tm} (h : (es.length : Int) ≤ most) : exB vars most es = scan vars es 1 := by unfold exB; rw [decide_eq_true h]; rfl
def vtB (vars most : Int) (es : List Tm) : Bool := decide (0 ≤ vars ∧ vars ≤ 29 ∧ 1 ≤ most ∧ most ≤ 60) && exB vars most es
theorem vtB_no {vars most : Int} {es : List Tm} (h : ¬ (0 ≤ vars ∧ vars ≤ 29 ∧ 1 ≤ most ∧ most ≤ 60)) : vtB vars most es = false := by unfold vtB; rw [decide_eq_false h]; rfl
theorem vtB_yes {vars most : Int} {es : List Tm} (h : 0 ≤ vars ∧ vars ≤ 29 ∧ 1 ≤ most ∧ most ≤ 60) : vtB vars most es = exB vars most es := by unfold vtB; rw [decide_eq_true h]; rfl
end Go.Proofs.YtbailpfjgjcbdaaGreatDoor

namespace Go.Proofs.YtbailpfjgjcbdaaGreatDoor
open Go.RowKit
instance : Inhabited Tm := ⟨⟨0, 0⟩⟩
theorem tvs_get {es : List Tm} {i : Nat} {v : Value} (h : (tvs es)[i]? = some v) : ∃ k t, es[k]? = some t ∧ (i = k * 2 ∧ v = .int .i64 t.k ∨ i = k * 2 + 1 ∧ v = .int .i64 t.v) := by
  have hi := (List.getElem?_eq_some_iff.1 h).1
  rw [tvs_length] at hi
  have hk : i / 2 < es.length := by omega
  have hx : es[i / 2]? = some es[i / 2] := List.getElem?_eq_getElem hk
  obtain ⟨h1, h2⟩ := tvs_at hx
  refine ⟨i / 2, es[i / 2], hx, ?_⟩
  by_cases e : i = i / 2 * 2
  · left
    rw [← e, h] at h1
    exact ⟨e, by injection h1⟩
  · right
    have e2 : i = i / 2 * 2 + 1 := by omega
    rw [← e2, h] at h2
    exact ⟨e2, by injection h2⟩
theorem addLit (b off i : Nat) : (⟨b, off, none⟩ : Addr).add i = ⟨b, off + i, none⟩ := by unfold Addr.add; split <;> simp_all
theorem spotLit {w : World} {a : Addr} {v : Value} (h : w.cell? (a.add 0) = some v) : ∃ b off, a = ⟨b, off, none⟩ ∧ b < w.heap.size := by
  obtain ⟨b, off, spot⟩ := a
  have hspot : spot = none := by simpa [Addr.add] using World.cell?_spot h
  subst hspot
  have h0 : w.cell? ⟨b, off, none⟩ = some v := by simpa [Addr.add] using h
  exact ⟨b, off, rfl, World.block_lt_of_cell? w _ h0⟩
/-- Both numbers of a term are 64-bit integers. -/
def Tm.wf (t : Tm) : Prop := (Lit.int .i64 t.k).wf = true ∧ (Lit.int .i64 t.v).wf = true
def TIn (w : World) (a : Option Addr) (len : Nat) : Prop := ∃ es : List Tm, TRow w w.heap.size a es ∧ es.length = len ∧ len ≤ maxLen ∧ ∀ t ∈ es, Tm.wf t
/-- A slice of structs of two 64-bit integers that came in reads as a list of terms. -/
theorem trow_in {H : Type} {enc : TypeId × Value → H} {P : Program} {W : World} {held : Bool} {t e : TypeId} {f0 f1 : Field} {fuel : Nat} {a : Option Addr} {len cap : Nat} {x : DataW H × List MemPlace}
    (ht : P.underlying t = some (.slice e)) (he : P.underlying e = some (.struct #[f0, f1])) (ce : P.cellsOf e = 2) (o0 : f0.offset = 0) (o1 : f1.offset = 1)
    (q0 : P.underlying f0.type = some (.int .i64)) (q1 : P.underlying f1.type = some (.int .i64)) (c0 : P.cellsOf f0.type = 1) (c1 : P.cellsOf f1.type = 1)
    (h : DataW.trod enc P W 0 (fun _ => true) held fuel t [.slice a len cap] = some x) : TIn W a len := by
  rcases Go.Deep.open_slice_pairs ht he ce o0 o1 c0 c1 h with ⟨hcs, _⟩ | ⟨a', len', cap', m, n, V0, V1, D0, D1, P0, P1, hcs, _, hl, hm, hmm, _, hr⟩
  · simp at hcs
    obtain ⟨rfl, rfl, rfl⟩ := hcs
    exact ⟨[], TRow.nil, rfl, Nat.zero_le _, by simp⟩
  · simp at hcs
    obtain ⟨rfl, rfl, rfl⟩ := hcs
    simp only [if_true] at hmm
    have each : ∀ i, i < len → ∃ u : Tm, W.cell? (a'.add (i * 2)) = some (.int .i64 u.k) ∧ W.cell? (a'.add (i * 2 + 1)) = some (.int .i64 u.v) ∧ Tm.wf u := by
      intro i hi
      obtain ⟨g0, g1, t0, t1⟩ := hr i (by omega)
      obtain ⟨n0, e0, _, w0⟩ := DataW.trod_int q0 t0
      obtain ⟨n1, e1, _, w1⟩ := DataW.trod_int q1 t1
      injection e0 with e0
      injection e1 with e1
      exact ⟨⟨n0, n1⟩, by rw [← e0]; exact g0, by rw [← e1]; exact g1, w0, w1⟩
    obtain ⟨T, hT⟩ := Go.Deep.choose_lt each
    refine ⟨(List.range len).map T, fun hp => ?_, by simp, by omega, fun u hu => ?_⟩
    · rw [tvs_length] at hp
      simp at hp
      obtain ⟨b, off, rfl, hb⟩ := spotLit (v := .int .i64 (T 0).k) (by simpa using (hT 0 hp).1)
      refine ⟨b, off, rfl, hb, fun i v hv => ?_⟩
      obtain ⟨k, u, hk, hd⟩ := tvs_get hv
      obtain ⟨hlt, he'⟩ := List.getElem?_eq_some_iff.1 hk
      simp at hlt he'
      subst he'
      obtain ⟨h1, h2, _⟩ := hT k hlt
      rw [addLit] at h1 h2
      rcases hd with ⟨rfl, rfl⟩ | ⟨rfl, rfl⟩
      · exact h1
      · exact h2
    · simp only [List.mem_map, List.mem_range] at hu
      obtain ⟨i, hi, rfl⟩ := hu
      exact (hT i hi).2.2
theorem own_at {w : World} {base : Nat} {T : TypeId} {s n c : Nat} {A : Option Addr} {vs : List Value} (h : w.ownsRow base T s (.slice A n c) n vs) (hn : 0 < n) : ∃ g, A = some ⟨g, 0, none⟩ ∧ base ≤ g ∧ g < w.heap.size := by
  rcases h.2 with ⟨e, h0⟩ | ⟨g, cap, cur, e, hb, hg, _⟩
  · injection e with _ e2 _
    omega
  · injection e with e1 _ _
    exact ⟨g, e1, hb, (Array.getElem?_eq_some_iff.1 hg).1⟩
theorem Row.of_own2 {w : World} {base s : Nat} {T : TypeId} {A : Option Addr} {n c : Nat} {vs : List Value} (h : w.ownsRow base T s (.slice A n c) n vs) : Row w w.heap.size A vs := by
  intro hp
  rcases h.2 with ⟨e, hn⟩ | ⟨g, cap, cur, e, hb, hg, hnc, _, hcs, ht⟩
  · have := h.1
    rw [hn, Nat.zero_mul] at this
    omega
  · injection e with e1 e2 e3
    subst e1
    refine ⟨g, 0, rfl, (Array.getElem?_eq_some_iff.1 hg).1, fun i v hv => ?_⟩
    rw [Nat.zero_add, cell_of_row w g i cur T (0, 0) hg]
    rw [← ht, List.getElem?_take] at hv
    split at hv
    · simpa using hv
    · cases hv
theorem OwnV.trow {w : World} {lo hi : Nat} {T : TypeId} {A : Option Addr} {n c : Nat} {es : List Tm} (h : OwnV w lo hi T 2 A n c (tvs es)) : TRow w hi A es := by
  intro hp
  obtain ⟨b, off, e, hb, hc⟩ := Row.of_own2 h.own hp
  exact ⟨b, off, e, h.top b (by rw [e]; rfl), hc⟩
theorem OwnV.tlen {w : World} {lo hi : Nat} {T : TypeId} {A : Option Addr} {n c : Nat} {es : List Tm} (h : OwnV w lo hi T 2 A n c (tvs es)) : es.length = n := by
  have := h.own.1
  rw [tvs_length] at this
  omega
theorem made_two (z : Value) (n : Nat) : (madeCells #[z, z] n).toList = List.replicate n z := by
  apply List.ext_getElem?
  intro j
  by_cases hj : j < n
  · have : j % 2 = 0 ∨ j % 2 = 1 := by omega
    rcases this with h | h <;> simp [madeCells, hj, h]
  · simp [madeCells, hj]
/-- Two stores lay the next term behind those that are there. -/
theorem tvs_upd {es : List Tm} {t : Tm} {k n : Nat} (z : Value) (hn : es.length = n) (hk : es[k]? = some t) :
    ((tvs (es.take k) ++ List.replicate ((n - k) * 2) z).set (k * 2) (.int .i64 t.k)).set (k * 2 + 1) (.int .i64 t.v) = tvs (es.take (k + 1)) ++ List.replicate ((n - (k + 1)) * 2) z := by
  have hlt := (List.getElem?_eq_some_iff.1 hk).1
  have hl : (tvs (es.take k)).length = k * 2 := by rw [tvs_length, List.length_take]; omega
  have e : (n - k) * 2 = (n - (k + 1)) * 2 + 1 + 1 := by omega
  rw [e, List.set_append_right _ _ (by omega), hl, Nat.sub_self, List.replicate_succ, List.set_cons_zero, List.set_append_right _ _ (by omega), hl, show k * 2 + 1 - k * 2 = 1 by omega, List.replicate_succ]
  rw [take_one _ _ _ hk, tvs_append, List.append_assoc]
  rfl
/-- Two stores turn one term among others. -/
theorem tvs_set {es : List Tm} {t u : Tm} {k : Nat} (hk : es[k]? = some t) : ((tvs es).set (k * 2) (.int .i64 u.k)).set (k * 2 + 1) (.int .i64 u.v) = tvs (es.set k u) := by
  induction es generalizing k with
  | nil => simp at hk
  | cons a r ih =>
    cases k with
    | zero => rfl
    | succ k =>
      have := ih (k := k) (by simpa using hk)
      rw [show (k + 1) * 2 = k * 2 + 1 + 1 by omega, tvs_cons, List.set_cons_succ, List.set_cons_succ, List.set_cons_succ, List.set_cons_succ, this, List.set_cons_succ, tvs_cons]
/-- The marks that the laws write: two numbers a term, one after the other. -/
def marksT (k0 : Int) (n : Nat) : List Tm := (List.range n).map fun i => ⟨k0 + 2 * (i : Nat), k0 + 2 * (i : Nat) + 1⟩
theorem marksT_length (k0 : Int) (n : Nat) : (marksT k0 n).length = n := by simp [marksT]
theorem marksT_at {k0 : Int} {n i : Nat} (h : i < n) : (marksT k0 n)[i]? = some ⟨k0 + 2 * i, k0 + 2 * i + 1⟩ := by simp [marksT, h]
def midT (k0 : Int) (es : List Tm) (n k : Nat) : List Tm := (marksT k0 n).take k ++ es.drop k
theorem midT_zero (k0 : Int) (es : List Tm) (n : Nat) : midT k0 es n 0 = es := by simp [midT]
theorem midT_all {k0 : Int} {es : List Tm} {n : Nat} (h : es.length = n) : midT k0 es n n = marksT k0 n := by
  unfold midT
  rw [List.take_of_length_le (by rw [marksT_length]; exact Nat.le_refl _), List.drop_eq_nil_of_le (by omega), List.append_nil]
theorem midT_len {k0 : Int} {es : List Tm} {n k : Nat} (h : es.length = n) (hk : k ≤ n) : (midT k0 es n k).length = n := by
  unfold midT
  rw [List.length_append, List.length_take, marksT_length, List.length_drop]; omega
theorem midT_set {k0 : Int} {es : List Tm} {n k : Nat} (h : es.length = n) (hk : k < n) : (midT k0 es n k).set k ⟨k0 + 2 * k, k0 + 2 * k + 1⟩ = midT k0 es n (k + 1) := by
  have hl : ((marksT k0 n).take k).length = k := by rw [List.length_take, marksT_length]; omega
  have hx : es[k]? = some es[k] := List.getElem?_eq_getElem (by omega)
  unfold midT
  rw [drop_one _ _ _ hx, List.set_append_right _ _ (by omega), hl, Nat.sub_self, List.set_cons_zero, take_one _ _ _ (marksT_at hk), List.append_assoc]
  rfl
end Go.Proofs.YtbailpfjgjcbdaaGreatDoor

namespace Go.Proofs.YtbailpfjgjcbdaaGreatDoor
open Go.RowKit
def RetN2 (w : World) (r : List Int × Int) (e : Ending) (w' : World) : Prop :=
  ∃ A n c, e = .returned (.tuple #[.slice A n c, .int .i64 r.2]) ∧ OwnV w' w.heap.size w'.heap.size 2 1 A n c (r.1.map (Value.int .i64)) ∧ Below w.heap.size w w'
theorem RetN2.nil {w w' : World} {code : Int} {r : List Int × Int} (hr : r = ([], code)) (hb : Below w.heap.size w w') : RetN2 w r (.returned (.tuple #[.slice none 0 0, .int .i64 code])) w' := by
  subst hr
  exact ⟨none, 0, 0, rfl, OwnV.mk' (World.ownsRow_nil _ _ _ _), hb⟩
theorem RetN2.mk' {w w' : World} {code : Int} {xs : List Int} {A : Option Addr} {n c : Nat} {r : List Int × Int} (hr : r = (xs, code)) (ho : w'.ownsRow w.heap.size 2 1 (.slice A n c) n (xs.map (Value.int .i64))) (hb : Below w.heap.size w w') : RetN2 w r (.returned (.tuple #[.slice A n c, .int .i64 code])) w' := by
  subst hr
  exact ⟨A, n, c, rfl, OwnV.mk' ho, hb⟩
theorem own_lower {w : World} {lo lo' : Nat} {T : TypeId} {s n : Nat} {v : Value} {vs : List Value} (h : w.ownsRow lo T s v n vs) (h1 : lo' ≤ lo) : w.ownsRow lo' T s v n vs := by
  refine ⟨h.1, ?_⟩
  rcases h.2 with hn | ⟨g, cap, cur, e, hb, rest⟩
  · exact .inl hn
  · exact .inr ⟨g, cap, cur, e, Nat.le_trans h1 hb, rest⟩
theorem own_slice {w : World} {base : Nat} {e : TypeId} {size : Nat} {v : Value} {n : Nat} {xs : List Value} (h : w.ownsRow base e size v n xs) : ∃ A c, v = .slice A n c := by
  rcases h.2 with ⟨rfl, rfl⟩ | ⟨g, cap, cur, rfl, _⟩
  · exact ⟨_, _, rfl⟩
  · exact ⟨_, _, rfl⟩
end Go.Proofs.YtbailpfjgjcbdaaGreatDoor

namespace Go.Proofs.YtbailpfjgjcbdaaGreatDoor
open Go.RowKit
/-- A slice of slices reads as the list of lists of terms xss. -/
def TTRow (w : World) (B : Nat) (A : Option Addr) (xss : List (List Tm)) : Prop :=
  ∃ vs : List Value, Row w B A vs ∧ vs.length = xss.length ∧ ∀ (i : Nat) (xs : List Tm), xss[i]? = some xs → ∃ (A' : Option Addr) (c' : Nat), vs[i]? = some (Value.slice A' xs.length c') ∧ TRow w B A' xs
theorem TTRow.below {w w' : World} {B : Nat} {A : Option Addr} {xss : List (List Tm)} (h : TTRow w B A xss) (hb : Below B w w') : TTRow w' B A xss := by
  obtain ⟨vs, h1, h2, h3⟩ := h
  refine ⟨vs, h1.below hb, h2, fun i xs hi => ?_⟩
  obtain ⟨A', c', e, hr⟩ := h3 i xs hi
  exact ⟨A', c', e, hr.below hb⟩
theorem TTRow.more {w : World} {B B' : Nat} {A : Option Addr} {xss : List (List Tm)} (h : TTRow w B A xss) (hB : B ≤ B') : TTRow w B' A xss := by
  obtain ⟨vs, h1, h2, h3⟩ := h
  refine ⟨vs, h1.more hB, h2, fun i xs hi => ?_⟩
  obtain ⟨A', c', e, hr⟩ := h3 i xs hi
  exact ⟨A', c', e, hr.more hB⟩
theorem TTRow.at_ {w : World} {B : Nat} {A : Option Addr} {xss : List (List Tm)} (h : TTRow w B A xss) {k : Nat} (hk : k < xss.length) :
    ∃ b off A' c' xs, A = some ⟨b, off, none⟩ ∧ b < B ∧ w.cell? ⟨b, off + k, none⟩ = some (.slice A' xs.length c') ∧ TRow w B A' xs ∧ Hid (xss[k]? = some xs) := by
  obtain ⟨vs, h1, h2, h3⟩ := h
  obtain ⟨b, off, e, hb, hc⟩ := h1.at_ (k := k) (by omega)
  obtain ⟨A', c', e', hr⟩ := h3 k xss[k] (List.getElem?_eq_getElem hk)
  rw [List.getElem?_eq_getElem (by omega)] at e'
  injection e' with e'
  exact ⟨b, off, A', c', xss[k], e, hb, by rw [← e']; exact hc, hr, List.getElem?_eq_getElem hk⟩
theorem own_blockT {w : World} {base : Nat} {e : TypeId} {size : Nat} {v : Value} {n g : Nat} {xs : List Value} (h : w.ownsRow base e size v n xs) (hg : v.ownBlock = some g) : ∃ cur, w.heap[g]? = some (.cells cur e (0, 0)) := by
  rcases h.2 with ⟨rfl, _⟩ | ⟨g', cap, cur, rfl, _, hh, _⟩
  · cases hg
  · injection hg with hg; subst hg; exact ⟨cur, hh⟩
/-- Rows of different element types lie in different blocks. -/
theorem own_apart {w : World} {b1 b2 : Nat} {e1 e2 : TypeId} {s1 s2 n1 n2 : Nat} {v1 v2 : Value} {xs ys : List Value} (h1 : w.ownsRow b1 e1 s1 v1 n1 xs) (h2 : w.ownsRow b2 e2 s2 v2 n2 ys) (hne : e1 ≠ e2) : v1.ownBlock = none ∨ v1.ownBlock ≠ v2.ownBlock := by
  rcases e : v1.ownBlock with _ | g
  · exact .inl rfl
  · refine .inr fun he => ?_
    obtain ⟨c1, h1⟩ := own_blockT h1 e
    obtain ⟨c2, h2⟩ := own_blockT h2 he.symm
    rw [h1] at h2
    injection h2 with h2
    injection h2 with _ h2 _
    exact hne h2
/-- Rows of numbers, one for each list, in blocks of their own, none of them the outer row's. -/
structure InnerT (w : World) (lo hi : Nat) (A : Option Addr) (n : Nat) (xss : List (List Tm)) (G : Nat → Option Addr) (C : Nat → Nat) (R : Nat → TypeId) : Prop where
  own : ∀ i, i < n → OwnV w lo hi (R i) 2 (G i) (xss.getD i []).length (C i) (tvs (xss.getD i []))
  one : ∀ i j g, i < n → j < n → G i = some ⟨g, 0, none⟩ → G j = some ⟨g, 0, none⟩ → i = j
  out : ∀ i g, i < n → G i = some ⟨g, 0, none⟩ → A ≠ some ⟨g, 0, none⟩
def innerT (xss : List (List Tm)) (G : Nat → Option Addr) (C : Nat → Nat) (n : Nat) : List Value := (List.range n).map fun i => .slice (G i) (xss.getD i []).length (C i)
theorem innerT_length (xss : List (List Tm)) (G : Nat → Option Addr) (C : Nat → Nat) (n : Nat) : (innerT xss G C n).length = n := by simp [innerT]
theorem innerT_at {xss : List (List Tm)} {G : Nat → Option Addr} {C : Nat → Nat} {n i : Nat} (h : i < n) : (innerT xss G C n)[i]? = some (.slice (G i) (xss.getD i []).length (C i)) := by simp [innerT, h]
/-- A slice of slices of the law's own. -/
def OwnTT (w : World) (lo hi : Nat) (A : Option Addr) (n c : Nat) (xss : List (List Tm)) : Prop :=
  n = xss.length ∧ ∃ (T : TypeId) (G : Nat → Option Addr) (C : Nat → Nat) (R : Nat → TypeId), OwnV w lo hi T 1 A n c (innerT xss G C n) ∧ InnerT w lo hi A n xss G C R
theorem InnerT.turn {w w' : World} {lo hi lo' hi' : Nat} {A : Option Addr} {n : Nat} {xss : List (List Tm)} {G : Nat → Option Addr} {C : Nat → Nat} {R : Nat → TypeId} (h : InnerT w lo hi A n xss G C R) (ht : Turns lo' hi' w w') (hd : hi ≤ lo' ∨ hi' ≤ lo) : InnerT w' lo hi A n xss G C R :=
  ⟨fun i hi => (h.own i hi).turn ht hd, h.one, h.out⟩
theorem InnerT.below {w w' : World} {lo hi B : Nat} {A : Option Addr} {n : Nat} {xss : List (List Tm)} {G : Nat → Option Addr} {C : Nat → Nat} {R : Nat → TypeId} (h : InnerT w lo hi A n xss G C R) (hb : Below B w w') (hB : hi ≤ B) : InnerT w' lo hi A n xss G C R :=
  ⟨fun i hi => (h.own i hi).below hb hB, h.one, h.out⟩
theorem OwnTT.turn {w w' : World} {lo hi lo' hi' : Nat} {A : Option Addr} {n c : Nat} {xss : List (List Tm)} (h : OwnTT w lo hi A n c xss) (ht : Turns lo' hi' w w') (hd : hi ≤ lo' ∨ hi' ≤ lo) : OwnTT w' lo hi A n c xss := by
  obtain ⟨hn, T, G, C, R, h1, h2⟩ := h
  exact ⟨hn, T, G, C, R, h1.turn ht hd, h2.turn ht hd⟩
theorem OwnTT.below {w w' : World} {lo hi B : Nat} {A : Option Addr} {n c : Nat} {xss : List (List Tm)} (h : OwnTT w lo hi A n c xss) (hb : Below B w w') (hB : hi ≤ B) : OwnTT w' lo hi A n c xss := by
  obtain ⟨hn, T, G, C, R, h1, h2⟩ := h
  exact ⟨hn, T, G, C, R, h1.below hb hB, h2.below hb hB⟩
theorem OwnTT.row {w : World} {lo hi : Nat} {A : Option Addr} {n c : Nat} {xss : List (List Tm)} (h : OwnTT w lo hi A n c xss) : TTRow w hi A xss := by
  obtain ⟨hn, T, G, C, R, h1, h2⟩ := h
  refine ⟨innerT xss G C n, h1.row, by rw [innerT_length]; exact hn, fun i xs hi => ?_⟩
  obtain ⟨hlt, rfl⟩ := List.getElem?_eq_some_iff.1 hi
  have e : xss.getD i [] = xss[i] := by rw [List.getD_eq_getElem?_getD, hi]; rfl
  refine ⟨G i, C i, by rw [innerT_at (by omega), e], ?_⟩
  have := (h2.own i (by omega)).trow
  rwa [e] at this
theorem OwnTT.len {w : World} {lo hi : Nat} {A : Option Addr} {n c : Nat} {xss : List (List Tm)} (h : OwnTT w lo hi A n c xss) : xss.length = n := h.1.symm
theorem OwnTT.nil (w : World) (lo hi : Nat) : OwnTT w lo hi none 0 0 [] :=
  ⟨rfl, 0, fun _ => none, fun _ => 0, fun _ => 0, ⟨World.ownsRow_nil _ _ _ _, fun g hg => by cases hg⟩, ⟨fun i h => by omega, fun i j g h => by omega, fun i g h => by omega⟩⟩
theorem getD_ofT {xss : List (List Tm)} {k : Nat} {xs : List Tm} (h : xss[k]? = some xs) : xss.getD k [] = xs := by rw [List.getD_eq_getElem?_getD, h]; rfl
theorem innerT_snoc {xss : List (List Tm)} {G : Nat → Option Addr} {C : Nat → Nat} {k : Nat} {xs : List Tm} {A' : Option Addr} {c' : Nat} (h : xss[k]? = some xs) :
    innerT xss (upd G k A') (upd C k c') (k + 1) = innerT xss G C k ++ [.slice A' xs.length c'] := by
  simp only [innerT, List.range_succ, List.map_append, List.map_cons, List.map_nil, upd_same, getD_ofT h]
  congr 1
  refine List.map_congr_left fun i hi => ?_
  have := List.mem_range.1 hi
  rw [upd_other (by omega), upd_other (by omega)]
theorem InnerT.snoc {w w1 : World} {lo hi lo2 hi2 : Nat} {A : Option Addr} {k : Nat} {xss : List (List Tm)} {G : Nat → Option Addr} {C : Nat → Nat} {R : Nat → TypeId} {T : TypeId} {A' : Option Addr} {c' : Nat} {xs : List Tm}
    (h : InnerT w lo hi A k xss G C R) (hb : Below hi w w1) (ho : OwnV w1 lo2 hi2 T 2 A' xs.length c' (tvs xs)) (hx : xss[k]? = some xs) (h1 : lo ≤ lo2) (h2 : hi ≤ lo2) (h3 : hi ≤ hi2)
    (hA : ∀ g, A = some ⟨g, 0, none⟩ → g < lo2) : InnerT w1 lo hi2 A (k + 1) xss (upd G k A') (upd C k c') (upd R k T) := by
  refine ⟨fun i hi' => ?_, fun i j g hi' hj' e1 e2 => ?_, fun i g hi' e1 e2 => ?_⟩
  · by_cases e : i = k
    · subst e
      rw [upd_same, upd_same, upd_same, getD_ofT hx]
      exact ho.wide h1 (Nat.le_refl _)
    · rw [upd_other e, upd_other e, upd_other e]
      exact ((h.own i (by omega)).below hb (Nat.le_refl _)).wide (Nat.le_refl _) h3
  · by_cases ei : i = k <;> by_cases ej : j = k
    · omega
    · exfalso
      subst ei
      rw [upd_same] at e1; rw [upd_other ej] at e2
      subst e1
      have a := ho.lt_of
      have b := h.own j (by omega)
      rw [e2] at b
      have := b.lt_of
      omega
    · exfalso
      subst ej
      rw [upd_same] at e2; rw [upd_other ei] at e1
      subst e2
      have a := ho.lt_of
      have b := h.own i (by omega)
      rw [e1] at b
      have := b.lt_of
      omega
    · rw [upd_other ei] at e1; rw [upd_other ej] at e2
      exact h.one i j g (by omega) (by omega) e1 e2
  · by_cases ei : i = k
    · subst ei
      rw [upd_same] at e1
      subst e1
      have a := ho.lt_of
      have := hA g e2
      omega
    · rw [upd_other ei] at e1
      exact h.out i g (by omega) e1 e2
theorem InnerT.zero (w : World) (lo hi : Nat) (A : Option Addr) (xss : List (List Tm)) (G : Nat → Option Addr) (C : Nat → Nat) (R : Nat → TypeId) : InnerT w lo hi A 0 xss G C R :=
  ⟨fun i h => by omega, fun i j g h => by omega, fun i g h => by omega⟩
theorem innerT_app {xss : List (List Tm)} {G : Nat → Option Addr} {C : Nat → Nat} {xs : List Tm} {A' : Option Addr} {c' : Nat} :
    innerT (xss ++ [xs]) (upd G xss.length A') (upd C xss.length c') (xss.length + 1) = innerT xss G C xss.length ++ [.slice A' xs.length c'] := by
  rw [innerT_snoc (xs := xs) (by simp)]
  congr 1
  unfold innerT
  refine List.map_congr_left fun i hi => ?_
  have := List.mem_range.1 hi
  rw [List.getD_eq_getElem?_getD, List.getD_eq_getElem?_getD, List.getElem?_append_left this]
end Go.Proofs.YtbailpfjgjcbdaaGreatDoor

namespace Go.Proofs.YtbailpfjgjcbdaaGreatDoor
open Go.RowKit
/-- The slice of address A reads as the values vs, which lie in a block of the set S. -/
def SRow (w : World) (S : Nat → Prop) (A : Option Addr) (vs : List Value) : Prop :=
  0 < vs.length → ∃ b off, A = some ⟨b, off, none⟩ ∧ S b ∧ ∀ i v, vs[i]? = some v → w.cell? ⟨b, off + i, none⟩ = some v
/-- No block of S has been turned. -/
def SameOn (S : Nat → Prop) (w w' : World) : Prop := ∀ b o, S b → w'.cell? ⟨b, o, none⟩ = w.cell? ⟨b, o, none⟩
theorem SameOn.refl (S : Nat → Prop) (w : World) : SameOn S w w := fun _ _ _ => rfl
theorem SameOn.trans {S : Nat → Prop} {w w1 w2 : World} (h : SameOn S w w1) (h2 : SameOn S w1 w2) : SameOn S w w2 := fun b o hb => (h2 b o hb).trans (h b o hb)
theorem SameOn.of_below {S : Nat → Prop} {B : Nat} {w w' : World} (h : Below B w w') (hS : ∀ b, S b → b < B) : SameOn S w w' := fun b o hb => h.cell (p := ⟨b, o, none⟩) (hS b hb)
theorem SameOn.drewN (S : Nat → Prop) (w : World) (n : Nat) : SameOn S w (w.drewN n) := fun _ _ _ => rfl
/-- A write into one row turns no other block. -/
theorem SameOn.of_grown {S : Nat → Prop} {w w' : World} {row : Option Nat} (h : w.grownBy w' row) (hS : ∀ b, S b → b < w.heap.size) (hr : ∀ g, row = some g → ¬ S g) : SameOn S w w' := by
  intro b o hb
  have e := h.block b (hS b hb) (fun e => hr b e.symm hb)
  unfold World.cell?
  rw [e]
theorem SameOn.setCell {S : Nat → Prop} {w w1 : World} {b o : Nat} {v : Value} (h : SameOn S w w1) (hb : ¬ S b) : SameOn S w (w1.setCell ⟨b, o, none⟩ v) := fun b' o' hS =>
  (World.cell?_setCell_other _ _ _ _ (fun e => by injection e with e1; subst e1; exact hb hS)).trans (h b' o' hS)
theorem SameOn.of_drawn {S : Nat → Prop} {w w' : World} (h : Drawn w w') : SameOn S w w' := by
  obtain ⟨n, rfl⟩ := h
  exact SameOn.drewN S w n
theorem SRow.nil {w : World} {S : Nat → Prop} {A : Option Addr} : SRow w S A [] := fun h => absurd h (by simp)
theorem SRow.keep {w w' : World} {S : Nat → Prop} {A : Option Addr} {vs : List Value} (h : SRow w S A vs) (hk : SameOn S w w') : SRow w' S A vs := by
  intro hp
  obtain ⟨b, off, e, hb, hc⟩ := h hp
  exact ⟨b, off, e, hb, fun i v hv => (hk b _ hb).trans (hc i v hv)⟩
theorem SRow.more {w : World} {S S' : Nat → Prop} {A : Option Addr} {vs : List Value} (h : SRow w S A vs) (hS : ∀ b, S b → S' b) : SRow w S' A vs := by
  intro hp
  obtain ⟨b, off, e, hb, hc⟩ := h hp
  exact ⟨b, off, e, hS b hb, hc⟩
theorem SRow.row {w : World} {S : Nat → Prop} {B : Nat} {A : Option Addr} {vs : List Value} (h : SRow w S A vs) (hS : ∀ b, S b → b < B) : Row w B A vs := by
  intro hp
  obtain ⟨b, off, e, hb, hc⟩ := h hp
  exact ⟨b, off, e, hS b hb, hc⟩
theorem SRow.of_row {w : World} {B : Nat} {A : Option Addr} {vs : List Value} (h : Row w B A vs) : SRow w (· < B) A vs := h
/-- A row of the call's own reads as what it holds. -/
theorem SRow.of_own {w : World} {lo : Nat} {T : TypeId} {s n c : Nat} {A : Option Addr} {vs : List Value} (h : w.ownsRow lo T s (.slice A n c) n vs) (S : Nat → Prop) (hS : ∀ g, (Value.slice A n c).ownBlock = some g → S g) : SRow w S A vs := by
  intro hp
  rcases h.2 with ⟨e, hn⟩ | ⟨g, cap, cur, e, hb, hg, hnc, _, hcs, ht⟩
  · have h1 := h.1
    rw [hn, Nat.zero_mul] at h1
    omega
  · injection e with e1 e2 e3
    subst e1
    refine ⟨g, 0, rfl, hS g rfl, fun i v hv => ?_⟩
    rw [Nat.zero_add, cell_of_row w g i cur T (0, 0) hg]
    rw [← ht, List.getElem?_take] at hv
    split at hv
    · simpa using hv
    · cases hv
/-- A kind of record: how many cells it takes, and what they say. -/
structure Rec (α : Type) where
  R : World → (Nat → Prop) → α → List Value → Prop
  width : Nat
  pos : 0 < width
  len : ∀ {w S x vs}, R w S x vs → vs.length = width
  keep : ∀ {w w' S x vs}, R w S x vs → SameOn S w w' → R w' S x vs
  more : ∀ {w S S' x vs}, R w S x vs → (∀ b, S b → S' b) → R w S' x vs
/-- The slice of address A reads as the list of records xs. -/
def LRow {α : Type} (F : Rec α) (w : World) (S : Nat → Prop) (A : Option Addr) (xs : List α) : Prop :=
  ∃ vs : List Value, SRow w S A vs ∧ vs.length = xs.length * F.width ∧ ∀ k x, xs[k]? = some x → F.R w S x ((vs.drop (k * F.width)).take F.width)
theorem LRow.nil {α : Type} {F : Rec α} {w : World} {S : Nat → Prop} {A : Option Addr} : LRow F w S A [] := ⟨[], SRow.nil, by simp, fun k x h => by simp at h⟩
theorem LRow.keep {α : Type} {F : Rec α} {w w' : World} {S : Nat → Prop} {A : Option Addr} {xs : List α} (h : LRow F w S A xs) (hk : SameOn S w w') : LRow F w' S A xs := by
  obtain ⟨vs, h1, h2, h3⟩ := h
  exact ⟨vs, h1.keep hk, h2, fun k x hx => F.keep (h3 k x hx) hk⟩
theorem LRow.more {α : Type} {F : Rec α} {w : World} {S S' : Nat → Prop} {A : Option Addr} {xs : List α} (h : LRow F w S A xs) (hS : ∀ b, S b → S' b) : LRow F w S' A xs := by
  obtain ⟨vs, h1, h2, h3⟩ := h
  exact ⟨vs, h1.more hS, h2, fun k x hx => F.more (h3 k x hx) hS⟩
theorem LRow.at_ {α : Type} {F : Rec α} {w : World} {S : Nat → Prop} {A : Option Addr} {xs : List α} (h : LRow F w S A xs) {k : Nat} (hk : k < xs.length) :
    ∃ b off cs x, A = some ⟨b, off, none⟩ ∧ S b ∧ F.R w S x cs ∧ Hid (xs[k]? = some x) ∧ ∀ j v, cs[j]? = some v → w.cell? ⟨b, off + k * F.width + j, none⟩ = some v := by
  obtain ⟨vs, h1, h2, h3⟩ := h
  have hx : xs[k]? = some xs[k] := List.getElem?_eq_getElem hk
  have hR := h3 k _ hx
  have hw := F.pos
  have hle : (k + 1) * F.width ≤ xs.length * F.width := Nat.mul_le_mul_right _ hk
  rw [Nat.succ_mul] at hle
  obtain ⟨b, off, e, hb, hc⟩ := h1 (by omega)
  refine ⟨b, off, _, xs[k], e, hb, hR, Lib.hid hx, fun j v hj => ?_⟩
  rw [Nat.add_assoc]
  refine hc _ v ?_
  rw [List.getElem?_take] at hj
  split at hj
  · rwa [List.getElem?_drop] at hj
  · cases hj
/-- A number as a record. -/
def intR : Rec Int where
  R _ _ x vs := vs = [.int .i64 x]
  width := 1
  pos := by decide
  len h := by rw [h]; rfl
  keep h _ := h
  more h _ := h
/-- A text as a record. -/
def txtR : Rec ByteArray where
  R _ _ x vs := vs = [.string x] ∧ x.size ≤ maxLen
  width := 1
  pos := by decide
  len h := by rw [h.1]; rfl
  keep h _ := h
  more h _ := h
/-- A term as a record. -/
def tmR : Rec Tm where
  R _ _ x vs := vs = tv x
  width := 2
  pos := by decide
  len h := by rw [h]; rfl
  keep h _ := h
  more h _ := h
/-- A list of records as one cell. -/
def listR {α : Type} (F : Rec α) : Rec (List α) where
  R w S x vs := ∃ A c, vs = [.slice A x.length c] ∧ x.length ≤ c ∧ c ≤ maxLen ∧ LRow F w S A x
  width := 1
  pos := by decide
  len h := by obtain ⟨A, c, rfl, _⟩ := h; rfl
  keep h hk := by obtain ⟨A, c, e, h1, h2, h3⟩ := h; exact ⟨A, c, e, h1, h2, h3.keep hk⟩
  more h hS := by obtain ⟨A, c, e, h1, h2, h3⟩ := h; exact ⟨A, c, e, h1, h2, h3.more hS⟩
theorem flat_at {α : Type} (f : α → List Value) (d : Nat) : ∀ (xs : List α), (∀ x ∈ xs, (f x).length = d) → ∀ (k : Nat) (x : α), xs[k]? = some x → ((xs.flatMap f).drop (k * d)).take d = f x := by
  intro xs
  induction xs with
  | nil => intro _ k x h; simp at h
  | cons a xs ih =>
    intro hd k x h
    have ha := hd a (by simp)
    cases k with
    | zero =>
      simp at h; subst h
      rw [Nat.zero_mul, List.drop_zero, List.flatMap_cons, List.take_left' ha]
    | succ k =>
      have := ih (fun y hy => hd y (by simp [hy])) k x (by simpa using h)
      rw [List.flatMap_cons, Nat.succ_mul, Nat.add_comm, ← List.drop_drop, List.drop_left' ha]
      exact this
theorem flat_len {α : Type} (f : α → List Value) (d : Nat) : ∀ (xs : List α), (∀ x ∈ xs, (f x).length = d) → (xs.flatMap f).length = xs.length * d := by
  intro xs
  induction xs with
  | nil => intro _; simp
  | cons a xs ih =>
    intro hd
    have ha := hd a (by simp)
    have := ih fun y hy => hd y (by simp [hy])
    rw [List.flatMap_cons, List.length_append, ha, this, List.length_cons, Nat.succ_mul, Nat.add_comm]
theorem bcell {W w1 : World} (hb : Below W.heap.size W w1) : (∀ b o, b < W.heap.size → w1.cell? ⟨b, o, none⟩ = W.cell? ⟨b, o, none⟩) ∧ (∀ b o, b < W.heap.size → w1.frozen? ⟨b, o, none⟩ = W.frozen? ⟨b, o, none⟩) :=
  ⟨fun b o h => hb.cell (p := ⟨b, o, none⟩) h, fun b o h => hb.frozen (p := ⟨b, o, none⟩) h⟩
/-- The blocks from lo on and below hi. -/
def In (lo hi : Nat) (b : Nat) : Prop := lo ≤ b ∧ b < hi
theorem In.lt {lo hi b : Nat} (h : In lo hi b) : b < hi := h.2
/-- Values stored one behind the other, from place p on. -/
def setAll (L : List Value) (p : Nat) : List Value → List Value
  | [] => L
  | c :: cs => setAll (L.set p c) (p + 1) cs
theorem setAll_block : ∀ (cs pre mid post : List Value), mid.length = cs.length → setAll (pre ++ (mid ++ post)) pre.length cs = pre ++ (cs ++ post) := by
  intro cs
  induction cs with
  | nil => intro pre mid post h; obtain rfl : mid = [] := List.eq_nil_of_length_eq_zero h; rfl
  | cons c cs ih =>
    intro pre mid post h
    cases mid with
    | nil => simp at h
    | cons m mid =>
      have hset : (pre ++ (m :: mid ++ post)).set pre.length c = (pre ++ [c]) ++ (mid ++ post) := by
        rw [List.set_append_right _ _ (Nat.le_refl _), Nat.sub_self]; simp
      show setAll ((pre ++ (m :: mid ++ post)).set pre.length c) (pre.length + 1) cs = _
      rw [hset]
      have := ih (pre ++ [c]) mid post (by simpa using h)
      rw [List.length_append] at this
      simpa using this
theorem made_cons (z : Array Value) (m : Nat) : (madeCells z ((m + 1) * z.size)).toList = z.toList ++ (madeCells z (m * z.size)).toList := by
  apply List.ext_getElem?
  intro j
  have e := Nat.succ_mul m z.size
  by_cases h2 : j < z.size
  · have h1 : j < (m + 1) * z.size := by rw [Nat.succ_mul]; omega
    rw [List.getElem?_append_left (by simpa using h2)]
    simp [madeCells, h1, Nat.mod_eq_of_lt h2, h2]
  · rw [List.getElem?_append_right (by simpa using h2)]
    by_cases h1 : j < (m + 1) * z.size
    · have h3 : j - z.size < m * z.size := by rw [Nat.succ_mul] at h1; omega
      simp [madeCells, h1, h3, Nat.mod_eq_sub_mod (show z.size ≤ j by omega)]
    · have h3 : ¬ j - z.size < m * z.size := by rw [Nat.succ_mul] at h1; omega
      simp [madeCells, h1, h3]
/-- The next record stored behind those that are there, in front of what is still empty. -/
theorem set_next {F : Nat} {vs cs : List Value} {z : Array Value} {n k : Nat} (hl : vs.length = k * F) (hz : z.size = F) (hc : cs.length = F) (hk : k < n) :
    setAll (vs ++ (madeCells z ((n - k) * F)).toList) (k * F) cs = (vs ++ cs) ++ (madeCells z ((n - (k + 1)) * F)).toList := by
  subst hz
  have e : n - k = (n - (k + 1)) + 1 := by omega
  rw [e, made_cons, ← hl, setAll_block _ _ _ _ (by rw [hc]; simp), List.append_assoc]
theorem made_step {α : Type} (F : Rec α) {wr w2 w3 : World} {lo k : Nat} {vs cs : List Value} {xs : List α} {x : α} (hl : vs.length = k * F.width) (hR : F.R w2 (In wr.heap.size w2.heap.size) x cs) (hx : xs[k]? = some x)
    (ho : ∀ j y, j < k → xs[j]? = some y → F.R wr (In (lo + 1) wr.heap.size) y ((vs.drop (j * F.width)).take F.width)) (hb : Below wr.heap.size wr w2) (hlo : lo + 1 ≤ wr.heap.size) (hg : w2.grownBy w3 (some lo)) :
    (vs ++ cs).length = (k + 1) * F.width ∧ ∀ j y, j < k + 1 → xs[j]? = some y → F.R w3 (In (lo + 1) w3.heap.size) y (((vs ++ cs).drop (j * F.width)).take F.width) := by
  have hcl := F.len hR
  have h23 := hg.size
  have h12 := hb.size
  refine ⟨by rw [List.length_append, hl, hcl, Nat.succ_mul], fun j y hj hy => ?_⟩
  have keep3 : ∀ S : Nat → Prop, (∀ b, S b → lo + 1 ≤ b ∧ b < w2.heap.size) → SameOn S w2 w3 := fun S hS =>
    SameOn.of_grown hg (fun b hb => (hS b hb).2) (fun g e hb => by injection e with e; have := (hS g hb).1; omega)
  by_cases e : j = k
  · subst e
    obtain rfl : y = x := by have := hy.symm.trans hx; injection this
    rw [← hl, List.drop_left, List.take_of_length_le (by omega)]
    exact F.more (F.keep hR (keep3 _ fun b h => ⟨by have := h.1; omega, h.2⟩)) fun b h => ⟨by have := h.1; omega, by have := h.2; omega⟩
  · have hj' : j < k := by omega
    have h1 := ho j y hj' hy
    have hle : (j + 1) * F.width ≤ k * F.width := Nat.mul_le_mul_right _ hj'
    rw [Nat.succ_mul] at hle
    rw [List.drop_append_of_le_length (by omega), List.take_append_of_le_length (by rw [List.length_drop]; omega)]
    have h2 := F.keep h1 (SameOn.of_below hb fun b h => h.2)
    have h3 := F.keep h2 (keep3 _ fun b h => ⟨h.1, by have := h.2; omega⟩)
    exact F.more h3 fun b h => ⟨h.1, by have := h.2; omega⟩
theorem made_done {α : Type} (F : Rec α) {w' : World} {lo n c : Nat} {T : TypeId} {vs : List Value} {xs : List α} (hl : xs.length = n) (hown : w'.ownsRow lo T F.width (.slice (some ⟨lo, 0, none⟩) n c) n vs)
    (ho : ∀ j y, j < n → xs[j]? = some y → F.R w' (In (lo + 1) w'.heap.size) y ((vs.drop (j * F.width)).take F.width)) : LRow F w' (In lo w'.heap.size) (some ⟨lo, 0, none⟩) xs :=
  ⟨vs, SRow.of_own hown _ (fun g e => by cases e; exact ⟨Nat.le_refl _, (hown.lt _ rfl).2⟩), by have := hown.1; rw [hl]; exact this, fun k x hx =>
    F.more (ho k x (by have := (List.getElem?_eq_some_iff.1 hx).1; omega) hx) fun b h => ⟨by have := h.1; omega, h.2⟩⟩
theorem flat_of {α : Type} (f : α → List Value) (d : Nat) : ∀ (xs : List α) (vs : List Value), vs.length = xs.length * d → (∀ k x, xs[k]? = some x → (vs.drop (k * d)).take d = f x) → vs = xs.flatMap f := by
  intro xs
  induction xs with
  | nil => intro vs h _; simpa using h
  | cons a xs ih =>
    intro vs h hx
    have h0 := hx 0 a rfl
    rw [Nat.zero_mul, List.drop_zero] at h0
    have hl : (a :: xs).length * d = xs.length * d + d := by rw [List.length_cons, Nat.succ_mul]
    have h1 := ih (vs.drop d) (by rw [List.length_drop]; omega) (fun k x hk => by
      have := hx (k + 1) x (by simpa using hk)
      rw [Nat.succ_mul, Nat.add_comm, ← List.drop_drop] at this
      exact this)
    rw [List.flatMap_cons, ← h0, ← h1, List.take_append_drop]
theorem flatMap_one {α : Type} (g : α → Value) (xs : List α) : xs.flatMap (fun x => [g x]) = xs.map g := by
  induction xs with
  | nil => rfl
  | cons a xs ih => rw [List.flatMap_cons, ih]; rfl
theorem LRow.irow {w : World} {S : Nat → Prop} {B : Nat} {A : Option Addr} {xs : List Int} (h : LRow intR w S A xs) (hS : ∀ b, S b → b < B) : IRow w B A xs := by
  obtain ⟨vs, h1, h2, h3⟩ := h
  have e := flat_of (fun x : Int => [Value.int .i64 x]) 1 xs vs h2 h3
  rw [flatMap_one] at e
  subst e
  exact h1.row hS
theorem LRow.trow {w : World} {S : Nat → Prop} {B : Nat} {A : Option Addr} {xs : List Tm} (h : LRow tmR w S A xs) (hS : ∀ b, S b → b < B) : TRow w B A xs := by
  obtain ⟨vs, h1, h2, h3⟩ := h
  have e := flat_of tv 2 xs vs h2 h3
  subst e
  exact h1.row hS
theorem take_one_at {vs : List Value} {k : Nat} {v : Value} (h : (vs.drop k).take 1 = [v]) : vs[k]? = some v := by
  have h1 : ((vs.drop k).take 1)[0]? = some v := by rw [h]; rfl
  rw [List.getElem?_take, if_pos (by decide), List.getElem?_drop, Nat.add_zero] at h1
  exact h1
theorem LRow.ttrow {w : World} {S : Nat → Prop} {B : Nat} {A : Option Addr} {xs : List (List Tm)} (h : LRow (listR tmR) w S A xs) (hS : ∀ b, S b → b < B) : TTRow w B A xs := by
  obtain ⟨vs, h1, h2, h3⟩ := h
  refine ⟨vs, h1.row hS, by simpa [listR] using h2, fun i x hx => ?_⟩
  obtain ⟨A', c', e, _, _, h4⟩ := h3 i x hx
  have e2 : (vs.drop (i * 1)).take 1 = [.slice A' x.length c'] := e
  rw [Nat.mul_one] at e2
  exact ⟨A', c', take_one_at e2, h4.trow hS⟩
theorem IRow.lrow {w : World} {B : Nat} {A : Option Addr} {xs : List Int} (h : IRow w B A xs) : LRow intR w (· < B) A xs := by
  refine ⟨xs.map (Value.int .i64), h, by simp [intR], fun k x hx => ?_⟩
  have := flat_at (fun x : Int => [Value.int .i64 x]) 1 xs (fun _ _ => rfl) k x hx
  rw [flatMap_one] at this
  exact this
end Go.Proofs.YtbailpfjgjcbdaaGreatDoor

namespace Go.Proofs.YtbailpfjgjcbdaaGreatDoor
open Go.RowKit
structure Mt where
  l : ByteArray
  r : ByteArray
  s : ByteArray
structure Cp where
  d : Int
  vs : List Int
structure Pt where
  k : Int
  n : Int
  nm : ByteArray
  args : List (List Tm)
structure Df where
  nm : ByteArray
  ps : Int
  body : List Pt
instance : Inhabited Mt := ⟨⟨⟨#[]⟩, ⟨#[]⟩, ⟨#[]⟩⟩⟩
instance : Inhabited Cp := ⟨⟨0, []⟩⟩
instance : Inhabited Pt := ⟨⟨0, 0, ⟨#[]⟩, []⟩⟩
instance : Inhabited Df := ⟨⟨⟨#[]⟩, 0, []⟩⟩
def mtR : Rec Mt where
  R _ _ x vs := vs = [.string x.l, .string x.r, .string x.s] ∧ x.l.size ≤ maxLen ∧ x.r.size ≤ maxLen ∧ x.s.size ≤ maxLen
  width := 3
  pos := by decide
  len h := by rw [h.1]; rfl
  keep h _ := h
  more h _ := h
def cpR : Rec Cp where
  R w S x vs := ∃ A c, vs = [.int .i64 x.d, .slice A x.vs.length c] ∧ x.vs.length ≤ c ∧ c ≤ maxLen ∧ LRow intR w S A x.vs
  width := 2
  pos := by decide
  len h := by obtain ⟨A, c, rfl, _⟩ := h; rfl
  keep h hk := by obtain ⟨A, c, e, h1, h2, h3⟩ := h; exact ⟨A, c, e, h1, h2, h3.keep hk⟩
  more h hS := by obtain ⟨A, c, e, h1, h2, h3⟩ := h; exact ⟨A, c, e, h1, h2, h3.more hS⟩
def ptR : Rec Pt where
  R w S x vs := ∃ A c, vs = [.int .i64 x.k, .int .i64 x.n, .string x.nm, .slice A x.args.length c] ∧ x.nm.size ≤ maxLen ∧ x.args.length ≤ c ∧ c ≤ maxLen ∧ LRow (listR tmR) w S A x.args
  width := 4
  pos := by decide
  len h := by obtain ⟨A, c, rfl, _⟩ := h; rfl
  keep h hk := by obtain ⟨A, c, e, h0, h1, h2, h3⟩ := h; exact ⟨A, c, e, h0, h1, h2, h3.keep hk⟩
  more h hS := by obtain ⟨A, c, e, h0, h1, h2, h3⟩ := h; exact ⟨A, c, e, h0, h1, h2, h3.more hS⟩
def dfR : Rec Df where
  R w S x vs := ∃ A c, vs = [.string x.nm, .int .i64 x.ps, .slice A x.body.length c] ∧ x.nm.size ≤ maxLen ∧ x.body.length ≤ c ∧ c ≤ maxLen ∧ LRow ptR w S A x.body
  width := 3
  pos := by decide
  len h := by obtain ⟨A, c, rfl, _⟩ := h; rfl
  keep h hk := by obtain ⟨A, c, e, h0, h1, h2, h3⟩ := h; exact ⟨A, c, e, h0, h1, h2, h3.keep hk⟩
  more h hS := by obtain ⟨A, c, e, h0, h1, h2, h3⟩ := h; exact ⟨A, c, e, h0, h1, h2, h3.more hS⟩
/-- What a measure lets by is small. -/
def okList {α : Type} (p : α → Prop) (xs : List α) : Prop := xs.length ≤ 1048576 ∧ ∀ x ∈ xs, p x
def okAny {α : Type} (_ : α) : Prop := True
def okTx (t : ByteArray) : Prop := t.size ≤ 1048576
def okPt (p : Pt) : Prop := okTx p.nm ∧ okList (okList okAny) p.args
def okDf (d : Df) : Prop := okTx d.nm ∧ okList okPt d.body
def okCp (c : Cp) : Prop := okList okAny c.vs
def okMt (m : Mt) : Prop := okTx m.l ∧ okTx m.r ∧ okTx m.s
/-- How many elements the lists in a record hold, all together. -/
def sW {α : Type} (f : α → Nat) : List α → Nat
  | [] => 0
  | x :: xs => f x + sW f xs
def wL {α : Type} (f : α → Nat) (xs : List α) : Nat := xs.length + sW f xs
def wtZ {α : Type} (_ : α) : Nat := 0
theorem sW_append {α : Type} (f : α → Nat) (a b : List α) : sW f (a ++ b) = sW f a + sW f b := by
  induction a with
  | nil => simp [sW]
  | cons x a ih => simp [sW, ih, Nat.add_assoc]
theorem sW_succ {α : Type} {f : α → Nat} {xs : List α} {k : Nat} {x : α} (h : xs[k]? = some x) : sW f (xs.take (k + 1)) = sW f (xs.take k) + f x := by
  rw [take_one _ _ _ h, sW_append]; simp [sW]
theorem wL_full {α : Type} {f : α → Nat} {xs : List α} {n k : Nat} (h : xs.length = n) (hk : n ≤ k) : wL f xs = n + sW f (xs.take k) := by
  unfold wL
  rw [List.take_of_length_le (by omega), h]
theorem wL_z {α : Type} (xs : List α) : wL (wtZ (α := α)) xs = xs.length := by
  have : sW (wtZ (α := α)) xs = 0 := by
    induction xs with
    | nil => rfl
    | cons x xs ih => show 0 + _ = 0; rw [ih]
  unfold wL
  rw [this]; rfl
def wtPt (p : Pt) : Nat := wL (wL wtZ) p.args
def wtDf (d : Df) : Nat := wL wtPt d.body
def wtCp (c : Cp) : Nat := wL wtZ c.vs
def SzRet (ok : Prop) (wt : Nat) (left : Int) (w : World) (e : Ending) (w' : World) : Prop := ∃ r : Int, e = .returned (.int .i64 r) ∧ (r < 0 ∨ (0 ≤ r ∧ r + wt ≤ left ∧ ok)) ∧ Below w.heap.size w w'
theorem SzRet.no {ok : Prop} {wt : Nat} {left : Int} {w w' : World} (hb : Below w.heap.size w w') : SzRet ok wt left w (.returned (.int .i64 (-1))) w' := ⟨-1, rfl, .inl (by omega), hb⟩
theorem SzRet.yes {ok : Prop} {wt : Nat} {left r : Int} {w w' : World} (h0 : 0 ≤ r) (h1 : r + wt ≤ left) (h : ok) (hb : Below w.heap.size w w') : SzRet ok wt left w (.returned (.int .i64 r)) w' := ⟨r, rfl, .inr ⟨h0, h1, h⟩, hb⟩
/-- A record of the call's own, handed back by value. -/
def MadeR {α : Type} (F : Rec α) (x : α) (w : World) (e : Ending) (w' : World) : Prop := ∃ cs : List Value, e = .returned (.agg cs.toArray) ∧ F.R w' (In w.heap.size w'.heap.size) x cs ∧ Below w.heap.size w w'
/-- A slice of records of the call's own. -/
def MadeL {α : Type} (F : Rec α) (xs : List α) (w : World) (e : Ending) (w' : World) : Prop :=
  e = .returned (.slice (some ⟨w.heap.size, 0, none⟩) xs.length xs.length) ∧ LRow F w' (In w.heap.size w'.heap.size) (some ⟨w.heap.size, 0, none⟩) xs ∧ Below w.heap.size w w'
end Go.Proofs.YtbailpfjgjcbdaaGreatDoor

namespace Go.Proofs.YtbailpfjgjcbdaaGreatDoor
open Go.RowKit
/-- No block of S that is there has been turned. -/
def SameB (S : Nat → Prop) (w w' : World) : Prop := ∀ b, S b → b < w.heap.size → w'.heap[b]? = w.heap[b]?
/-- From w to w' nothing has turned but blocks of S, and new ones. -/
structure TurnS (S : Nat → Prop) (w w' : World) : Prop where
  os : w'.os = w.os
  tape : w'.tape = w.tape
  output : w'.output = w.output
  size : w.heap.size ≤ w'.heap.size
  block : ∀ k, k < w.heap.size → ¬ S k → w'.heap[k]? = w.heap[k]?
theorem TurnS.refl (S : Nat → Prop) (w : World) : TurnS S w w := ⟨rfl, rfl, rfl, Nat.le_refl _, fun _ _ _ => rfl⟩
theorem TurnS.trans {S : Nat → Prop} {a b c : World} (h : TurnS S a b) (k : TurnS S b c) : TurnS S a c :=
  ⟨k.os.trans h.os, k.tape.trans h.tape, k.output.trans h.output, Nat.le_trans h.size k.size, fun i hi hd => (k.block i (Nat.lt_of_lt_of_le hi h.size) hd).trans (h.block i hi hd)⟩
theorem TurnS.more {S S' : Nat → Prop} {w w' : World} (h : TurnS S w w') (hS : ∀ b, S b → S' b) : TurnS S' w w' :=
  ⟨h.os, h.tape, h.output, h.size, fun k hk hn => h.block k hk fun hs => hn (hS k hs)⟩
theorem TurnS.of_below {S : Nat → Prop} {w w' : World} (h : Below w.heap.size w w') : TurnS S w w' := ⟨h.os, h.tape, h.output, h.size, fun k hk _ => h.block k hk⟩
theorem TurnS.of_grown {S : Nat → Prop} {w w' : World} {g : Nat} (h : w.grownBy w' (some g)) (hg : S g) : TurnS S w w' :=
  ⟨h.os, h.tape, h.output, h.size, fun k hk hn => h.block k hk fun e => by injection e with e; subst e; exact hn hg⟩
theorem TurnS.below {S : Nat → Prop} {B : Nat} {w w' : World} (h : TurnS S w w') (hB : B ≤ w.heap.size) (hS : ∀ b, S b → B ≤ b) : Below B w w' :=
  ⟨h.os, h.tape, h.output, h.size, fun k hk => h.block k (by omega) fun hs => by have := hS k hs; omega⟩
theorem SameB.of_turn {S S' : Nat → Prop} {w w' : World} (h : TurnS S' w w') (hd : ∀ b, S b → ¬ S' b) : SameB S w w' := fun b hb hlt => h.block b hlt (hd b hb)
theorem SameB.of_below {S : Nat → Prop} {w w' : World} (h : Below w.heap.size w w') : SameB S w w' := fun b _ hlt => h.block b hlt
theorem SameB.of_belowB {S : Nat → Prop} {B : Nat} {w w' : World} (h : Below B w w') (hS : ∀ b, S b → b < B) : SameB S w w' := fun b hb _ => h.block b (hS b hb)
theorem SameB.more {S S' : Nat → Prop} {w w' : World} (h : SameB S w w') (hS : ∀ b, S' b → S b) : SameB S' w w' := fun b hb hlt => h b (hS b hb) hlt
theorem own_sameB {S : Nat → Prop} {w w' : World} {lo : Nat} {T : TypeId} {s n : Nat} {v : Value} {vs : List Value} (h : w.ownsRow lo T s v n vs) (hk : SameB S w w') (hS : ∀ g, v.ownBlock = some g → S g) : w'.ownsRow lo T s v n vs := by
  refine ⟨h.1, ?_⟩
  rcases h.2 with hn | ⟨g, cap, cur, rfl, hb, hg, rest⟩
  · exact .inl hn
  · exact .inr ⟨g, cap, cur, rfl, hb, by rw [hk g (hS g rfl) (Array.getElem?_eq_some_iff.1 hg).1]; exact hg, rest⟩
theorem own_low {w : World} {lo lo' : Nat} {T : TypeId} {s n : Nat} {v : Value} {vs : List Value} (h : w.ownsRow lo T s v n vs) (h1 : lo' ≤ lo) : w.ownsRow lo' T s v n vs := by
  refine ⟨h.1, ?_⟩
  rcases h.2 with hn | ⟨g, cap, cur, e, hb, rest⟩
  · exact .inl hn
  · exact .inr ⟨g, cap, cur, e, Nat.le_trans h1 hb, rest⟩
theorem own_cap {w : World} {lo : Nat} {T : TypeId} {s n c : Nat} {A : Option Addr} {vs : List Value} (h : w.ownsRow lo T s (.slice A n c) n vs) : n ≤ c ∧ c ≤ maxLen := by
  rcases h.2 with ⟨e, hn⟩ | ⟨g, cap, cur, e, hb, hg, hnc, hcm, _⟩
  · injection e with _ _ e3; subst e3; subst hn; exact ⟨Nat.le_refl _, by unfold maxLen; omega⟩
  · injection e with _ _ e3; subst e3; exact ⟨hnc, hcm⟩
/-- A kind of record with its memory its own: O says that all blocks that it holds lie in S, apart from one another. -/
structure Owd (α : Type) where
  F : Rec α
  O : World → (Nat → Prop) → α → List Value → Prop
  rd : ∀ {w S x vs}, O w S x vs → F.R w S x vs
  keep : ∀ {w w' S x vs}, O w S x vs → SameB S w w' → O w' S x vs
  more : ∀ {w S S' x vs}, O w S x vs → (∀ b, S b → S' b) → O w S' x vs
def intO : Owd Int where
  F := intR
  O w S x vs := intR.R w S x vs
  rd h := h
  keep h _ := h
  more h _ := h
def txtO : Owd ByteArray where
  F := txtR
  O w S x vs := txtR.R w S x vs
  rd h := h
  keep h _ := h
  more h _ := h
def tmO : Owd Tm where
  F := tmR
  O w S x vs := tmR.R w S x vs
  rd h := h
  keep h _ := h
  more h _ := h
def mtO : Owd Mt where
  F := mtR
  O w S x vs := mtR.R w S x vs
  rd h := h
  keep h _ := h
  more h _ := h
/-- The slice (A, n, c) of elements of the type T owns a row that reads as xs, the elements apart. -/
structure OL {α : Type} (G : Owd α) (T : TypeId) (w : World) (S : Nat → Prop) (A : Option Addr) (n c : Nat) (xs : List α) : Prop where
  len : xs.length = n
  top : ∀ g, (Value.slice A n c).ownBlock = some g → S g
  row : ∃ (vs : List Value) (E : Nat → Nat → Prop), w.ownsRow 0 T G.F.width (.slice A n c) n vs ∧ (∀ j x, xs[j]? = some x → G.O w (E j) x ((vs.drop (j * G.F.width)).take G.F.width)) ∧
    (∀ j b, j < n → E j b → S b ∧ (Value.slice A n c).ownBlock ≠ some b) ∧ ∀ i j b, i < n → j < n → i ≠ j → E i b → ¬ E j b
theorem OL.nil {α : Type} {G : Owd α} {T : TypeId} {w : World} {S : Nat → Prop} : OL G T w S none 0 0 [] :=
  ⟨rfl, fun g h => by simp [Value.ownBlock] at h, [], fun _ _ => False, World.ownsRow_nil _ _ _ _, fun j x h => by simp at h, fun j b h => by omega, fun i j b h => by omega⟩
theorem OL.cap {α : Type} {G : Owd α} {T : TypeId} {w : World} {S : Nat → Prop} {A : Option Addr} {n c : Nat} {xs : List α} (h : OL G T w S A n c xs) : n ≤ c ∧ c ≤ maxLen := by
  obtain ⟨_, _, vs, E, h1, _⟩ := h
  exact own_cap h1
theorem OL.keep {α : Type} {G : Owd α} {T : TypeId} {w w' : World} {S : Nat → Prop} {A : Option Addr} {n c : Nat} {xs : List α} (h : OL G T w S A n c xs) (hk : SameB S w w') : OL G T w' S A n c xs := by
  obtain ⟨hl, ht, vs, E, h1, h2, h3, h4⟩ := h
  exact ⟨hl, ht, vs, E, own_sameB h1 hk ht, fun j x hx => G.keep (h2 j x hx) (hk.more fun b hb => (h3 j b (by rw [← hl]; exact (List.getElem?_eq_some_iff.1 hx).1) hb).1), h3, h4⟩
theorem OL.more {α : Type} {G : Owd α} {T : TypeId} {w : World} {S S' : Nat → Prop} {A : Option Addr} {n c : Nat} {xs : List α} (h : OL G T w S A n c xs) (hS : ∀ b, S b → S' b) : OL G T w S' A n c xs := by
  obtain ⟨hl, ht, vs, E, h1, h2, h3, h4⟩ := h
  exact ⟨hl, fun g hg => hS g (ht g hg), vs, E, h1, h2, fun j b hj hb => ⟨hS b (h3 j b hj hb).1, (h3 j b hj hb).2⟩, h4⟩
theorem OL.lrow {α : Type} {G : Owd α} {T : TypeId} {w : World} {S : Nat → Prop} {A : Option Addr} {n c : Nat} {xs : List α} (h : OL G T w S A n c xs) : LRow G.F w S A xs := by
  obtain ⟨hl, ht, vs, E, h1, h2, h3, h4⟩ := h
  refine ⟨vs, SRow.of_own h1 S ht, by rw [hl]; exact h1.1, fun k x hx => G.F.more (G.rd (h2 k x hx)) fun b hb => (h3 k b (by rw [← hl]; exact (List.getElem?_eq_some_iff.1 hx).1) hb).1⟩
/-- A list of records as one cell. -/
def listO {α : Type} (G : Owd α) (T : TypeId) : Owd (List α) where
  F := listR G.F
  O w S x vs := ∃ A c, vs = [.slice A x.length c] ∧ OL G T w S A x.length c x
  rd h := by obtain ⟨A, c, rfl, h⟩ := h; exact ⟨A, c, rfl, h.cap.1, h.cap.2, h.lrow⟩
  keep h hk := by obtain ⟨A, c, rfl, h⟩ := h; exact ⟨A, c, rfl, h.keep hk⟩
  more h hS := by obtain ⟨A, c, rfl, h⟩ := h; exact ⟨A, c, rfl, h.more hS⟩
theorem chunk_pre {pre cs post : List Value} {k j d : Nat} (hp : pre.length = k * d) (hj : j < k) : ((pre ++ (cs ++ post)).drop (j * d)).take d = (pre.drop (j * d)).take d := by
  have hle : (j + 1) * d ≤ k * d := Nat.mul_le_mul_right _ hj
  rw [Nat.succ_mul] at hle
  rw [List.drop_append_of_le_length (by omega), List.take_append_of_le_length (by rw [List.length_drop]; omega)]
theorem chunk_post {pre cs post : List Value} {k j d : Nat} (hp : pre.length = k * d) (hc : cs.length = d) (hj : k < j) : ((pre ++ (cs ++ post)).drop (j * d)).take d = (post.drop (j * d - (k + 1) * d)).take d := by
  have hle : (k + 1) * d ≤ j * d := Nat.mul_le_mul_right _ hj
  have h2 : (k + 1) * d = k * d + d := Nat.succ_mul _ _
  rw [List.drop_append, List.drop_eq_nil_of_le (by omega), List.nil_append, List.drop_append, List.drop_eq_nil_of_le (by omega), List.nil_append]
  congr 2
  omega
/-- One element of an owned list, and the list with the element turned. -/
theorem OL.open_ {α : Type} {G : Owd α} {T : TypeId} {w : World} {S : Nat → Prop} {A : Option Addr} {n c k : Nat} {xs : List α} {x : α} (h : OL G T w S A n c xs) (hx : xs[k]? = some x) :
    ∃ (g : Nat) (pre cs post : List Value) (E : Nat → Prop), A = some ⟨g, 0, none⟩ ∧ S g ∧ ¬ E g ∧ (∀ b, E b → S b) ∧ pre.length = k * G.F.width ∧ g < w.heap.size ∧
      w.ownsRow 0 T G.F.width (.slice (some ⟨g, 0, none⟩) n c) n (pre ++ (cs ++ post)) ∧ G.O w E x cs ∧
      ∀ w' cs' x', w'.ownsRow 0 T G.F.width (.slice (some ⟨g, 0, none⟩) n c) n (pre ++ (cs' ++ post)) → G.O w' E x' cs' → TurnS (fun b => b = g ∨ E b) w w' → OL G T w' S A n c (xs.set k x') := by
  obtain ⟨hl, ht, vs, E, h1, h2, h3, h4⟩ := h
  have hk := (List.getElem?_eq_some_iff.1 hx).1
  have hw := G.F.pos
  have hle : (k + 1) * G.F.width ≤ n * G.F.width := Nat.mul_le_mul_right _ (by omega)
  have h0 := h1.1
  rw [Nat.succ_mul] at hle
  rcases h1.2 with ⟨_, hn⟩ | ⟨g, cap, cur, e, _, hg, _⟩
  · omega
  injection e with e1 _ e3
  subst e1 e3
  have hgS := ht g rfl
  refine ⟨g, vs.take (k * G.F.width), (vs.drop (k * G.F.width)).take G.F.width, (vs.drop (k * G.F.width)).drop G.F.width, E k, rfl, hgS, fun hE => (h3 k g (by omega) hE).2 rfl, fun b hb => (h3 k b (by omega) hb).1, by rw [List.length_take]; omega, (Array.getElem?_eq_some_iff.1 hg).1, ?_, h2 k x hx, ?_⟩
  · rw [List.take_append_drop, List.take_append_drop]; exact h1
  · intro w' cs' x' ho hO hT
    have hc' : cs'.length = G.F.width := G.F.len (G.rd hO)
    have hcl : ((vs.drop (k * G.F.width)).take G.F.width).length = G.F.width := by rw [List.length_take, List.length_drop]; omega
    have hpl : (vs.take (k * G.F.width)).length = k * G.F.width := by rw [List.length_take]; omega
    have hvs : vs = vs.take (k * G.F.width) ++ ((vs.drop (k * G.F.width)).take G.F.width ++ (vs.drop (k * G.F.width)).drop G.F.width) := by rw [List.take_append_drop, List.take_append_drop]
    refine ⟨by simpa using hl, ht, _, E, ho, fun j y hy => ?_, h3, h4⟩
    by_cases e : j = k
    · subst e
      rw [List.getElem?_set_self hk] at hy
      injection hy with hy
      subst hy
      have e2 : ((vs.take (j * G.F.width) ++ (cs' ++ (vs.drop (j * G.F.width)).drop G.F.width)).drop (j * G.F.width)).take G.F.width = cs' := by
        rw [List.drop_left' hpl, List.take_left' hc']
      rw [e2]; exact hO
    · rw [List.getElem?_set_ne (Ne.symm e)] at hy
      have hjn : j < n := by rw [← hl]; exact (List.getElem?_eq_some_iff.1 hy).1
      have hj := h2 j y hy
      have hsame : ((vs.take (k * G.F.width) ++ (cs' ++ (vs.drop (k * G.F.width)).drop G.F.width)).drop (j * G.F.width)).take G.F.width = (vs.drop (j * G.F.width)).take G.F.width := by
        rcases Nat.lt_or_gt_of_ne e with hlt | hgt
        · rw [chunk_pre hpl hlt]
          conv => rhs; rw [hvs]
          rw [chunk_pre hpl hlt]
        · rw [chunk_post hpl hc' hgt]
          conv => rhs; rw [hvs]
          rw [chunk_post hpl hcl hgt]
      rw [hsame]
      refine G.keep hj (SameB.of_turn hT fun b hb => ?_)
      rintro (rfl | hE)
      · exact (h3 j b hjn hb).2 rfl
      · exact h4 j k b hjn (by omega) e hb hE
theorem set_block {pre cs post : List Value} {p j : Nat} {v : Value} (hp : pre.length = p) (hj : j < cs.length) : (pre ++ (cs ++ post)).set (p + j) v = pre ++ (cs.set j v ++ post) := by
  subst hp
  rw [List.set_append_right _ _ (by omega), show pre.length + j - pre.length = j by omega, List.set_append_left _ _ hj]
/-- A cell of the element in place k. -/
theorem own_part {w : World} {T : TypeId} {d g n c k j p : Nat} {pre cs post : List Value} {v : Value} (h : w.ownsRow 0 T d (.slice (some ⟨g, 0, none⟩) n c) n (pre ++ (cs ++ post))) (hp : pre.length = k * d) (e : p = k * d + j) (hj : cs[j]? = some v) (hc : cs.length = d) (hk : k < n) :
    w.cell? ⟨g, p, none⟩ = some v ∧ w.frozen? ⟨g, p, none⟩ = false := by
  subst e
  have hjl := (List.getElem?_eq_some_iff.1 hj).1
  have hle : (k + 1) * d ≤ n * d := Nat.mul_le_mul_right _ hk
  rw [Nat.succ_mul] at hle
  refine ⟨?_, h.frozenAt _⟩
  rw [h.cellAt _ (by omega), List.getElem?_append_right (by omega), hp, show k * d + j - k * d = j by omega, List.getElem?_append_left hjl]
  exact hj
theorem own_store {w : World} {T : TypeId} {d g n c k j p : Nat} {pre cs post : List Value} (h : w.ownsRow 0 T d (.slice (some ⟨g, 0, none⟩) n c) n (pre ++ (cs ++ post))) (hp : pre.length = k * d) (e : p = k * d + j) (hj : j < cs.length) (v : Value) :
    (w.setCell ⟨g, p, none⟩ v).ownsRow 0 T d (.slice (some ⟨g, 0, none⟩) n c) n (pre ++ (cs.set j v ++ post)) ∧ TurnS (fun b => b = g) w (w.setCell ⟨g, p, none⟩ v) := by
  subst e
  have := h.stored (k * d + j) v
  rw [set_block hp hj] at this
  exact ⟨this.1, TurnS.of_grown this.2 rfl⟩
theorem SameB.refl (S : Nat → Prop) (w : World) : SameB S w w := fun _ _ _ => rfl
theorem SameB.setCell {S : Nat → Prop} {w w1 : World} {b o : Nat} {v : Value} (h : SameB S w w1) (hb : ¬ S b) : SameB S w (w1.setCell ⟨b, o, none⟩ v) := by
  intro b' hS hlt
  refine (heap_setCell_other w1 ⟨b, o, none⟩ b' v (fun e => ?_)).trans (h b' hS hlt)
  have e' : b' = b := e
  subst e'
  exact hb hS
def cpO : Owd Cp where
  F := cpR
  O w S x vs := ∃ A c, vs = [.int .i64 x.d, .slice A x.vs.length c] ∧ OL intO 2 w S A x.vs.length c x.vs
  rd h := by obtain ⟨A, c, rfl, h⟩ := h; exact ⟨A, c, rfl, h.cap.1, h.cap.2, h.lrow⟩
  keep h hk := by obtain ⟨A, c, rfl, h⟩ := h; exact ⟨A, c, rfl, h.keep hk⟩
  more h hS := by obtain ⟨A, c, rfl, h⟩ := h; exact ⟨A, c, rfl, h.more hS⟩
/-- A record of the call's own, handed back by value, its memory its own. -/
def MadeRO {α : Type} (G : Owd α) (x : α) (w : World) (e : Ending) (w' : World) : Prop := ∃ cs : List Value, e = .returned (.agg cs.toArray) ∧ G.O w' (In w.heap.size w'.heap.size) x cs ∧ Below w.heap.size w w'
theorem MadeRO.weak {α : Type} {G : Owd α} {x : α} {w w' : World} {e : Ending} (h : MadeRO G x w e w') : MadeR G.F x w e w' := by
  obtain ⟨cs, he, hO, hb⟩ := h
  exact ⟨cs, he, G.rd hO, hb⟩
/-- A slice of records of the call's own, its memory its own. -/
def MadeLO {α : Type} (G : Owd α) (T : TypeId) (xs : List α) (w : World) (e : Ending) (w' : World) : Prop :=
  e = .returned (.slice (some ⟨w.heap.size, 0, none⟩) xs.length xs.length) ∧ OL G T w' (In w.heap.size w'.heap.size) (some ⟨w.heap.size, 0, none⟩) xs.length xs.length xs ∧ Below w.heap.size w w'
theorem MadeLO.weak {α : Type} {G : Owd α} {T : TypeId} {xs : List α} {w w' : World} {e : Ending} (h : MadeLO G T xs w e w') : MadeL G.F xs w e w' := ⟨h.1, h.2.1.lrow, h.2.2⟩
/-- The first k elements of a list that is being made, in blocks from lo + 1 on, apart. -/
def MadeO {α : Type} (G : Owd α) (w : World) (lo k : Nat) (vs : List Value) (xs : List α) : Prop :=
  ∃ E : Nat → Nat → Prop, (∀ j y, j < k → xs[j]? = some y → G.O w (E j) y ((vs.drop (j * G.F.width)).take G.F.width)) ∧ (∀ j b, j < k → E j b → lo + 1 ≤ b ∧ b < w.heap.size) ∧ ∀ i j b, i < k → j < k → i ≠ j → E i b → ¬ E j b
theorem MadeO.zero {α : Type} (G : Owd α) (w : World) (lo : Nat) (vs : List Value) (xs : List α) : MadeO G w lo 0 vs xs := ⟨fun _ _ => False, fun j y h => by omega, fun j b h => by omega, fun i j b h => by omega⟩
theorem madeO_step {α : Type} (G : Owd α) {wr w2 w3 : World} {lo k : Nat} {vs cs : List Value} {xs : List α} {x : α} (hl : vs.length = k * G.F.width) (hR : G.O w2 (In wr.heap.size w2.heap.size) x cs) (hx : xs[k]? = some x)
    (ho : MadeO G wr lo k vs xs) (hb : Below wr.heap.size wr w2) (hlo : lo + 1 ≤ wr.heap.size) (hg : w2.grownBy w3 (some lo)) :
    (vs ++ cs).length = (k + 1) * G.F.width ∧ MadeO G w3 lo (k + 1) (vs ++ cs) xs := by
  have hcl := G.F.len (G.rd hR)
  have h23 := hg.size
  have h12 := hb.size
  obtain ⟨E, h1, h2, h3⟩ := ho
  have keep3 : ∀ S : Nat → Prop, (∀ b, S b → lo + 1 ≤ b) → SameB S w2 w3 := fun S hS b hb hlt => hg.block b hlt fun e => by injection e with e; have := hS b hb; omega
  refine ⟨by rw [List.length_append, hl, hcl, Nat.succ_mul], fun j => if j = k then In wr.heap.size w2.heap.size else E j, fun j y hj hy => ?_, fun j b hj hE => ?_, fun i j b hi hj hne hE hE2 => ?_⟩
  · by_cases e : j = k
    · subst e
      obtain rfl : y = x := by have := hy.symm.trans hx; injection this
      rw [← hl, List.drop_left, List.take_of_length_le (by omega)]
      simp only [if_true]
      exact G.keep hR (keep3 _ fun b h => by have := h.1; omega)
    · have hj' : j < k := by omega
      have hO := h1 j y hj' hy
      have hle : (j + 1) * G.F.width ≤ k * G.F.width := Nat.mul_le_mul_right _ hj'
      rw [Nat.succ_mul] at hle
      rw [List.drop_append_of_le_length (by omega), List.take_append_of_le_length (by rw [List.length_drop]; omega)]
      simp only [if_neg e]
      exact G.keep (G.keep hO (SameB.of_below hb)) (keep3 _ fun b h => (h2 j b hj' h).1)
  · by_cases e : j = k
    · simp only [if_pos e] at hE
      exact ⟨by have := hE.1; omega, by have := hE.2; omega⟩
    · simp only [if_neg e] at hE
      have := h2 j b (by omega) hE
      exact ⟨this.1, by omega⟩
  · by_cases ei : i = k
    · simp only [if_pos ei] at hE
      by_cases ej : j = k
      · omega
      · simp only [if_neg ej] at hE2
        have := h2 j b (by omega) hE2
        have := hE.1
        omega
    · simp only [if_neg ei] at hE
      by_cases ej : j = k
      · simp only [if_pos ej] at hE2
        have := h2 i b (by omega) hE
        have := hE2.1
        omega
      · simp only [if_neg ej] at hE2
        exact h3 i j b (by omega) (by omega) hne hE hE2
theorem madeO_done {α : Type} (G : Owd α) {w' : World} {lo n c : Nat} {T : TypeId} {vs : List Value} {xs : List α} (hl : xs.length = n) (hown : w'.ownsRow lo T G.F.width (.slice (some ⟨lo, 0, none⟩) n c) n vs)
    (ho : MadeO G w' lo n vs xs) : OL G T w' (In lo w'.heap.size) (some ⟨lo, 0, none⟩) n c xs := by
  obtain ⟨E, h1, h2, h3⟩ := ho
  exact ⟨hl, fun g e => by cases e; exact ⟨Nat.le_refl _, (hown.lt _ rfl).2⟩, vs, E, own_low hown (Nat.zero_le _), fun j x hx => h1 j x (by have := (List.getElem?_eq_some_iff.1 hx).1; omega) hx,
    fun j b hj hE => ⟨⟨by have := h2 j b hj hE; omega, (h2 j b hj hE).2⟩, fun e => by have h := h2 j b hj hE; simp [Value.ownBlock] at e; omega⟩, h3⟩
/-- How a kind of record is marked: what it holds behind the marks from k on, and how many marks it takes. -/
structure Mk (α : Type) where
  md : Int → α → α
  cnt : α → Nat
def cntL {α : Type} (M : Mk α) : List α → Nat
  | [] => 0
  | x :: xs => M.cnt x + cntL M xs
def mkL {α : Type} (M : Mk α) : Int → List α → List α
  | _, [] => []
  | k, x :: xs => M.md k x :: mkL M (k + M.cnt x) xs
def listM {α : Type} (M : Mk α) : Mk (List α) := ⟨mkL M, cntL M⟩
theorem mkL_length {α : Type} (M : Mk α) : ∀ (xs : List α) (k : Int), (mkL M k xs).length = xs.length := by
  intro xs
  induction xs with
  | nil => intro k; rfl
  | cons x xs ih => intro k; simp [mkL, ih]
theorem cntL_append {α : Type} (M : Mk α) (a b : List α) : cntL M (a ++ b) = cntL M a + cntL M b := by
  induction a with
  | nil => simp [cntL]
  | cons x a ih => simp [cntL, ih, Nat.add_assoc]
theorem cntL_succ {α : Type} {M : Mk α} {xs : List α} {k : Nat} {x : α} (h : xs[k]? = some x) : cntL M (xs.take (k + 1)) = cntL M (xs.take k) + M.cnt x := by
  rw [take_one _ _ _ h, cntL_append]; simp [cntL]
theorem cntL_take {α : Type} {M : Mk α} (xs : List α) (k : Nat) : cntL M (xs.take k) ≤ cntL M xs := by
  have := cntL_append M (xs.take k) (xs.drop k)
  rw [List.take_append_drop] at this
  omega
theorem mkL_append {α : Type} (M : Mk α) : ∀ (a b : List α) (k : Int), mkL M k (a ++ b) = mkL M k a ++ mkL M (k + cntL M a) b := by
  intro a
  induction a with
  | nil => intro b k; simp [mkL, cntL]
  | cons x a ih => intro b k; simp only [mkL, cntL, List.cons_append, ih]; congr 3; omega
theorem mkL_at {α : Type} {M : Mk α} {xs : List α} {k0 : Int} {k : Nat} {x : α} (h : xs[k]? = some x) : (mkL M k0 xs)[k]? = some (M.md (k0 + cntL M (xs.take k)) x) := by
  have hk := (List.getElem?_eq_some_iff.1 h).1
  have e : xs = xs.take k ++ (x :: xs.drop (k + 1)) := by rw [← drop_one _ _ _ h, List.take_append_drop]
  have hl : (mkL M k0 (xs.take k)).length = k := by rw [mkL_length, List.length_take]; omega
  conv => lhs; rw [e]
  rw [mkL_append, List.getElem?_append_right (by omega), hl, Nat.sub_self]
  rfl
/-- Up to place k marked, from there on as it was. -/
def midL {α : Type} (M : Mk α) (k0 : Int) (xs : List α) (k : Nat) : List α := (mkL M k0 xs).take k ++ xs.drop k
theorem midL_zero {α : Type} (M : Mk α) (k0 : Int) (xs : List α) : midL M k0 xs 0 = xs := by simp [midL]
theorem midL_all {α : Type} {M : Mk α} {k0 : Int} {xs : List α} {n : Nat} (h : xs.length = n) : midL M k0 xs n = mkL M k0 xs := by
  unfold midL
  rw [List.take_of_length_le (by rw [mkL_length]; omega), List.drop_eq_nil_of_le (by omega), List.append_nil]
theorem midL_at {α : Type} {M : Mk α} {k0 : Int} {xs : List α} {k : Nat} {x : α} (h : xs[k]? = some x) : (midL M k0 xs k)[k]? = some x := by
  have hk := (List.getElem?_eq_some_iff.1 h).1
  have hl : ((mkL M k0 xs).take k).length = k := by rw [List.length_take, mkL_length]; omega
  unfold midL
  rw [List.getElem?_append_right (by omega), hl, Nat.sub_self, List.getElem?_drop]
  simpa using h
theorem midL_succ {α : Type} {M : Mk α} {k0 : Int} {xs : List α} {k : Nat} {x : α} (h : xs[k]? = some x) : (midL M k0 xs k).set k (M.md (k0 + cntL M (xs.take k)) x) = midL M k0 xs (k + 1) := by
  have hk := (List.getElem?_eq_some_iff.1 h).1
  have hl : ((mkL M k0 xs).take k).length = k := by rw [List.length_take, mkL_length]; omega
  unfold midL
  rw [drop_one _ _ _ h, List.set_append_right _ _ (by omega), hl, Nat.sub_self, List.set_cons_zero, take_one _ _ _ (mkL_at h), List.append_assoc]
  rfl
/-- What a marking call answers. -/
def MarkRet {α : Type} (G : Owd α) (T : TypeId) (M : Mk α) (k0 : Int) (S : Nat → Prop) (A : Option Addr) (n c : Nat) (xs : List α) (w : World) (e : Ending) (w' : World) : Prop :=
  e = .returned (.int .i64 (k0 + cntL M xs)) ∧ OL G T w' S A n c (mkL M k0 xs) ∧ TurnS S w w'
end Go.Proofs.YtbailpfjgjcbdaaGreatDoor

namespace Go.Proofs.YtbailpfjgjcbdaaGreatDoor
open Go.RowKit
/-- The decimal digits of n, at most f of them. -/
def dgs : Nat → Nat → List UInt8
  | 0, _ => []
  | f + 1, n => if n = 0 then [] else dgs f (n / 10) ++ [UInt8.ofNat (48 + n % 10)]
theorem dgs_zero : ∀ f, dgs f 0 = [] := by intro f; cases f <;> simp [dgs]
theorem dgs_len : ∀ f n, (dgs f n).length ≤ f := by
  intro f
  induction f with
  | zero => intro n; simp [dgs]
  | succ f ih =>
    intro n
    have := ih (n / 10)
    unfold dgs
    split
    · simp
    · rw [List.length_append]; simpa using this
theorem dgs_step {f n : Nat} (h : 0 < n) : dgs (f + 1) n = dgs f (n / 10) ++ [UInt8.ofNat (48 + n % 10)] := by
  conv => lhs; unfold dgs
  rw [if_neg (by omega)]
def mkT (k : Int) : ByteArray := ⟨(109 :: dgs 20 k.toNat).toArray⟩
theorem mkT_size (k : Int) : (mkT k).size ≤ 21 := by
  have := dgs_len 20 k.toNat
  show (109 :: dgs 20 k.toNat).toArray.size ≤ 21
  simpa using this
def intM : Mk Int := ⟨fun k _ => k, fun _ => 1⟩
def txtM : Mk ByteArray := ⟨fun k _ => mkT k, fun _ => 1⟩
def tmM : Mk Tm := ⟨fun k _ => ⟨k, k + 1⟩, fun _ => 2⟩
def mtM : Mk Mt := ⟨fun k _ => ⟨mkT k, mkT (k + 1), mkT (k + 1 + 1)⟩, fun _ => 3⟩
def cpM : Mk Cp := ⟨fun k x => ⟨k, mkL intM (k + 1) x.vs⟩, fun x => 1 + cntL intM x.vs⟩
def ptM : Mk Pt := ⟨fun k x => ⟨k, k + 1, mkT (k + 1 + 1), mkL (listM tmM) (k + 1 + 1 + 1) x.args⟩, fun x => 3 + cntL (listM tmM) x.args⟩
def dfM : Mk Df := ⟨fun k x => ⟨mkT k, k + 1, mkL ptM (k + 1 + 1) x.body⟩, fun x => 2 + cntL ptM x.body⟩
end Go.Proofs.YtbailpfjgjcbdaaGreatDoor

namespace Go.Proofs.YtbailpfjgjcbdaaGreatDoor
open Go.RowKit
/-- Sets of blocks that are apart. -/
def Ap (E : Nat → Nat → Prop) : Prop := ∀ i j b, i ≠ j → E i b → ¬ E j b
/-- An owned list kept by a write into a box ahead of it and by a later call. -/
theorem OL.carry {α : Type} {G : Owd α} {T : TypeId} {w w2 : World} {lo hi : Nat} {A : Option Addr} {n c : Nat} {xs : List α} {p o : Nat} {v : Value} (h : OL G T w (In lo hi) A n c xs) (hh : hi ≤ w.heap.size) (hp : p < lo) (hb : Below (w.setCell ⟨p, o, none⟩ v).heap.size (w.setCell ⟨p, o, none⟩ v) w2) : OL G T w2 (In lo hi) A n c xs := by
  have hs : (w.setCell ⟨p, o, none⟩ v).heap.size = w.heap.size := by simp [World.setCell]
  have h1 : SameB (In lo hi) w (w.setCell ⟨p, o, none⟩ v) := SameB.setCell (SameB.refl _ _) (by intro h; have := h.1; omega)
  exact (h.keep h1).keep (SameB.of_belowB hb fun b hb2 => by rw [hs]; have := hb2.2; omega)
/-- How many marks a record takes is bounded by how many elements its lists hold. -/
theorem cntL_le {α : Type} {M : Mk α} {f : α → Nat} {a : Nat} (h : ∀ x, M.cnt x ≤ a + 3 * f x) (ha : a ≤ 3) : ∀ xs : List α, cntL M xs ≤ 3 * wL f xs := by
  intro xs
  induction xs with
  | nil => simp [cntL]
  | cons x xs ih =>
    have := h x
    unfold wL at ih ⊢
    simp only [cntL, sW, List.length_cons]
    omega
theorem cnt_int (xs : List Int) : cntL intM xs ≤ 3 * wL wtZ xs := cntL_le (a := 1) (fun _ => by show 1 ≤ 1 + _; omega) (by decide) xs
theorem cnt_txt (xs : List ByteArray) : cntL txtM xs ≤ 3 * wL wtZ xs := cntL_le (a := 1) (fun _ => by show 1 ≤ 1 + _; omega) (by decide) xs
theorem TurnS.cell {S : Nat → Prop} {w w' : World} {b o : Nat} (h : TurnS S w w') (hb : b < w.heap.size) (hn : ¬ S b) : w'.cell? ⟨b, o, none⟩ = w.cell? ⟨b, o, none⟩ := World.cell?_of_block (h.block b hb hn)
/-- The sets between bounds that rise. -/
def ivs (l : List Nat) (i : Nat) : Nat → Prop := In (l.getD i 0) (l.getD (i + 1) 0)
theorem getD_le {l : List Nat} (h : l.Pairwise (· ≤ ·)) {i j : Nat} (hij : i ≤ j) (hj : j < l.length) : l.getD i 0 ≤ l.getD j 0 := by
  rw [List.getD_eq_getElem?_getD, List.getD_eq_getElem?_getD, List.getElem?_eq_getElem hj, List.getElem?_eq_getElem (by omega)]
  show l[i] ≤ l[j]
  rcases Nat.eq_or_lt_of_le hij with e | e
  · subst e; exact Nat.le_refl _
  · exact List.pairwise_iff_getElem.1 h i j _ hj e
theorem getD_out {l : List Nat} {i : Nat} (h : l.length ≤ i) : l.getD i 0 = 0 := by
  rw [List.getD_eq_getElem?_getD, List.getElem?_eq_none h]; rfl
theorem ivs_lt {l : List Nat} {i b : Nat} (h : ivs l i b) : i + 1 < l.length := by
  by_cases e : i + 1 < l.length
  · exact e
  · have h2 := h.2
    rw [getD_out (by omega)] at h2
    omega
theorem ap_ivs {l : List Nat} (h : l.Pairwise (· ≤ ·)) : Ap (ivs l) := by
  intro i j b hne hi hj
  have li := ivs_lt hi
  have lj := ivs_lt hj
  rcases Nat.lt_or_gt_of_ne hne with e | e
  · have h1 := hi.2
    have h2 := hj.1
    have h3 := getD_le h (i := i + 1) (j := j) (by omega) (by omega)
    omega
  · have h1 := hj.2
    have h2 := hi.1
    have h3 := getD_le h (i := j + 1) (j := i) (by omega) (by omega)
    omega
theorem ivs_in {l : List Nat} {i b lo hi : Nat} (h : ∀ x ∈ l, lo ≤ x ∧ x ≤ hi) (hb : ivs l i b) : In lo hi b := by
  have li := ivs_lt hb
  have e : ∀ k, k < l.length → lo ≤ l.getD k 0 ∧ l.getD k 0 ≤ hi := fun k hk => by
    rw [List.getD_eq_getElem?_getD, List.getElem?_eq_getElem hk]
    exact h _ (List.getElem_mem hk)
  have h1 := e i (by omega)
  have h2 := e (i + 1) li
  have h3 := hb.1
  have h4 := hb.2
  exact ⟨by omega, by omega⟩
end Go.Proofs.YtbailpfjgjcbdaaGreatDoor

namespace Go.Proofs.YtbailpfjgjcbdaaGreatDoor
open Go.RowKit
structure Ed where
  f : Int
  l : Int
  t : Int
instance : Inhabited Ed := ⟨⟨0, 0, 0⟩⟩
def edR : Rec Ed where
  R _ _ x vs := vs = [.int .i64 x.f, .int .i64 x.l, .int .i64 x.t]
  width := 3
  pos := by decide
  len h := by rw [h]; rfl
  keep h _ := h
  more h _ := h
def edO : Owd Ed where
  F := edR
  O w S x vs := edR.R w S x vs
  rd h := h
  keep h _ := h
  more h _ := h
def edM : Mk Ed := ⟨fun k _ => ⟨k, k + 1, k + 1 + 1⟩, fun _ => 3⟩
theorem cnt_ed (xs : List Ed) : cntL edM xs ≤ 3 * wL wtZ xs := cntL_le (a := 3) (fun _ => by show 3 ≤ 3 + _; omega) (by decide) xs
end Go.Proofs.YtbailpfjgjcbdaaGreatDoor

namespace Go.Proofs.YtbailpfjgjcbdaaGreatDoor
open Go.RowKit
structure Lt where
  st : Int
  ini : Int
  ls : List ByteArray
  es : List Ed
instance : Inhabited Lt := ⟨⟨0, 0, [], []⟩⟩
def ltR : Rec Lt where
  R w S x vs := ∃ A1 c1 A2 c2, vs = [.int .i64 x.st, .int .i64 x.ini, .slice A1 x.ls.length c1, .slice A2 x.es.length c2] ∧ (x.ls.length ≤ c1 ∧ c1 ≤ maxLen ∧ LRow txtR w S A1 x.ls) ∧ (x.es.length ≤ c2 ∧ c2 ≤ maxLen ∧ LRow edR w S A2 x.es)
  width := 4
  pos := by decide
  len h := by obtain ⟨_, _, _, _, rfl, _⟩ := h; rfl
  keep h hk := by
    obtain ⟨A1, c1, A2, c2, e, ⟨p1, q1, r1⟩, ⟨p2, q2, r2⟩⟩ := h
    exact ⟨A1, c1, A2, c2, e, ⟨p1, q1, r1.keep hk⟩, ⟨p2, q2, r2.keep hk⟩⟩
  more h hS := by
    obtain ⟨A1, c1, A2, c2, e, ⟨p1, q1, r1⟩, ⟨p2, q2, r2⟩⟩ := h
    exact ⟨A1, c1, A2, c2, e, ⟨p1, q1, r1.more hS⟩, ⟨p2, q2, r2.more hS⟩⟩
def okLt (x : Lt) : Prop := okList okTx x.ls ∧ okList okAny x.es
def wtLt (x : Lt) : Nat := wL wtZ x.ls + wL wtZ x.es
def ltO : Owd Lt where
  F := ltR
  O w S x vs := ∃ A1 c1 A2 c2, ∃ E : Nat → Nat → Prop, vs = [.int .i64 x.st, .int .i64 x.ini, .slice A1 x.ls.length c1, .slice A2 x.es.length c2] ∧ OL txtO 9 w (E 0) A1 x.ls.length c1 x.ls ∧ OL edO 79 w (E 1) A2 x.es.length c2 x.es ∧ Ap E ∧ ∀ i b, E i b → S b
  rd h := by
    obtain ⟨A1, c1, A2, c2, E, e, h1, h2, _, hS⟩ := h
    exact ⟨A1, c1, A2, c2, e, ⟨h1.cap.1, h1.cap.2, (h1.more (hS 0)).lrow⟩, ⟨h2.cap.1, h2.cap.2, (h2.more (hS 1)).lrow⟩⟩
  keep h hk := by
    obtain ⟨A1, c1, A2, c2, E, e, h1, h2, ha, hS⟩ := h
    exact ⟨A1, c1, A2, c2, E, e, h1.keep (hk.more (hS 0)), h2.keep (hk.more (hS 1)), ha, hS⟩
  more h hT := by
    obtain ⟨A1, c1, A2, c2, E, e, h1, h2, ha, hS⟩ := h
    exact ⟨A1, c1, A2, c2, E, e, h1, h2, ha, fun i b hb => hT b (hS i b hb)⟩
def ltM : Mk Lt := ⟨fun k x => ⟨x.st, x.ini, mkL txtM (k) x.ls, mkL edM (k + cntL txtM x.ls) x.es⟩, fun x => cntL txtM x.ls + cntL edM x.es⟩
theorem cnt_lt (x : Lt) : ltM.cnt x ≤ 3 * wtLt x := by
  have h1 := cnt_txt x.ls
  have h2 := cnt_ed x.es
  show cntL txtM x.ls + cntL edM x.es ≤ 3 * (wL wtZ x.ls + wL wtZ x.es)
  omega
end Go.Proofs.YtbailpfjgjcbdaaGreatDoor
