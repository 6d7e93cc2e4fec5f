/- Plain words for memory: a slice that reads as a list of one-cell values (nil let in), and what keeps such a reading. -/
/- Rows that the law's own calls have made, each within known bounds of block numbers: what keeps them. -/
/- Plain words for memory: a slice of slices of 64-bit integers that reads as a list of lists. -/
/- Writes within known bounds of block numbers; a slice of slices of the law's own, no two of them sharing memory. -/
import Derived.WalkKit
import Derived.Lib.Hide
import Derived.Deep.Draws
import Derived.Deep.QuietTactic
import Derived.ProofKit
import Derived.Deep.Matrix
namespace Go.Proofs.YtbgmhndmldekbaaDoor
open Go.RowKit
/-- The slice of address A reads as the values vs: where there are any, they lie in a row below block B. -/
def Row (w : World) (B : Nat) (A : Option Addr) (vs : List Value) : Prop :=
  0 < vs.length → ∃ b off, A = some ⟨b, off, none⟩ ∧ b < B ∧ ∀ i v, vs[i]? = some v → w.cell? ⟨b, off + i, none⟩ = some v
theorem Row.nil {w : World} {B : Nat} {A : Option Addr} : Row w B A [] := fun h => absurd h (by simp)
theorem Row.keep {w w' : World} {B : Nat} {A : Option Addr} {vs : List Value} (h : Row w B A vs) (hk : ∀ b o, b < B → w'.cell? ⟨b, o, none⟩ = w.cell? ⟨b, o, none⟩) : Row w' B A vs := by
  intro hp
  obtain ⟨b, off, e, hb, hc⟩ := h hp
  exact ⟨b, off, e, hb, fun i v hv => (hk b _ hb).trans (hc i v hv)⟩
theorem Row.below {w w' : World} {B : Nat} {A : Option Addr} {vs : List Value} (h : Row w B A vs) (hb : Below B w w') : Row w' B A vs :=
  h.keep fun b o hlt => hb.cell (p := ⟨b, o, none⟩) hlt
theorem Row.more {w : World} {B B' : Nat} {A : Option Addr} {vs : List Value} (h : Row w B A vs) (hB : B ≤ B') : Row w B' A vs := by
  intro hp
  obtain ⟨b, off, e, hb, hc⟩ := h hp
  exact ⟨b, off, e, by omega, hc⟩
theorem Row.drewN {w : World} {B : Nat} {A : Option Addr} {vs : List Value} (h : Row w B A vs) (n : Nat) : Row (w.drewN n) B A vs := h
theorem Row.drew {w : World} {B : Nat} {A : Option Addr} {vs : List Value} (h : Row w B A vs) : Row w.drew B A vs := h
theorem Row.at_ {w : World} {B : Nat} {A : Option Addr} {vs : List Value} (h : Row w B A vs) {k : Nat} (hk : k < vs.length) :
    ∃ b off, A = some ⟨b, off, none⟩ ∧ b < B ∧ w.cell? ⟨b, off + k, none⟩ = some vs[k] := by
  obtain ⟨b, off, e, hb, hc⟩ := h (by omega)
  exact ⟨b, off, e, hb, hc k _ (List.getElem?_eq_getElem hk)⟩
theorem below_drewN (w : World) (B n : Nat) : Below B w (w.drewN n) := ⟨rfl, rfl, rfl, Nat.le_refl _, fun _ _ => rfl⟩

/-- The world w' is w, but for draws of an order that Go leaves open. -/
def Drawn (w w' : World) : Prop := ∃ n, w' = w.drewN n
theorem Drawn.refl (w : World) : Drawn w w := ⟨0, rfl⟩
theorem Drawn.drewN {w w' : World} (h : Drawn w w') (n : Nat) : Drawn w (w'.drewN n) := by
  obtain ⟨m, rfl⟩ := h
  exact ⟨m + n, by rw [World.drewN_drewN]⟩
theorem Drawn.drew {w w' : World} (h : Drawn w w') : Drawn w w'.drew := h.drewN 1
theorem Drawn.trans {w w1 w2 : World} (h : Drawn w w1) (h2 : Drawn w1 w2) : Drawn w w2 := by
  obtain ⟨n, rfl⟩ := h2
  exact h.drewN n
theorem Drawn.below {w w' : World} (h : Drawn w w') (B : Nat) : Below B w w' := by
  obtain ⟨n, rfl⟩ := h
  exact below_drewN w B n
theorem Row.drawn {w w' : World} {B : Nat} {A : Option Addr} {vs : List Value} (h : Row w B A vs) (hd : Drawn w w') : Row w' B A vs := h.below (hd.below _)
/-- A slice of 64-bit integers that reads as the list xs. -/
def IRow (w : World) (B : Nat) (A : Option Addr) (xs : List Int) : Prop := Row w B A (xs.map (Value.int .i64))
theorem IRow.below {w w' : World} {B : Nat} {A : Option Addr} {xs : List Int} (h : IRow w B A xs) (hb : Below B w w') : IRow w' B A xs := Row.below h hb
theorem IRow.more {w : World} {B B' : Nat} {A : Option Addr} {xs : List Int} (h : IRow w B A xs) (hB : B ≤ B') : IRow w B' A xs := Row.more h hB
theorem IRow.drawn {w w' : World} {B : Nat} {A : Option Addr} {xs : List Int} (h : IRow w B A xs) (hd : Drawn w w') : IRow w' B A xs := Row.below h (hd.below _)
theorem IRow.drewN {w : World} {B : Nat} {A : Option Addr} {xs : List Int} (h : IRow w B A xs) (n : Nat) : IRow (w.drewN n) B A xs := h
theorem IRow.at_ {w : World} {B : Nat} {A : Option Addr} {xs : List Int} (h : IRow w B A xs) {k : Nat} (hk : k < xs.length) :
    ∃ b off u, A = some ⟨b, off, none⟩ ∧ b < B ∧ w.cell? ⟨b, off + k, none⟩ = some (.int .i64 u) ∧ Hid (xs[k]? = some u) := by
  obtain ⟨b, off, e, hb, hc⟩ := Row.at_ h (k := k) (by simpa using hk)
  exact ⟨b, off, xs[k], e, hb, by simpa using hc, List.getElem?_eq_getElem hk⟩
theorem Row.of_own {w : World} {base : Nat} {T : TypeId} {A : Option Addr} {n c : Nat} {vs : List Value} (h : w.ownsRow base T 1 (.slice A n c) n vs) : Row w w.heap.size A vs := by
  intro hp
  rcases h.2 with ⟨e, hn⟩ | ⟨g, cap, cur, e, hb, hg, hnc, _, hcs, ht⟩
  · have := h.1; omega
  · injection e with e1 e2 e3
    subst e1
    refine ⟨g, 0, rfl, (Array.getElem?_eq_some_iff.1 hg).1, fun i v hv => ?_⟩
    rw [Nat.zero_add, cell_of_row w g i cur T (0, 0) hg]
    rw [← ht, List.getElem?_take] at hv
    split at hv
    · simpa using hv
    · cases hv
/-- What the call owns from base on is kept by a world that is as it was below a greater block number. -/
theorem own_below {w w' : World} {base B : Nat} {T : TypeId} {s n : Nat} {v : Value} {vs : List Value} (h : w.ownsRow base T s v n vs) (hb : Below B w w') (hv : ∀ g, v.ownBlock = some g → g < B) : w'.ownsRow base T s v n vs := by
  refine ⟨h.1, ?_⟩
  rcases h.2 with hn | ⟨g, cap, cur, rfl, hbg, hg, rest⟩
  · exact .inl hn
  · exact .inr ⟨g, cap, cur, rfl, hbg, by rw [hb.block g (hv g rfl)]; exact hg, rest⟩
theorem own_below' {w w' : World} {base : Nat} {T : TypeId} {s n : Nat} {v : Value} {vs : List Value} (h : w.ownsRow base T s v n vs) (hb : Below w.heap.size w w') : w'.ownsRow base T s v n vs :=
  own_below h hb fun g hg => (h.lt g hg).2
theorem own_drawn {w w' : World} {base : Nat} {T : TypeId} {s n : Nat} {v : Value} {vs : List Value} (h : w.ownsRow base T s v n vs) (hb : Drawn w w') : w'.ownsRow base T s v n vs :=
  own_below' h (hb.below _)
theorem grown_trans {w w1 w2 : World} {row : Option Nat} (h : w.grownBy w1 row) (h2 : w1.grownBy w2 row) : w.grownBy w2 row :=
  ⟨h2.os.trans h.os, h2.tape.trans h.tape, h2.output.trans h.output, Nat.le_trans h.size h2.size, fun k hk hne => (h2.block k (Nat.lt_of_lt_of_le hk h.size) hne).trans (h.block k hk hne)⟩
theorem grown_drawn {w w1 : World} {row : Option Nat} (h : Drawn w w1) : w.grownBy w1 row := by
  obtain ⟨n, rfl⟩ := h
  exact ⟨rfl, rfl, rfl, Nat.le_refl _, fun _ _ _ => rfl⟩
/-- A store into a row of the call's own, behind draws. -/
theorem own_put {w w' : World} {base : Nat} {T : TypeId} {s g n c : Nat} {vs vs' : List Value} (h : w.ownsRow base T s (.slice (some ⟨g, 0, none⟩) n c) n vs) (hd : Drawn w w') {k : Nat} {v : Value} (e : vs.set k v = vs') :
    (w'.setCell ⟨g, k, none⟩ v).ownsRow base T s (.slice (some ⟨g, 0, none⟩) n c) n vs' := by
  rw [← e]
  exact ((own_drawn h hd).stored k v).1
/-- A cell of a row of the call's own holds something, and is not frozen. -/
theorem own_some {w : World} {base : Nat} {T : TypeId} {s g n c : Nat} {vs : List Value} (h : w.ownsRow base T s (.slice (some ⟨g, 0, none⟩) n c) n vs) {k : Nat} (hk : k < n * s) : (∃ old, w.cell? ⟨g, k, none⟩ = some old) ∧ w.frozen? ⟨g, k, none⟩ = false := by
  refine ⟨⟨vs[k]'(by rw [h.1]; exact hk), ?_⟩, h.frozenAt k⟩
  rw [h.cellAt k hk]
  exact List.getElem?_eq_getElem _
theorem quiet_same {P : Program} {f : FuncId} {args : Array Value} {w : World} {n : Nat} {v : Value}
    (h : Calls P f args (w.drewN n) fun e w' => e = .returned v ∧ w.drewN n = w') : Calls P f args (w.drewN n) fun e w'' => e = .returned v ∧ ∃ m, w'' = w.drewN m :=
  h.mono fun _ _ ⟨he, hm⟩ => ⟨he, n, hm.symm⟩
theorem quiet_drawn {P : Program} {f : FuncId} {args : Array Value} {w : World} {n : Nat} {v : Value}
    (h : Calls P f args (w.drewN n) fun e w' => e = .returned v ∧ Drawn (w.drewN n) w') : Calls P f args (w.drewN n) fun e w'' => e = .returned v ∧ ∃ m, w'' = w.drewN m :=
  h.mono fun _ _ ⟨he, m, hm⟩ => ⟨he, n + m, by rw [hm, World.drewN_drewN]⟩
theorem quiet_same2 {P : Program} {f : FuncId} {args : Array Value} {w : World} {a n : Nat} {v : Value}
    (h : Calls P f args (w.drewN (a + n)) fun e w' => e = .returned v ∧ w.drewN (a + n) = w') : Calls P f args (w.drewN (a + n)) fun e w'' => e = .returned v ∧ ∃ m, w'' = w.drewN (a + m) :=
  h.mono fun _ _ ⟨he, hm⟩ => ⟨he, n, hm.symm⟩
theorem quiet_drawn2 {P : Program} {f : FuncId} {args : Array Value} {w : World} {a n : Nat} {v : Value}
    (h : Calls P f args (w.drewN (a + n)) fun e w' => e = .returned v ∧ Drawn (w.drewN (a + n)) w') : Calls P f args (w.drewN (a + n)) fun e w'' => e = .returned v ∧ ∃ m, w'' = w.drewN (a + m) :=
  h.mono fun _ _ ⟨he, m, hm⟩ => ⟨he, n + m, by rw [hm, World.drewN_drewN, Nat.add_assoc]⟩
/-- An argument's slice of 64-bit integers, as the frame of a law hands it over, reads as a list. -/
theorem irow_in {w : World} {a : Option Addr} {len cap : Nat} {zs : List Int}
    (h : (a = none ∧ len = 0 ∧ cap = 0 ∧ zs = []) ∨ ∃ x, a = some x ∧ len ≤ cap ∧ cap ≤ maxLen ∧ zs.length = cap ∧ (∀ i, i < zs.length → w.cell? (x.add i) = some (.int .i64 (zs.getD i 0))) ∧ ∀ n ∈ zs, (Lit.int .i64 n).wf = true) :
    IRow w w.heap.size a (zs.take len) ∧ (zs.take len).length = len ∧ ∀ n ∈ zs.take len, (Lit.int .i64 n).wf = true := by
  rcases h with ⟨rfl, rfl, rfl, rfl⟩ | ⟨x, rfl, hl, hm, hz, hc, hwf⟩
  · exact ⟨Row.nil, rfl, by simp⟩
  · refine ⟨fun hp => ?_, by rw [List.length_take]; omega, fun n hn => hwf n (List.mem_of_mem_take hn)⟩
    have hp' : 0 < zs.length := by simp at hp; omega
    obtain ⟨b, off, spot⟩ := x
    have h0 := hc 0 hp'
    have hspot : spot = none := by simpa [Addr.add] using World.cell?_spot h0
    subst hspot
    have h0' : w.cell? ⟨b, off, none⟩ = some (.int .i64 (zs.getD 0 0)) := by simpa [Addr.add] using h0
    refine ⟨b, off, rfl, World.block_lt_of_cell? w _ h0', fun i v hv => ?_⟩
    rw [List.getElem?_map, List.getElem?_take] at hv
    split at hv
    · rcases hi : zs[i]? with _ | u
      · rw [hi] at hv; cases hv
      · rw [hi] at hv
        obtain ⟨hlt, he⟩ := List.getElem?_eq_some_iff.1 hi
        have := hc i hlt
        have hadd : (⟨b, off, none⟩ : Addr).add i = ⟨b, off + i, none⟩ := by unfold Addr.add; split <;> simp_all
        rw [hadd, List.getD_eq_getElem?_getD, hi] at this
        rw [this]
        exact hv
    · cases hv
theorem ret_int {k : IntKind} {a b : Int} (h : a = b) : Ending.returned (.int k a) = .returned (.int k b) := by rw [h]
theorem ret_bool {a b : Bool} (h : a = b) : Ending.returned (.bool a) = .returned (.bool b) := by rw [h]
theorem take_snoc (s : ByteArray) (k : Nat) (h : k < s.size) : s.data.toList.take (k + 1) = s.data.toList.take k ++ [s[k]] := by
  rw [List.take_succ_eq_append_getElem (by simpa using h)]; rfl
theorem take_one {α : Type} (xs : List α) (k : Nat) (u : α) (h : xs[k]? = some u) : xs.take (k + 1) = xs.take k ++ [u] := by
  rw [List.take_add_one, h]; rfl
theorem drop_one {α : Type} (xs : List α) (k : Nat) (u : α) (h : xs[k]? = some u) : xs.drop k = u :: xs.drop (k + 1) := by
  obtain ⟨hk, rfl⟩ := List.getElem?_eq_some_iff.1 h
  exact List.drop_eq_getElem_cons hk
end Go.Proofs.YtbgmhndmldekbaaDoor

namespace Go.Proofs.YtbgmhndmldekbaaDoor
open Go.RowKit
/-- The slice of address A owns a row of the values vs that lies from block lo on and below block hi. -/
structure OwnV (w : World) (lo hi : Nat) (T : TypeId) (s : Nat) (A : Option Addr) (n c : Nat) (vs : List Value) : Prop where
  own : w.ownsRow lo T s (.slice A n c) n vs
  top : ∀ g, (Value.slice A n c).ownBlock = some g → g < hi
theorem OwnV.mk' {w' : World} {lo : Nat} {T : TypeId} {s : Nat} {A : Option Addr} {n c : Nat} {vs : List Value} (h : w'.ownsRow lo T s (.slice A n c) n vs) : OwnV w' lo w'.heap.size T s A n c vs :=
  ⟨h, fun g hg => (h.lt g hg).2⟩
theorem OwnV.below {w w' : World} {lo hi B : Nat} {T : TypeId} {s : Nat} {A : Option Addr} {n c : Nat} {vs : List Value} (h : OwnV w lo hi T s A n c vs) (hb : Below B w w') (hB : hi ≤ B) : OwnV w' lo hi T s A n c vs :=
  ⟨own_below h.own hb fun g hg => Nat.lt_of_lt_of_le (h.top g hg) hB, h.top⟩
/-- A write into another row keeps it. -/
theorem OwnV.grown {w w' : World} {lo hi lo' hi' : Nat} {T T' : TypeId} {s s' : Nat} {A A' : Option Addr} {n c n' c' : Nat} {vs vs' : List Value} (h : OwnV w lo hi T s A n c vs)
    (h' : OwnV w lo' hi' T' s' A' n' c' vs') (hg : w.grownBy w' (Value.slice A' n' c').ownBlock) (hd : hi ≤ lo' ∨ hi' ≤ lo) : OwnV w' lo hi T s A n c vs := by
  refine ⟨h.own.kept hg ?_, h.top⟩
  rcases e : (Value.slice A n c).ownBlock with _ | g
  · exact .inl rfl
  · refine .inr fun e' => ?_
    have h1 := h.top g e
    have h2 := (h.own.lt g e).1
    have h3 := h'.top g e'.symm
    have h4 := (h'.own.lt g e'.symm).1
    omega
theorem OwnV.row {w : World} {lo hi : Nat} {T : TypeId} {A : Option Addr} {n c : Nat} {vs : List Value} (h : OwnV w lo hi T 1 A n c vs) : Row w hi A vs := by
  intro hp
  obtain ⟨b, off, e, hb, hc⟩ := Row.of_own h.own hp
  exact ⟨b, off, e, h.top b (by rw [e]; rfl), hc⟩
/-- A write into a row of the call's own turns nothing below it. -/
theorem OwnV.turns {w w' : World} {lo hi B : Nat} {T : TypeId} {s : Nat} {A : Option Addr} {n c : Nat} {vs : List Value} (h : OwnV w lo hi T s A n c vs) (hg : w.grownBy w' (Value.slice A n c).ownBlock) (hB : B ≤ lo) (hs : lo ≤ w.heap.size) : Below B w w' :=
  (Below.refl B w).grown hg (by omega) fun g e => by have := (h.own.lt g e).1; omega
theorem OwnV.len {w : World} {lo hi : Nat} {T : TypeId} {A : Option Addr} {n c : Nat} {vs : List Value} (h : OwnV w lo hi T 1 A n c vs) : vs.length = n := by have := h.own.1; omega
end Go.Proofs.YtbgmhndmldekbaaDoor

namespace Go.Proofs.YtbgmhndmldekbaaDoor
open Go.RowKit
/-- A slice of slices reads as the list of lists xss. -/
def RRow (w : World) (B : Nat) (A : Option Addr) (xss : List (List Int)) : Prop :=
  ∃ vs : List Value, Row w B A vs ∧ vs.length = xss.length ∧ ∀ (i : Nat) (xs : List Int), xss[i]? = some xs → ∃ (A' : Option Addr) (c' : Nat), vs[i]? = some (Value.slice A' xs.length c') ∧ IRow w B A' xs
theorem RRow.below {w w' : World} {B : Nat} {A : Option Addr} {xss : List (List Int)} (h : RRow w B A xss) (hb : Below B w w') : RRow w' B A xss := by
  obtain ⟨vs, h1, h2, h3⟩ := h
  refine ⟨vs, h1.below hb, h2, fun i xs hi => ?_⟩
  obtain ⟨A', c', e, hr⟩ := h3 i xs hi
  exact ⟨A', c', e, hr.below hb⟩
theorem RRow.drawn {w w' : World} {B : Nat} {A : Option Addr} {xss : List (List Int)} (h : RRow w B A xss) (hd : Drawn w w') : RRow w' B A xss := h.below (hd.below _)
theorem RRow.more {w : World} {B B' : Nat} {A : Option Addr} {xss : List (List Int)} (h : RRow w B A xss) (hB : B ≤ B') : RRow w B' A xss := by
  obtain ⟨vs, h1, h2, h3⟩ := h
  refine ⟨vs, h1.more hB, h2, fun i xs hi => ?_⟩
  obtain ⟨A', c', e, hr⟩ := h3 i xs hi
  exact ⟨A', c', e, hr.more hB⟩
theorem RRow.at_ {w : World} {B : Nat} {A : Option Addr} {xss : List (List Int)} (h : RRow w B A xss) {k : Nat} (hk : k < xss.length) :
    ∃ b off A' c' xs, A = some ⟨b, off, none⟩ ∧ b < B ∧ w.cell? ⟨b, off + k, none⟩ = some (.slice A' xs.length c') ∧ IRow w B A' xs ∧ Hid (xss[k]? = some xs) := by
  obtain ⟨vs, h1, h2, h3⟩ := h
  obtain ⟨b, off, e, hb, hc⟩ := h1.at_ (k := k) (by omega)
  obtain ⟨A', c', e', hr⟩ := h3 k xss[k] (List.getElem?_eq_getElem hk)
  rw [List.getElem?_eq_getElem (by omega)] at e'
  injection e' with e'
  exact ⟨b, off, A', c', xss[k], e, hb, by rw [← e']; exact hc, hr, List.getElem?_eq_getElem hk⟩
theorem spot_none {w : World} {a : Addr} {v : Value} (h : w.cell? (a.add 0) = some v) : ∃ b off, a = ⟨b, off, none⟩ ∧ b < w.heap.size := by
  obtain ⟨b, off, spot⟩ := a
  have hspot : spot = none := by simpa [Addr.add] using World.cell?_spot h
  subst hspot
  have h0 : w.cell? ⟨b, off, none⟩ = some v := by simpa [Addr.add] using h
  exact ⟨b, off, rfl, World.block_lt_of_cell? w _ h0⟩
theorem add_lit (b off i : Nat) : (⟨b, off, none⟩ : Addr).add i = ⟨b, off + i, none⟩ := by unfold Addr.add; split <;> simp_all
theorem range_map_at {α : Type} {f : Nat → α} {n i : Nat} {v : α} (h : ((List.range n).map f)[i]? = some v) : i < n ∧ v = f i := by
  obtain ⟨hlt, he⟩ := List.getElem?_eq_some_iff.1 h
  simp at hlt he
  exact ⟨hlt, he.symm⟩
def JIn (w : World) (a : Option Addr) (len : Nat) : Prop :=
  ∃ xss : List (List Int), RRow w w.heap.size a xss ∧ xss.length = len ∧ len ≤ maxLen ∧ ∀ xs ∈ xss, xs.length ≤ maxLen ∧ ∀ n ∈ xs, (Lit.int .i64 n).wf = true
/-- A slice of slices of 64-bit integers that came in reads as a list of lists. -/
theorem rrow_in {H : Type} {enc : TypeId × Value → H} {P : Program} {W : World} {held : Bool} {t e q : TypeId} {fuel : Nat} {a : Option Addr} {len cap : Nat} {x : DataW H × List MemPlace}
    (ht : P.underlying t = some (.slice e)) (he : P.underlying e = some (.slice q)) (hq : P.underlying q = some (.int .i64)) (ce : P.cellsOf e = 1) (cq : P.cellsOf q = 1)
    (h : DataW.trod enc P W 0 (fun _ => true) held fuel t [.slice a len cap] = some x) :
    ∃ xss : List (List Int), RRow W W.heap.size a xss ∧ xss.length = len ∧ len ≤ maxLen ∧ ∀ xs ∈ xss, xs.length ≤ maxLen ∧ ∀ n ∈ xs, (Lit.int .i64 n).wf = true := by
  rcases Go.Deep.open_int_rows ht he hq ce cq h with ⟨hcs, _⟩ | ⟨a', len', cap', A, L, C, Z, hcs, _, hl, hm, _, hr⟩
  · simp at hcs
    obtain ⟨rfl, rfl, rfl⟩ := hcs
    exact ⟨[], ⟨[], Row.nil, rfl, fun i xs hi => by simp at hi⟩, rfl, Nat.zero_le _, by simp⟩
  · simp at hcs
    obtain ⟨rfl, rfl, rfl⟩ := hcs
    refine ⟨(List.range len).map fun r => (Z r).take (L r), ⟨(List.range len).map fun r => Value.slice (A r) (L r) (C r), fun hp => ?_, by simp, fun i xs hi => ?_⟩, by simp, Nat.le_trans hl hm, ?_⟩
    · simp at hp
      obtain ⟨b, off, rfl, hb⟩ := spot_none (hr 0 (by omega)).1
      refine ⟨b, off, rfl, hb, fun i v hv => ?_⟩
      obtain ⟨hj, rfl⟩ := range_map_at hv
      have := (hr i (by omega)).1
      rwa [add_lit] at this
    · obtain ⟨hj, rfl⟩ := range_map_at hi
      obtain ⟨h1, h2, h3, h4, h5, h6, h7⟩ := hr i (by omega)
      have hlen : ((Z i).take (L i)).length = L i := by rw [List.length_take]; omega
      refine ⟨A i, C i, by simp [hj, h4, h2], fun hp => ?_⟩
      simp [h4] at hp
      rcases hA : A i with _ | a'
      · have := h6 hA; omega
      · have hc := (h7 a' hA).2
        obtain ⟨b, off, rfl, hb⟩ := spot_none (hc 0 (by omega))
        refine ⟨b, off, rfl, hb, fun j v hv => ?_⟩
        rw [List.getElem?_map, List.getElem?_take] at hv
        split at hv
        · rcases hz : (Z i)[j]? with _ | u
          · rw [hz] at hv; cases hv
          · rw [hz] at hv
            have := hc j (by omega)
            rw [add_lit, List.getD_eq_getElem?_getD, hz] at this
            rw [this]; exact hv
        · cases hv
    · intro xs hxs
      simp only [List.mem_map, List.mem_range] at hxs
      obtain ⟨r, hr', rfl⟩ := hxs
      obtain ⟨_, h2, h3, h4, h5, _⟩ := hr r (by omega)
      exact ⟨by rw [List.length_take]; omega, fun n hn => h5 n (List.mem_of_mem_take hn)⟩
end Go.Proofs.YtbgmhndmldekbaaDoor

namespace Go.Proofs.YtbgmhndmldekbaaDoor
open Go.RowKit
/-- From w to w' nothing has turned but blocks from lo on and below hi, and new ones. -/
structure Turns (lo hi : Nat) (w w' : World) : Prop where
  os : w'.os = w.os
  tape : w'.tape = w.tape
  output : w'.output = w.output
  size : w.heap.size ≤ w'.heap.size
  block : ∀ k, k < w.heap.size → k < lo ∨ hi ≤ k → w'.heap[k]? = w.heap[k]?
theorem Turns.refl (lo hi : Nat) (w : World) : Turns lo hi w w := ⟨rfl, rfl, rfl, Nat.le_refl _, fun _ _ _ => rfl⟩
theorem Turns.trans {lo hi : Nat} {a b c : World} (h : Turns lo hi a b) (k : Turns lo hi b c) : Turns lo hi a c :=
  ⟨k.os.trans h.os, k.tape.trans h.tape, k.output.trans h.output, Nat.le_trans h.size k.size, fun i hi' hd => (k.block i (Nat.lt_of_lt_of_le hi' h.size) hd).trans (h.block i hi' hd)⟩
theorem Turns.drawn {lo hi : Nat} {w w' : World} (h : Drawn w w') : Turns lo hi w w' := by
  obtain ⟨n, rfl⟩ := h
  exact ⟨rfl, rfl, rfl, Nat.le_refl _, fun _ _ _ => rfl⟩
theorem Turns.of_grown {lo hi : Nat} {w w' : World} {row : Option Nat} (hg : w.grownBy w' row) (hr : ∀ g, row = some g → lo ≤ g ∧ g < hi) : Turns lo hi w w' :=
  ⟨hg.os, hg.tape, hg.output, hg.size, fun k hk hd => hg.block k hk fun e => by have := hr k e.symm; omega⟩
theorem Turns.below {lo hi B : Nat} {w w' : World} (h : Turns lo hi w w') (hB : B ≤ lo) (hs : B ≤ w.heap.size) : Below B w w' :=
  ⟨h.os, h.tape, h.output, h.size, fun k hk => h.block k (by omega) (.inl (by omega))⟩
theorem OwnV.turn {w w' : World} {lo hi lo' hi' : Nat} {T : TypeId} {s : Nat} {A : Option Addr} {n c : Nat} {vs : List Value} (h : OwnV w lo hi T s A n c vs) (ht : Turns lo' hi' w w') (hd : hi ≤ lo' ∨ hi' ≤ lo) : OwnV w' lo hi T s A n c vs := by
  refine ⟨⟨h.own.1, ?_⟩, h.top⟩
  rcases h.own.2 with hn | ⟨g, cap, cur, e, hb, hg, rest⟩
  · exact .inl hn
  · have h1 := h.top g (by rw [e]; rfl)
    exact .inr ⟨g, cap, cur, e, hb, by rw [ht.block g (Array.getElem?_eq_some_iff.1 hg).1 (by omega)]; exact hg, rest⟩
theorem OwnV.wide {w : World} {lo hi lo' hi' : Nat} {T : TypeId} {s : Nat} {A : Option Addr} {n c : Nat} {vs : List Value} (h : OwnV w lo hi T s A n c vs) (h1 : lo' ≤ lo) (h2 : hi ≤ hi') : OwnV w lo' hi' T s A n c vs := by
  refine ⟨⟨h.own.1, ?_⟩, fun g hg => Nat.lt_of_lt_of_le (h.top g hg) h2⟩
  rcases h.own.2 with hn | ⟨g, cap, cur, e, hb, rest⟩
  · exact .inl hn
  · exact .inr ⟨g, cap, cur, e, Nat.le_trans h1 hb, rest⟩
/-- A write into one row keeps another one that lies in another block. -/
theorem OwnV.apart {w w' : World} {lo hi : Nat} {T : TypeId} {s : Nat} {A : Option Addr} {n c : Nat} {vs : List Value} (h : OwnV w lo hi T s A n c vs) {row : Option Nat} (hg : w.grownBy w' row) (hne : (Value.slice A n c).ownBlock = none ∨ (Value.slice A n c).ownBlock ≠ row) : OwnV w' lo hi T s A n c vs :=
  ⟨h.own.kept hg hne, h.top⟩
/-- Rows of numbers, one for each list, in blocks of their own, none of them the outer row's. -/
structure Inner (w : World) (lo hi : Nat) (A : Option Addr) (n : Nat) (xss : List (List Int)) (G : Nat → Option Addr) (C : Nat → Nat) (R : Nat → TypeId) : Prop where
  own : ∀ i, i < n → OwnV w lo hi (R i) 1 (G i) (xss.getD i []).length (C i) ((xss.getD i []).map (Value.int .i64))
  one : ∀ i j g, i < n → j < n → G i = some ⟨g, 0, none⟩ → G j = some ⟨g, 0, none⟩ → i = j
  out : ∀ i g, i < n → G i = some ⟨g, 0, none⟩ → A ≠ some ⟨g, 0, none⟩
def innerV (xss : List (List Int)) (G : Nat → Option Addr) (C : Nat → Nat) (n : Nat) : List Value := (List.range n).map fun i => .slice (G i) (xss.getD i []).length (C i)
theorem innerV_length (xss : List (List Int)) (G : Nat → Option Addr) (C : Nat → Nat) (n : Nat) : (innerV xss G C n).length = n := by simp [innerV]
theorem innerV_at {xss : List (List Int)} {G : Nat → Option Addr} {C : Nat → Nat} {n i : Nat} (h : i < n) : (innerV xss G C n)[i]? = some (.slice (G i) (xss.getD i []).length (C i)) := by simp [innerV, h]
/-- A slice of slices of the law's own. -/
def OwnVV (w : World) (lo hi : Nat) (A : Option Addr) (n c : Nat) (xss : List (List Int)) : Prop :=
  n = xss.length ∧ ∃ (T : TypeId) (G : Nat → Option Addr) (C : Nat → Nat) (R : Nat → TypeId), OwnV w lo hi T 1 A n c (innerV xss G C n) ∧ Inner w lo hi A n xss G C R
theorem Inner.turn {w w' : World} {lo hi lo' hi' : Nat} {A : Option Addr} {n : Nat} {xss : List (List Int)} {G : Nat → Option Addr} {C : Nat → Nat} {R : Nat → TypeId} (h : Inner w lo hi A n xss G C R) (ht : Turns lo' hi' w w') (hd : hi ≤ lo' ∨ hi' ≤ lo) : Inner w' lo hi A n xss G C R :=
  ⟨fun i hi => (h.own i hi).turn ht hd, h.one, h.out⟩
theorem Inner.below {w w' : World} {lo hi B : Nat} {A : Option Addr} {n : Nat} {xss : List (List Int)} {G : Nat → Option Addr} {C : Nat → Nat} {R : Nat → TypeId} (h : Inner w lo hi A n xss G C R) (hb : Below B w w') (hB : hi ≤ B) : Inner w' lo hi A n xss G C R :=
  ⟨fun i hi => (h.own i hi).below hb hB, h.one, h.out⟩
theorem OwnVV.turn {w w' : World} {lo hi lo' hi' : Nat} {A : Option Addr} {n c : Nat} {xss : List (List Int)} (h : OwnVV w lo hi A n c xss) (ht : Turns lo' hi' w w') (hd : hi ≤ lo' ∨ hi' ≤ lo) : OwnVV w' lo hi A n c xss := by
  obtain ⟨hn, T, G, C, R, h1, h2⟩ := h
  exact ⟨hn, T, G, C, R, h1.turn ht hd, h2.turn ht hd⟩
theorem OwnVV.below {w w' : World} {lo hi B : Nat} {A : Option Addr} {n c : Nat} {xss : List (List Int)} (h : OwnVV w lo hi A n c xss) (hb : Below B w w') (hB : hi ≤ B) : OwnVV w' lo hi A n c xss := by
  obtain ⟨hn, T, G, C, R, h1, h2⟩ := h
  exact ⟨hn, T, G, C, R, h1.below hb hB, h2.below hb hB⟩
theorem OwnVV.row {w : World} {lo hi : Nat} {A : Option Addr} {n c : Nat} {xss : List (List Int)} (h : OwnVV w lo hi A n c xss) : RRow w hi A xss := by
  obtain ⟨hn, T, G, C, R, h1, h2⟩ := h
  refine ⟨innerV xss G C n, h1.row, by rw [innerV_length]; exact hn, fun i xs hi => ?_⟩
  obtain ⟨hlt, rfl⟩ := List.getElem?_eq_some_iff.1 hi
  have e : xss.getD i [] = xss[i] := by rw [List.getD_eq_getElem?_getD, hi]; rfl
  refine ⟨G i, C i, by rw [innerV_at (by omega), e], ?_⟩
  have := (h2.own i (by omega)).row
  rwa [e] at this
theorem OwnVV.len {w : World} {lo hi : Nat} {A : Option Addr} {n c : Nat} {xss : List (List Int)} (h : OwnVV w lo hi A n c xss) : xss.length = n := h.1.symm
theorem OwnVV.nil (w : World) (lo hi : Nat) : OwnVV w lo hi none 0 0 [] :=
  ⟨rfl, 0, fun _ => none, fun _ => 0, fun _ => 0, ⟨World.ownsRow_nil _ _ _ _, fun g hg => by cases hg⟩, ⟨fun i h => by omega, fun i j g h => by omega, fun i g h => by omega⟩⟩
def upd {α : Type} (f : Nat → α) (k : Nat) (v : α) : Nat → α := fun i => if i = k then v else f i
theorem upd_same {α : Type} {f : Nat → α} {k : Nat} {v : α} : upd f k v k = v := by simp [upd]
theorem upd_other {α : Type} {f : Nat → α} {k i : Nat} {v : α} (h : i ≠ k) : upd f k v i = f i := by simp [upd, h]
theorem getD_of {xss : List (List Int)} {k : Nat} {xs : List Int} (h : xss[k]? = some xs) : xss.getD k [] = xs := by rw [List.getD_eq_getElem?_getD, h]; rfl
theorem innerV_snoc {xss : List (List Int)} {G : Nat → Option Addr} {C : Nat → Nat} {k : Nat} {xs : List Int} {A' : Option Addr} {c' : Nat} (h : xss[k]? = some xs) :
    innerV xss (upd G k A') (upd C k c') (k + 1) = innerV xss G C k ++ [.slice A' xs.length c'] := by
  simp only [innerV, List.range_succ, List.map_append, List.map_cons, List.map_nil, upd_same, getD_of h]
  congr 1
  refine List.map_congr_left fun i hi => ?_
  have := List.mem_range.1 hi
  rw [upd_other (by omega), upd_other (by omega)]
theorem OwnV.lt_of {w : World} {lo hi : Nat} {T : TypeId} {s n c g : Nat} {vs : List Value} (h : OwnV w lo hi T s (some ⟨g, 0, none⟩) n c vs) : lo ≤ g ∧ g < hi :=
  ⟨(h.own.lt g rfl).1, h.top g rfl⟩
theorem Inner.snoc {w w1 : World} {lo hi lo2 hi2 : Nat} {A : Option Addr} {k : Nat} {xss : List (List Int)} {G : Nat → Option Addr} {C : Nat → Nat} {R : Nat → TypeId} {T : TypeId} {A' : Option Addr} {c' : Nat} {xs : List Int}
    (h : Inner w lo hi A k xss G C R) (hb : Below hi w w1) (ho : OwnV w1 lo2 hi2 T 1 A' xs.length c' (xs.map (Value.int .i64))) (hx : xss[k]? = some xs) (h1 : lo ≤ lo2) (h2 : hi ≤ lo2) (h3 : hi ≤ hi2)
    (hA : ∀ g, A = some ⟨g, 0, none⟩ → g < lo2) : Inner w1 lo hi2 A (k + 1) xss (upd G k A') (upd C k c') (upd R k T) := by
  refine ⟨fun i hi' => ?_, fun i j g hi' hj' e1 e2 => ?_, fun i g hi' e1 e2 => ?_⟩
  · by_cases e : i = k
    · subst e
      rw [upd_same, upd_same, upd_same, getD_of hx]
      exact ho.wide h1 (Nat.le_refl _)
    · rw [upd_other e, upd_other e, upd_other e]
      exact ((h.own i (by omega)).below hb (Nat.le_refl _)).wide (Nat.le_refl _) h3
  · by_cases ei : i = k <;> by_cases ej : j = k
    · omega
    · exfalso
      subst ei
      rw [upd_same] at e1; rw [upd_other ej] at e2
      subst e1
      have a := ho.lt_of
      have b := h.own j (by omega)
      rw [e2] at b
      have := b.lt_of
      omega
    · exfalso
      subst ej
      rw [upd_same] at e2; rw [upd_other ei] at e1
      subst e2
      have a := ho.lt_of
      have b := h.own i (by omega)
      rw [e1] at b
      have := b.lt_of
      omega
    · rw [upd_other ei] at e1; rw [upd_other ej] at e2
      exact h.one i j g (by omega) (by omega) e1 e2
  · by_cases ei : i = k
    · subst ei
      rw [upd_same] at e1
      subst e1
      have a := ho.lt_of
      have := hA g e2
      omega
    · rw [upd_other ei] at e1
      exact h.out i g (by omega) e1 e2
theorem Inner.zero (w : World) (lo hi : Nat) (A : Option Addr) (xss : List (List Int)) (G : Nat → Option Addr) (C : Nat → Nat) (R : Nat → TypeId) : Inner w lo hi A 0 xss G C R :=
  ⟨fun i h => by omega, fun i j g h => by omega, fun i g h => by omega⟩
end Go.Proofs.YtbgmhndmldekbaaDoor
