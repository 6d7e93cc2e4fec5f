/- Rows that the law's own calls have made, each within known bounds of block numbers: what keeps them. -/
import Derived.WalkKit
import Derived.Lib.Hide
import Derived.Test.YtjnmndjhlllfkaaMem
namespace Go.Proofs.Ytjnmndjhlllfkaa
open Go.RowKit
/-- The slice of address A owns a row of the values vs that lies from block lo on and below block hi. -/
structure OwnV (w : World) (lo hi : Nat) (T : TypeId) (s : Nat) (A : Option Addr) (n c : Nat) (vs : List Value) : Prop where
  own : w.ownsRow lo T s (.slice A n c) n vs
  top : ∀ g, (Value.slice A n c).ownBlock = some g → g < hi
theorem OwnV.mk' {w' : World} {lo : Nat} {T : TypeId} {s : Nat} {A : Option Addr} {n c : Nat} {vs : List Value} (h : w'.ownsRow lo T s (.slice A n c) n vs) : OwnV w' lo w'.heap.size T s A n c vs :=
  ⟨h, fun g hg => (h.lt g hg).2⟩
theorem OwnV.below {w w' : World} {lo hi B : Nat} {T : TypeId} {s : Nat} {A : Option Addr} {n c : Nat} {vs : List Value} (h : OwnV w lo hi T s A n c vs) (hb : Below B w w') (hB : hi ≤ B) : OwnV w' lo hi T s A n c vs :=
  ⟨own_below h.own hb fun g hg => Nat.lt_of_lt_of_le (h.top g hg) hB, h.top⟩
/-- A write into another row keeps it. -/
theorem OwnV.grown {w w' : World} {lo hi lo' hi' : Nat} {T T' : TypeId} {s s' : Nat} {A A' : Option Addr} {n c n' c' : Nat} {vs vs' : List Value} (h : OwnV w lo hi T s A n c vs)
    (h' : OwnV w lo' hi' T' s' A' n' c' vs') (hg : w.grownBy w' (Value.slice A' n' c').ownBlock) (hd : hi ≤ lo' ∨ hi' ≤ lo) : OwnV w' lo hi T s A n c vs := by
  refine ⟨h.own.kept hg ?_, h.top⟩
  rcases e : (Value.slice A n c).ownBlock with _ | g
  · exact .inl rfl
  · refine .inr fun e' => ?_
    have h1 := h.top g e
    have h2 := (h.own.lt g e).1
    have h3 := h'.top g e'.symm
    have h4 := (h'.own.lt g e'.symm).1
    omega
theorem OwnV.row {w : World} {lo hi : Nat} {T : TypeId} {A : Option Addr} {n c : Nat} {vs : List Value} (h : OwnV w lo hi T 1 A n c vs) : Row w hi A vs := by
  intro hp
  obtain ⟨b, off, e, hb, hc⟩ := Row.of_own h.own hp
  exact ⟨b, off, e, h.top b (by rw [e]; rfl), hc⟩
/-- A write into a row of the call's own turns nothing below it. -/
theorem OwnV.turns {w w' : World} {lo hi B : Nat} {T : TypeId} {s : Nat} {A : Option Addr} {n c : Nat} {vs : List Value} (h : OwnV w lo hi T s A n c vs) (hg : w.grownBy w' (Value.slice A n c).ownBlock) (hB : B ≤ lo) (hs : lo ≤ w.heap.size) : Below B w w' :=
  (Below.refl B w).grown hg (by omega) fun g e => by have := (h.own.lt g e).1; omega
theorem OwnV.len {w : World} {lo hi : Nat} {T : TypeId} {A : Option Addr} {n c : Nat} {vs : List Value} (h : OwnV w lo hi T 1 A n c vs) : vs.length = n := by have := h.own.1; omega
end Go.Proofs.Ytjnmndjhlllfkaa
