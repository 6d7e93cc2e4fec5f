/- Facts of a law's walk over records, kept step by step. -/
import Derived.Test.YthbnfjedjijacaaGreatDoorLow
import Derived.Test.YthbnfjedjijacaaGreatDoorBx
namespace Go.Proofs.YthbnfjedjijacaaGreatDoor
open Go.RowKit
section
variable {v v' : World} {a b lo hi : Nat}
theorem same_nb (hb : Below v.heap.size v v') (h : b ≤ v.heap.size) : SameB (In a b) v v' := SameB.of_belowB hb fun _ k => Nat.lt_of_lt_of_le k.2 h
theorem same_nt (t : TurnS (In lo hi) v v') (h : b ≤ lo ∨ hi ≤ a) : SameB (In a b) v v' := SameB.of_turn t fun _ k k2 => by have := k.1; have := k.2; have := k2.1; have := k2.2; omega
theorem on_same {S : Nat → Prop} (h : SameB S v v') (hS : ∀ b, S b → b < v.heap.size) : SameOn S v v' := fun b _ hb => World.cell?_of_block (h b hb (hS b hb))
theorem OL.nb {α : Type} {G : Owd α} {T : TypeId} {A : Option Addr} {n c : Nat} {xs : List α} (k : OL G T v (In a b) A n c xs) (hb : Below v.heap.size v v') (h : b ≤ v.heap.size) : OL G T v' (In a b) A n c xs := k.keep (same_nb hb h)
theorem OL.nt {α : Type} {G : Owd α} {T : TypeId} {A : Option Addr} {n c : Nat} {xs : List α} (k : OL G T v (In a b) A n c xs) (t : TurnS (In lo hi) v v') (h : b ≤ lo ∨ hi ≤ a) : OL G T v' (In a b) A n c xs := k.keep (same_nt t h)
theorem Owd.nb {α : Type} {G : Owd α} {x : α} {cs : List Value} (k : G.O v (In a b) x cs) (hb : Below v.heap.size v v') (h : b ≤ v.heap.size) : G.O v' (In a b) x cs := G.keep k (same_nb hb h)
theorem Owd.nt {α : Type} {G : Owd α} {x : α} {cs : List Value} (k : G.O v (In a b) x cs) (t : TurnS (In lo hi) v v') (h : b ≤ lo ∨ hi ≤ a) : G.O v' (In a b) x cs := G.keep k (same_nt t h)
theorem LRow.nb {α : Type} {F : Rec α} {A : Option Addr} {xs : List α} (k : LRow F v (In a b) A xs) (hb : Below v.heap.size v v') (h : b ≤ v.heap.size) : LRow F v' (In a b) A xs := k.keep (SameOn.of_below hb fun _ k => Nat.lt_of_lt_of_le k.2 h)
theorem LRow.nt {α : Type} {F : Rec α} {A : Option Addr} {xs : List α} (k : LRow F v (In a b) A xs) (t : TurnS (In lo hi) v v') (h : b ≤ lo ∨ hi ≤ a) (hh : b ≤ v.heap.size) : LRow F v' (In a b) A xs := k.keep (on_same (same_nt t h) fun _ k => Nat.lt_of_lt_of_le k.2 hh)
theorem Rec.nb {α : Type} {F : Rec α} {x : α} {cs : List Value} (k : F.R v (In a b) x cs) (hb : Below v.heap.size v v') (h : b ≤ v.heap.size) : F.R v' (In a b) x cs := F.keep k (SameOn.of_below hb fun _ k => Nat.lt_of_lt_of_le k.2 h)
theorem Rec.nt {α : Type} {F : Rec α} {x : α} {cs : List Value} (k : F.R v (In a b) x cs) (t : TurnS (In lo hi) v v') (h : b ≤ lo ∨ hi ≤ a) (hh : b ≤ v.heap.size) : F.R v' (In a b) x cs := F.keep k (on_same (same_nt t h) fun _ k => Nat.lt_of_lt_of_le k.2 hh)
theorem Bx.nt {p : Nat} {vs : List Value} (k : Bx p vs v) (t : TurnS (In lo hi) v v') (h : p < lo ∨ hi ≤ p) : Bx p vs v' :=
  ⟨Nat.lt_of_lt_of_le k.1 t.size, fun j u hj => (t.cell k.1 (fun k2 => by have := k2.1; have := k2.2; omega)).trans (k.2 j u hj)⟩
theorem Below.nt {w : World} (hb : Below w.heap.size w v) (t : TurnS (In lo hi) v v') (h : w.heap.size ≤ lo) : Below w.heap.size w v' :=
  hb.trans (t.below hb.size fun _ k => Nat.le_trans h k.1)
end
end Go.Proofs.YthbnfjedjijacaaGreatDoor
