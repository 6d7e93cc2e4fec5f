/- Boxes of several words, and records, kept by later worlds. -/
import Derived.WalkKit
import Derived.ProofKit
import Derived.Test.YtbailpfjgjcbdaaGreatDoorLow
namespace Go.Proofs.YtbailpfjgjcbdaaGreatDoor
open Go.RowKit
/-- A box of several words. -/
def Bx (b : Nat) (vs : List Value) (W : World) : Prop := b < W.heap.size ∧ ∀ j v, vs[j]? = some v → W.cell? ⟨b, j, none⟩ = some v
theorem Bx.next {b : Nat} {vs : List Value} {W W' : World} (h : Bx b vs W) (hb : Below W.heap.size W W') : Bx b vs W' :=
  ⟨Nat.lt_of_lt_of_le h.1 hb.size, fun j v hj => (hb.cell (p := ⟨b, j, none⟩) h.1).trans (h.2 j v hj)⟩
theorem Bx.five {b : Nat} {v0 v1 v2 v3 v4 : Value} {W : World} (h : Bx b [v0, v1, v2, v3, v4] W) : W.cell? ⟨b, 0, none⟩ = some v0 ∧ W.cell? ⟨b, 1, none⟩ = some v1 ∧ W.cell? ⟨b, 2, none⟩ = some v2 ∧ W.cell? ⟨b, 3, none⟩ = some v3 ∧ W.cell? ⟨b, 4, none⟩ = some v4 :=
  ⟨h.2 0 _ rfl, h.2 1 _ rfl, h.2 2 _ rfl, h.2 3 _ rfl, h.2 4 _ rfl⟩
theorem Bx.of {b : Nat} {v0 v1 v2 v3 v4 : Value} {W : World} (hb : b < W.heap.size) (h0 : W.cell? ⟨b, 0, none⟩ = some v0) (h1 : W.cell? ⟨b, 1, none⟩ = some v1) (h2 : W.cell? ⟨b, 2, none⟩ = some v2) (h3 : W.cell? ⟨b, 3, none⟩ = some v3) (h4 : W.cell? ⟨b, 4, none⟩ = some v4) : Bx b [v0, v1, v2, v3, v4] W := by
  refine ⟨hb, fun j v hj => ?_⟩
  match j, hj with
  | 0, hj => injection hj with hj; subst hj; exact h0
  | 1, hj => injection hj with hj; subst hj; exact h1
  | 2, hj => injection hj with hj; subst hj; exact h2
  | 3, hj => injection hj with hj; subst hj; exact h3
  | 4, hj => injection hj with hj; subst hj; exact h4
theorem Bx.four {b : Nat} {v0 v1 v2 v3 : Value} {W : World} (h : Bx b [v0, v1, v2, v3] W) : W.cell? ⟨b, 0, none⟩ = some v0 ∧ W.cell? ⟨b, 1, none⟩ = some v1 ∧ W.cell? ⟨b, 2, none⟩ = some v2 ∧ W.cell? ⟨b, 3, none⟩ = some v3 :=
  ⟨h.2 0 _ rfl, h.2 1 _ rfl, h.2 2 _ rfl, h.2 3 _ rfl⟩
theorem Bx.of4 {b : Nat} {v0 v1 v2 v3 : Value} {W : World} (hb : b < W.heap.size) (h0 : W.cell? ⟨b, 0, none⟩ = some v0) (h1 : W.cell? ⟨b, 1, none⟩ = some v1) (h2 : W.cell? ⟨b, 2, none⟩ = some v2) (h3 : W.cell? ⟨b, 3, none⟩ = some v3) : Bx b [v0, v1, v2, v3] W := by
  refine ⟨hb, fun j v hj => ?_⟩
  match j, hj with
  | 0, hj => injection hj with hj; subst hj; exact h0
  | 1, hj => injection hj with hj; subst hj; exact h1
  | 2, hj => injection hj with hj; subst hj; exact h2
  | 3, hj => injection hj with hj; subst hj; exact h3
/-- A reading kept by a later world. -/
theorem Rec.next {α : Type} {F : Rec α} {w w2 : World} {lo : Nat} {x : α} {cs : List Value} (h : F.R w (In lo w.heap.size) x cs) (hb : Below w.heap.size w w2) : F.R w2 (In lo w2.heap.size) x cs :=
  F.more (F.keep h (SameOn.of_below hb fun _ h => h.2)) fun _ h => ⟨h.1, Nat.lt_of_lt_of_le h.2 hb.size⟩
theorem Rec.wide {α : Type} {F : Rec α} {w : World} {lo lo2 : Nat} {x : α} {cs : List Value} (h : F.R w (In lo w.heap.size) x cs) (hl : lo2 ≤ lo) : F.R w (In lo2 w.heap.size) x cs :=
  F.more h fun _ h => ⟨Nat.le_trans hl h.1, h.2⟩
theorem Bx.seven {b : Nat} {v0 v1 v2 v3 v4 v5 v6 : Value} {W : World} (h : Bx b [v0, v1, v2, v3, v4, v5, v6] W) : W.cell? ⟨b, 0, none⟩ = some v0 ∧ W.cell? ⟨b, 1, none⟩ = some v1 ∧ W.cell? ⟨b, 2, none⟩ = some v2 ∧ W.cell? ⟨b, 3, none⟩ = some v3 ∧ W.cell? ⟨b, 4, none⟩ = some v4 ∧ W.cell? ⟨b, 5, none⟩ = some v5 ∧ W.cell? ⟨b, 6, none⟩ = some v6 :=
  ⟨h.2 0 _ rfl, h.2 1 _ rfl, h.2 2 _ rfl, h.2 3 _ rfl, h.2 4 _ rfl, h.2 5 _ rfl, h.2 6 _ rfl⟩
theorem Bx.of7 {b : Nat} {v0 v1 v2 v3 v4 v5 v6 : Value} {W : World} (hb : b < W.heap.size) (h0 : W.cell? ⟨b, 0, none⟩ = some v0) (h1 : W.cell? ⟨b, 1, none⟩ = some v1) (h2 : W.cell? ⟨b, 2, none⟩ = some v2) (h3 : W.cell? ⟨b, 3, none⟩ = some v3) (h4 : W.cell? ⟨b, 4, none⟩ = some v4) (h5 : W.cell? ⟨b, 5, none⟩ = some v5) (h6 : W.cell? ⟨b, 6, none⟩ = some v6) : Bx b [v0, v1, v2, v3, v4, v5, v6] W := by
  refine ⟨hb, fun j v hj => ?_⟩
  match j, hj with
  | 0, hj => injection hj with hj; subst hj; exact h0
  | 1, hj => injection hj with hj; subst hj; exact h1
  | 2, hj => injection hj with hj; subst hj; exact h2
  | 3, hj => injection hj with hj; subst hj; exact h3
  | 4, hj => injection hj with hj; subst hj; exact h4
  | 5, hj => injection hj with hj; subst hj; exact h5
  | 6, hj => injection hj with hj; subst hj; exact h6
end Go.Proofs.YtbailpfjgjcbdaaGreatDoor
