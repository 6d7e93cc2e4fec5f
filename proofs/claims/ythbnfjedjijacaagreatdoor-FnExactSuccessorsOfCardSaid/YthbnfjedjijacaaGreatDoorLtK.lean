/- Lts by value, at opaque cells: measured, copied, compared by the laws' helpers. -/
import Derived.Deep.RegionWith
import Derived.Test.YthbnfjedjijacaaGreatDoorBx
import Derived.Test.YthbnfjedjijacaaGreatDoorLtH
namespace Go.Proofs.YthbnfjedjijacaaGreatDoor
open Go.RowKit
theorem szLtR {x : Lt} {cs : List Value} {w : World} {S : Nat → Prop} {left : Int} (h : ltR.R w S x cs) (hS : ∀ b, S b → b < w.heap.size) (y2 : 0 ≤ left) (y3 : left ≤ 1048576) :
    Calls Tryz.prog 9 #[.agg cs.toArray, .int .i64 left] w (SzRet (okLt x) (wtLt x) left w) := by
  obtain ⟨A1, c1, A2, c2, rfl, ⟨p1, q1, r1⟩, ⟨p2, q2, r2⟩⟩ := h
  exact szDLts_any x A1 A2 c1 c2 S left w (Nat.le_trans p1 q1) (Nat.le_trans p2 q2) r1 r2 hS y2 y3
theorem toLtRO {x : Lt} {cs : List Value} {w : World} {S : Nat → Prop} (h : ltR.R w S x cs) (hS : ∀ b, S b → b < w.heap.size) (ok : okLt x) :
    Calls Tryz.prog 11 #[.agg cs.toArray] w (MadeRO ltO x w) := by
  obtain ⟨A1, c1, A2, c2, rfl, ⟨p1, q1, r1⟩, ⟨p2, q2, r2⟩⟩ := h
  exact toOLts_any x A1 A2 c1 c2 S w  r1 r2 hS ok
theorem eqLtR {x : Lt} {cs ds : List Value} {w : World} {S1 S2 : Nat → Prop} (h : ltR.R w S1 x cs) (g : ltR.R w S2 x ds) (hS1 : ∀ b, S1 b → b < w.heap.size) (hS2 : ∀ b, S2 b → b < w.heap.size) (ok : okLt x) :
    Calls Tryz.prog 13 #[.agg cs.toArray, .agg ds.toArray] w fun e w' => e = .returned (.bool true) ∧ Below w.heap.size w w' := by
  obtain ⟨A1, c1, A2, c2, rfl, ⟨p1, q1, r1⟩, ⟨p2, q2, r2⟩⟩ := h
  obtain ⟨B1, d1, B2, d2, rfl, ⟨s1, t1, u1⟩, ⟨s2, t2, u2⟩⟩ := g
  exact eqDLts_yes x A1 A2 c1 c2 B1 B2 d1 d2 S1 S2 w r1 r2 u1 u2 hS1 hS2 ok
end Go.Proofs.YthbnfjedjijacaaGreatDoor
