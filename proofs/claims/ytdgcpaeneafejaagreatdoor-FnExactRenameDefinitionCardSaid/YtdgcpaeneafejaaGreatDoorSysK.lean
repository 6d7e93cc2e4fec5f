/- Systems by value, at opaque cells: measured, copied, compared by the laws' helpers. -/
import Derived.Deep.RegionWith
import Derived.Test.YtdgcpaeneafejaaGreatDoorPxAD
import Derived.Test.YtdgcpaeneafejaaGreatDoorSysIs
import Derived.Test.YtdgcpaeneafejaaGreatDoorSysIt
import Derived.Test.YtdgcpaeneafejaaGreatDoorSysIe
namespace Go.Proofs.YtdgcpaeneafejaaGreatDoor
open Go.RowKit
theorem szR {x : Sy} {cs : List Value} {w : World} {S : Nat → Prop} {left : Int} (h : syR.R w S x cs) (hS : ∀ b, S b → b < w.heap.size) (z2 : 0 ≤ left) (z3 : left ≤ 1048576) :
    Calls Tryz.prog 9 #[.agg cs.toArray, .int .i64 left] w (SzRet (okSy x) (wtSy x) left w) := by
  obtain ⟨A1, c1, A2, c2, A3, c3, A4, c4, A5, c5, rfl, ⟨p1, q1, r1⟩, ⟨p2, q2, r2⟩, ⟨p3, q3, r3⟩, ⟨p4, q4, r4⟩, ⟨p5, q5, r5⟩⟩ := h
  exact szDSystem_any x A1 A2 A3 A4 A5 c1 c2 c3 c4 c5 S left w (Nat.le_trans p1 q1) (Nat.le_trans p2 q2) (Nat.le_trans p3 q3) (Nat.le_trans p4 q4) (Nat.le_trans p5 q5) r1 r2 r3 r4 r5 hS z2 z3
theorem toR {x : Sy} {cs : List Value} {w : World} {S : Nat → Prop} (h : syR.R w S x cs) (hS : ∀ b, S b → b < w.heap.size) (ok : okSy x) :
    Calls Tryz.prog 11 #[.agg cs.toArray] w (MadeR syR x w) := by
  obtain ⟨A1, c1, A2, c2, A3, c3, A4, c4, A5, c5, rfl, ⟨p1, q1, r1⟩, ⟨p2, q2, r2⟩, ⟨p3, q3, r3⟩, ⟨p4, q4, r4⟩, ⟨p5, q5, r5⟩⟩ := h
  exact toDSystem_any x A1 A2 A3 A4 A5 c1 c2 c3 c4 c5 S w r1 r2 r3 r4 r5 hS ok
theorem eqR {x : Sy} {cs ds : List Value} {w : World} {S1 S2 : Nat → Prop} (h : syR.R w S1 x cs) (g : syR.R w S2 x ds) (hS1 : ∀ b, S1 b → b < w.heap.size) (hS2 : ∀ b, S2 b → b < w.heap.size) (ok : okSy x) :
    Calls Tryz.prog 13 #[.agg cs.toArray, .agg ds.toArray] w fun e w' => e = .returned (.bool true) ∧ Below w.heap.size w w' := by
  obtain ⟨A1, c1, A2, c2, A3, c3, A4, c4, A5, c5, rfl, ⟨p1, q1, r1⟩, ⟨p2, q2, r2⟩, ⟨p3, q3, r3⟩, ⟨p4, q4, r4⟩, ⟨p5, q5, r5⟩⟩ := h
  obtain ⟨B1, d1, B2, d2, B3, d3, B4, d4, B5, d5, rfl, ⟨s1, t1, u1⟩, ⟨s2, t2, u2⟩, ⟨s3, t3, u3⟩, ⟨s4, t4, u4⟩, ⟨s5, t5, u5⟩⟩ := g
  exact eqDSystem_yes x A1 A2 A3 A4 A5 c1 c2 c3 c4 c5 B1 B2 B3 B4 B5 d1 d2 d3 d4 d5 S1 S2 w r1 r2 r3 r4 r5 u1 u2 u3 u4 u5 hS1 hS2 ok
end Go.Proofs.YtdgcpaeneafejaaGreatDoor
