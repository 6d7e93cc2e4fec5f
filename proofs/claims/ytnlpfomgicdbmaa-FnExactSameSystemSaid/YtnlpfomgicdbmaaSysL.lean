/- Systems handed over by value: the helpers and both functions at any cells that read as systems. -/
import Derived.Deep.RegionWith
import Derived.Test.YtnlpfomgicdbmaaSysIs
import Derived.Test.YtnlpfomgicdbmaaSysIt
import Derived.Test.YtnlpfomgicdbmaaSysIe
import Derived.Test.YtnlpfomgicdbmaaSameZ
import Derived.Test.YtnlpfomgicdbmaaSameY
namespace Go.Proofs.Ytnlpfomgicdbmaa
open Go.RowKit
set_option maxRecDepth 100000 in
set_option maxHeartbeats 4000000 in
theorem specSame_any (x y : Sy) (A1 A2 A3 A4 A5 : Option Addr) (c1 c2 c3 c4 c5 : Nat) (B1 B2 B3 B4 B5 : Option Addr) (d1 d2 d3 d4 d5 : Nat) (w : World) (S1 S2 : Nat → Prop) (m1 : x.ds.length ≤ maxLen) (m2 : x.cs.length ≤ maxLen) (m3 : x.ms.length ≤ maxLen) (m4 : x.al.length ≤ maxLen) (m5 : x.hd.length ≤ maxLen) (h1 : LRow dfR w S1 A1 x.ds) (h2 : LRow cpR w S1 A2 x.cs) (h3 : LRow mtR w S1 A3 x.ms) (h4 : LRow txtR w S1 A4 x.al) (h5 : LRow txtR w S1 A5 x.hd) (g1 : LRow dfR w S2 B1 y.ds) (g2 : LRow cpR w S2 B2 y.cs) (g3 : LRow mtR w S2 B3 y.ms) (g4 : LRow txtR w S2 B4 y.al) (g5 : LRow txtR w S2 B5 y.hd) (hS1 : ∀ b, S1 b → b < w.heap.size) (hS2 : ∀ b, S2 b → b < w.heap.size) :
    Calls Try.prog 5 #[.agg #[.slice A1 x.ds.length c1, .slice A2 x.cs.length c2, .slice A3 x.ms.length c3, .slice A4 x.al.length c4, .slice A5 x.hd.length c5], .agg #[.slice B1 y.ds.length d1, .slice B2 y.cs.length d2, .slice B3 y.ms.length d3, .slice B4 y.al.length d4, .slice B5 y.hd.length d5]] w fun e w' => e = .returned (.bool (syE x y)) ∧ Below w.heap.size w w' := by
  have C := Lib.hid (fun (W : World) (hW : Below w.heap.size w W) (p1 p2 : Nat) (hp1 : p1 < W.heap.size) (hp2 : p2 < W.heap.size) (pp1 : W.cell? ⟨p1, 0, none⟩ = some (.slice A1 x.ds.length c1)) (pp2 : W.cell? ⟨p1, 1, none⟩ = some (.slice A2 x.cs.length c2)) (pp3 : W.cell? ⟨p1, 2, none⟩ = some (.slice A3 x.ms.length c3)) (pp4 : W.cell? ⟨p1, 3, none⟩ = some (.slice A4 x.al.length c4)) (pp5 : W.cell? ⟨p1, 4, none⟩ = some (.slice A5 x.hd.length c5)) (qq1 : W.cell? ⟨p2, 0, none⟩ = some (.slice B1 y.ds.length d1)) (qq2 : W.cell? ⟨p2, 1, none⟩ = some (.slice B2 y.cs.length d2)) (qq3 : W.cell? ⟨p2, 2, none⟩ = some (.slice B3 y.ms.length d3)) (qq4 : W.cell? ⟨p2, 3, none⟩ = some (.slice B4 y.al.length d4)) (qq5 : W.cell? ⟨p2, 4, none⟩ = some (.slice B5 y.hd.length d5)) => (Calls.mono (l05Same_any p1 p2 x y A1 A2 A3 A4 A5 c1 c2 c3 c4 c5 B1 B2 B3 B4 B5 d1 d2 d3 d4 d5 W S1 S2 m1 m2 m3 m4 m5 (h1.keep (SameOn.of_below hW hS1)) (h2.keep (SameOn.of_below hW hS1)) (h3.keep (SameOn.of_below hW hS1)) (h4.keep (SameOn.of_below hW hS1)) (h5.keep (SameOn.of_below hW hS1)) (g1.keep (SameOn.of_below hW hS2)) (g2.keep (SameOn.of_below hW hS2)) (g3.keep (SameOn.of_below hW hS2)) (g4.keep (SameOn.of_below hW hS2)) (g5.keep (SameOn.of_below hW hS2)) (fun b hb => Nat.lt_of_lt_of_le (hS1 b hb) hW.size) (fun b hb => Nat.lt_of_lt_of_le (hS2 b hb) hW.size) hp1 hp2 pp1 pp2 pp3 pp4 pp5 qq1 qq2 qq3 qq4 qq5) (fun e w' ⟨he, hb⟩ => (⟨he, hW.trans (Below.mono hb hW.size)⟩ : e = Ending.returned (Value.bool (syE x y)) ∧ Below w.heap.size w w'))))
  clear h1 g1 m1 h2 g2 m2 h3 g3 m3 h4 g4 m4 h5 g5 m5 hS1 hS2
  go_enter Try.func5, Try.ntmps5
  go_wp2_with fail
  refine (C.out _ (by repeat (first | exact Below.refl _ _ | refine Below.setCell ?_ (by simp) _ | refine Below.alloc ?_ (by simp <;> omega) _)) _ _ (by simp <;> omega) (by simp <;> omega) (by simp [go_sem]) (by simp [go_sem]) (by simp [go_sem]) (by simp [go_sem]) (by simp [go_sem]) (by simp [go_sem]) (by simp [go_sem]) (by simp [go_sem]) (by simp [go_sem]) (by simp [go_sem])).mono ?_
  rintro e w1 ⟨rfl, b2⟩
  have B2 := Lib.hid b2
  clear b2
  go_wp2
  go_ret
  exact ⟨rfl, B2.out⟩
theorem szR {x : Sy} {cs : List Value} {w : World} {S : Nat → Prop} {left : Int} (h : syR.R w S x cs) (hS : ∀ b, S b → b < w.heap.size) (z2 : 0 ≤ left) (z3 : left ≤ 1048576) :
    Calls Try.prog 4 #[.agg cs.toArray, .int .i64 left] w (SzRet (okSy x) left w) := by
  obtain ⟨A1, c1, A2, c2, A3, c3, A4, c4, A5, c5, rfl, ⟨p1, q1, r1⟩, ⟨p2, q2, r2⟩, ⟨p3, q3, r3⟩, ⟨p4, q4, r4⟩, ⟨p5, q5, r5⟩⟩ := h
  exact szDSystem_any x A1 A2 A3 A4 A5 c1 c2 c3 c4 c5 S left w (Nat.le_trans p1 q1) (Nat.le_trans p2 q2) (Nat.le_trans p3 q3) (Nat.le_trans p4 q4) (Nat.le_trans p5 q5) r1 r2 r3 r4 r5 hS z2 z3
theorem toR {x : Sy} {cs : List Value} {w : World} {S : Nat → Prop} (h : syR.R w S x cs) (hS : ∀ b, S b → b < w.heap.size) (ok : okSy x) :
    Calls Try.prog 6 #[.agg cs.toArray] w (MadeR syR x w) := by
  obtain ⟨A1, c1, A2, c2, A3, c3, A4, c4, A5, c5, rfl, ⟨p1, q1, r1⟩, ⟨p2, q2, r2⟩, ⟨p3, q3, r3⟩, ⟨p4, q4, r4⟩, ⟨p5, q5, r5⟩⟩ := h
  exact toDSystem_any x A1 A2 A3 A4 A5 c1 c2 c3 c4 c5 S w r1 r2 r3 r4 r5 hS ok
theorem eqR {x : Sy} {cs ds : List Value} {w : World} {S1 S2 : Nat → Prop} (h : syR.R w S1 x cs) (g : syR.R w S2 x ds) (hS1 : ∀ b, S1 b → b < w.heap.size) (hS2 : ∀ b, S2 b → b < w.heap.size) (ok : okSy x) :
    Calls Try.prog 8 #[.agg cs.toArray, .agg ds.toArray] w fun e w' => e = .returned (.bool true) ∧ Below w.heap.size w w' := by
  obtain ⟨A1, c1, A2, c2, A3, c3, A4, c4, A5, c5, rfl, ⟨p1, q1, r1⟩, ⟨p2, q2, r2⟩, ⟨p3, q3, r3⟩, ⟨p4, q4, r4⟩, ⟨p5, q5, r5⟩⟩ := h
  obtain ⟨B1, d1, B2, d2, B3, d3, B4, d4, B5, d5, rfl, ⟨s1, t1, u1⟩, ⟨s2, t2, u2⟩, ⟨s3, t3, u3⟩, ⟨s4, t4, u4⟩, ⟨s5, t5, u5⟩⟩ := g
  exact eqDSystem_yes x A1 A2 A3 A4 A5 c1 c2 c3 c4 c5 B1 B2 B3 B4 B5 d1 d2 d3 d4 d5 S1 S2 w r1 r2 r3 r4 r5 u1 u2 u3 u4 u5 hS1 hS2 ok
theorem specR {x y : Sy} {cs ds : List Value} {w : World} {S1 S2 : Nat → Prop} (h : syR.R w S1 x cs) (g : syR.R w S2 y ds) (hS1 : ∀ b, S1 b → b < w.heap.size) (hS2 : ∀ b, S2 b → b < w.heap.size) :
    Calls Try.prog 5 #[.agg cs.toArray, .agg ds.toArray] w fun e w' => e = .returned (.bool (syE x y)) ∧ Below w.heap.size w w' := by
  obtain ⟨A1, c1, A2, c2, A3, c3, A4, c4, A5, c5, rfl, ⟨p1, q1, r1⟩, ⟨p2, q2, r2⟩, ⟨p3, q3, r3⟩, ⟨p4, q4, r4⟩, ⟨p5, q5, r5⟩⟩ := h
  obtain ⟨B1, d1, B2, d2, B3, d3, B4, d4, B5, d5, rfl, ⟨s1, t1, u1⟩, ⟨s2, t2, u2⟩, ⟨s3, t3, u3⟩, ⟨s4, t4, u4⟩, ⟨s5, t5, u5⟩⟩ := g
  exact specSame_any x y A1 A2 A3 A4 A5 c1 c2 c3 c4 c5 B1 B2 B3 B4 B5 d1 d2 d3 d4 d5 w S1 S2 (Nat.le_trans p1 q1) (Nat.le_trans p2 q2) (Nat.le_trans p3 q3) (Nat.le_trans p4 q4) (Nat.le_trans p5 q5) r1 r2 r3 r4 r5 u1 u2 u3 u4 u5 hS1 hS2
theorem implR {x y : Sy} {cs ds : List Value} {w : World} {S1 S2 : Nat → Prop} (h : syR.R w S1 x cs) (g : syR.R w S2 y ds) (hS1 : ∀ b, S1 b → b < w.heap.size) (hS2 : ∀ b, S2 b → b < w.heap.size) :
    Calls Try.prog 7 #[.agg cs.toArray, .agg ds.toArray] w fun e w' => e = .returned (.bool (syE x y)) ∧ Below w.heap.size w w' := by
  obtain ⟨A1, c1, A2, c2, A3, c3, A4, c4, A5, c5, rfl, ⟨p1, q1, r1⟩, ⟨p2, q2, r2⟩, ⟨p3, q3, r3⟩, ⟨p4, q4, r4⟩, ⟨p5, q5, r5⟩⟩ := h
  obtain ⟨B1, d1, B2, d2, B3, d3, B4, d4, B5, d5, rfl, ⟨s1, t1, u1⟩, ⟨s2, t2, u2⟩, ⟨s3, t3, u3⟩, ⟨s4, t4, u4⟩, ⟨s5, t5, u5⟩⟩ := g
  exact implSame_any x y A1 A2 A3 A4 A5 c1 c2 c3 c4 c5 B1 B2 B3 B4 B5 d1 d2 d3 d4 d5 w S1 S2 (Nat.le_trans p1 q1) (Nat.le_trans p2 q2) (Nat.le_trans p3 q3) (Nat.le_trans p4 q4) (Nat.le_trans p5 q5) r1 r2 r3 r4 r5 u1 u2 u3 u4 u5 hS1 hS2
/-- A box of several words. -/
def Bx (b : Nat) (vs : List Value) (W : World) : Prop := b < W.heap.size ∧ ∀ j v, vs[j]? = some v → W.cell? ⟨b, j, none⟩ = some v
theorem Bx.next {b : Nat} {vs : List Value} {W W' : World} (h : Bx b vs W) (hb : Below W.heap.size W W') : Bx b vs W' :=
  ⟨Nat.lt_of_lt_of_le h.1 hb.size, fun j v hj => (hb.cell (p := ⟨b, j, none⟩) h.1).trans (h.2 j v hj)⟩
theorem Bx.five {b : Nat} {v0 v1 v2 v3 v4 : Value} {W : World} (h : Bx b [v0, v1, v2, v3, v4] W) : W.cell? ⟨b, 0, none⟩ = some v0 ∧ W.cell? ⟨b, 1, none⟩ = some v1 ∧ W.cell? ⟨b, 2, none⟩ = some v2 ∧ W.cell? ⟨b, 3, none⟩ = some v3 ∧ W.cell? ⟨b, 4, none⟩ = some v4 :=
  ⟨h.2 0 _ rfl, h.2 1 _ rfl, h.2 2 _ rfl, h.2 3 _ rfl, h.2 4 _ rfl⟩
theorem Bx.of {b : Nat} {v0 v1 v2 v3 v4 : Value} {W : World} (hb : b < W.heap.size) (h0 : W.cell? ⟨b, 0, none⟩ = some v0) (h1 : W.cell? ⟨b, 1, none⟩ = some v1) (h2 : W.cell? ⟨b, 2, none⟩ = some v2) (h3 : W.cell? ⟨b, 3, none⟩ = some v3) (h4 : W.cell? ⟨b, 4, none⟩ = some v4) : Bx b [v0, v1, v2, v3, v4] W := by
  refine ⟨hb, fun j v hj => ?_⟩
  match j, hj with
  | 0, hj => injection hj with hj; subst hj; exact h0
  | 1, hj => injection hj with hj; subst hj; exact h1
  | 2, hj => injection hj with hj; subst hj; exact h2
  | 3, hj => injection hj with hj; subst hj; exact h3
  | 4, hj => injection hj with hj; subst hj; exact h4
/-- A reading kept by a later world. -/
theorem Rec.next {α : Type} {F : Rec α} {w w2 : World} {lo : Nat} {x : α} {cs : List Value} (h : F.R w (In lo w.heap.size) x cs) (hb : Below w.heap.size w w2) : F.R w2 (In lo w2.heap.size) x cs :=
  F.more (F.keep h (SameOn.of_below hb fun _ h => h.2)) fun _ h => ⟨h.1, Nat.lt_of_lt_of_le h.2 hb.size⟩
theorem Rec.wide {α : Type} {F : Rec α} {w : World} {lo lo2 : Nat} {x : α} {cs : List Value} (h : F.R w (In lo w.heap.size) x cs) (hl : lo2 ≤ lo) : F.R w (In lo2 w.heap.size) x cs :=
  F.more h fun _ h => ⟨Nat.le_trans hl h.1, h.2⟩
end Go.Proofs.Ytnlpfomgicdbmaa
