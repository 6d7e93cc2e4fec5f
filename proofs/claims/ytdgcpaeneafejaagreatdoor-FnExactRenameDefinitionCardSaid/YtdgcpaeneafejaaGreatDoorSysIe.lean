/- Systems in the laws' own helpers. -/
import Derived.Test.YtdgcpaeneafejaaGreatDoorSysIs
namespace Go.Proofs.YtdgcpaeneafejaaGreatDoor
open Go.RowKit
set_option maxRecDepth 100000 in
set_option maxHeartbeats 4000000 in
theorem eqDSystem_yes (x : Sy) (A1 A2 A3 A4 A5 : Option Addr) (c1 c2 c3 c4 c5 : Nat) (B1 B2 B3 B4 B5 : Option Addr) (d1 d2 d3 d4 d5 : Nat) (S1 S2 : Nat → Prop) (w : World) (h1 : LRow dfR w S1 A1 x.ds) (h2 : LRow cpR w S1 A2 x.cs) (h3 : LRow mtR w S1 A3 x.ms) (h4 : LRow txtR w S1 A4 x.al) (h5 : LRow txtR w S1 A5 x.hd) (g1 : LRow dfR w S2 B1 x.ds) (g2 : LRow cpR w S2 B2 x.cs) (g3 : LRow mtR w S2 B3 x.ms) (g4 : LRow txtR w S2 B4 x.al) (g5 : LRow txtR w S2 B5 x.hd) (hS1 : ∀ b, S1 b → b < w.heap.size) (hS2 : ∀ b, S2 b → b < w.heap.size) (ok : okSy x) :
    Calls Tryz.prog 13 #[.agg #[.slice A1 x.ds.length c1, .slice A2 x.cs.length c2, .slice A3 x.ms.length c3, .slice A4 x.al.length c4, .slice A5 x.hd.length c5], .agg #[.slice B1 x.ds.length d1, .slice B2 x.cs.length d2, .slice B3 x.ms.length d3, .slice B4 x.al.length d4, .slice B5 x.hd.length d5]] w fun e w' => e = .returned (.bool true) ∧ Below w.heap.size w w' := by
  obtain ⟨ok1, ok2, ok3, ok4, ok5⟩ := ok
  have C1 := Lib.hid (fun (W : World) (hW : Below w.heap.size w W) => (Calls.mono (eqDDefinitionS_yes A1 B1 x.ds.length x.ds.length c1 d1 x.ds W S1 S2 (h1.keep (SameOn.of_below hW hS1)) (g1.keep (SameOn.of_below hW hS2)) (fun b hb => Nat.lt_of_lt_of_le (hS1 b hb) hW.size) (fun b hb => Nat.lt_of_lt_of_le (hS2 b hb) hW.size) rfl rfl ok1) (fun e w' ⟨he, hb⟩ => (⟨he, hW.trans (Below.mono hb hW.size), hb⟩ : e = Ending.returned (Value.bool true) ∧ Below w.heap.size w w' ∧ Below W.heap.size W w'))))
  have C2 := Lib.hid (fun (W : World) (hW : Below w.heap.size w W) => (Calls.mono (eqDComponentS_yes A2 B2 x.cs.length x.cs.length c2 d2 x.cs W S1 S2 (h2.keep (SameOn.of_below hW hS1)) (g2.keep (SameOn.of_below hW hS2)) (fun b hb => Nat.lt_of_lt_of_le (hS1 b hb) hW.size) (fun b hb => Nat.lt_of_lt_of_le (hS2 b hb) hW.size) rfl rfl ok2) (fun e w' ⟨he, hb⟩ => (⟨he, hW.trans (Below.mono hb hW.size), hb⟩ : e = Ending.returned (Value.bool true) ∧ Below w.heap.size w w' ∧ Below W.heap.size W w'))))
  have C3 := Lib.hid (fun (W : World) (hW : Below w.heap.size w W) => (Calls.mono (eqDMeetingS_yes A3 B3 x.ms.length x.ms.length c3 d3 x.ms W S1 S2 (h3.keep (SameOn.of_below hW hS1)) (g3.keep (SameOn.of_below hW hS2)) (fun b hb => Nat.lt_of_lt_of_le (hS1 b hb) hW.size) (fun b hb => Nat.lt_of_lt_of_le (hS2 b hb) hW.size) rfl rfl ok3) (fun e w' ⟨he, hb⟩ => (⟨he, hW.trans (Below.mono hb hW.size), hb⟩ : e = Ending.returned (Value.bool true) ∧ Below w.heap.size w w' ∧ Below W.heap.size W w'))))
  have C4 := Lib.hid (fun (W : World) (hW : Below w.heap.size w W) => (Calls.mono (eqDStringS_yes A4 B4 x.al.length x.al.length c4 d4 x.al W S1 S2 (h4.keep (SameOn.of_below hW hS1)) (g4.keep (SameOn.of_below hW hS2)) (fun b hb => Nat.lt_of_lt_of_le (hS1 b hb) hW.size) (fun b hb => Nat.lt_of_lt_of_le (hS2 b hb) hW.size) rfl rfl ok4) (fun e w' ⟨he, hb⟩ => (⟨he, hW.trans (Below.mono hb hW.size), hb⟩ : e = Ending.returned (Value.bool true) ∧ Below w.heap.size w w' ∧ Below W.heap.size W w'))))
  have C5 := Lib.hid (fun (W : World) (hW : Below w.heap.size w W) => (Calls.mono (eqDStringS_yes A5 B5 x.hd.length x.hd.length c5 d5 x.hd W S1 S2 (h5.keep (SameOn.of_below hW hS1)) (g5.keep (SameOn.of_below hW hS2)) (fun b hb => Nat.lt_of_lt_of_le (hS1 b hb) hW.size) (fun b hb => Nat.lt_of_lt_of_le (hS2 b hb) hW.size) rfl rfl ok5) (fun e w' ⟨he, hb⟩ => (⟨he, hW.trans (Below.mono hb hW.size), hb⟩ : e = Ending.returned (Value.bool true) ∧ Below w.heap.size w w' ∧ Below W.heap.size W w'))))
  clear h1 g1 ok1 h2 g2 ok2 h3 g3 ok3 h4 g4 ok4 h5 g5 ok5 hS1 hS2
  go_enter Tryz.func13, Tryz.ntmps13
  go_wp2_with fail
  refine (C1.out _ (by repeat (first | exact Below.refl _ _ | refine Below.setCell ?_ (by simp) _ | refine Below.alloc ?_ (by simp <;> omega) _))).mono ?_
  rintro e w1q ⟨rfl, b2, b3⟩
  obtain ⟨hcc1, _⟩ := bcell b3
  have hz1 : w.heap.size + 2 ≤ w1q.heap.size := by have := b3.size; (try simp at this); omega
  have hy1 : w.heap.size < w1q.heap.size := by omega
  have hx1 : w.heap.size + 1 < w1q.heap.size := by omega
  have B1q := Lib.hid b2
  clear b2 b3
  go_wp2_with fail
  refine (C2.out _ B1q.out).mono ?_
  rintro e w2q ⟨rfl, b2, b3⟩
  obtain ⟨hcc2, _⟩ := bcell b3
  have hz2 : w.heap.size + 2 ≤ w2q.heap.size := by have := b3.size; (try simp at this); omega
  have hy2 : w.heap.size < w2q.heap.size := by omega
  have hx2 : w.heap.size + 1 < w2q.heap.size := by omega
  have B2q := Lib.hid b2
  clear b2 b3
  go_wp2_with fail
  refine (C3.out _ B2q.out).mono ?_
  rintro e w3q ⟨rfl, b2, b3⟩
  obtain ⟨hcc3, _⟩ := bcell b3
  have hz3 : w.heap.size + 2 ≤ w3q.heap.size := by have := b3.size; (try simp at this); omega
  have hy3 : w.heap.size < w3q.heap.size := by omega
  have hx3 : w.heap.size + 1 < w3q.heap.size := by omega
  have B3q := Lib.hid b2
  clear b2 b3
  go_wp2_with fail
  refine (C4.out _ B3q.out).mono ?_
  rintro e w4q ⟨rfl, b2, b3⟩
  obtain ⟨hcc4, _⟩ := bcell b3
  have hz4 : w.heap.size + 2 ≤ w4q.heap.size := by have := b3.size; (try simp at this); omega
  have hy4 : w.heap.size < w4q.heap.size := by omega
  have hx4 : w.heap.size + 1 < w4q.heap.size := by omega
  have B4q := Lib.hid b2
  clear b2 b3
  go_wp2_with fail
  refine (C5.out _ B4q.out).mono ?_
  rintro e w5q ⟨rfl, b2, b3⟩
  obtain ⟨hcc5, _⟩ := bcell b3
  have hz5 : w.heap.size + 2 ≤ w5q.heap.size := by have := b3.size; (try simp at this); omega
  have hy5 : w.heap.size < w5q.heap.size := by omega
  have hx5 : w.heap.size + 1 < w5q.heap.size := by omega
  have B5q := Lib.hid b2
  clear b2 b3
  go_wp2
  go_ret
  exact ⟨rfl, B5q.out⟩
end Go.Proofs.YtdgcpaeneafejaaGreatDoor
