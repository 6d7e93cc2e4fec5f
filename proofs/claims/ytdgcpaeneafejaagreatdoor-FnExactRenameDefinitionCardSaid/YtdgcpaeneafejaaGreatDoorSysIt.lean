/- Systems in the laws' own helpers. -/
import Derived.Test.YtdgcpaeneafejaaGreatDoorSysIs
namespace Go.Proofs.YtdgcpaeneafejaaGreatDoor
open Go.RowKit
set_option maxRecDepth 100000 in
set_option maxHeartbeats 4000000 in
theorem toOSystem_any (x : Sy) (A1 A2 A3 A4 A5 : Option Addr) (c1 c2 c3 c4 c5 : Nat) (S : Nat → Prop) (w : World) (h1 : LRow dfR w S A1 x.ds) (h2 : LRow cpR w S A2 x.cs) (h3 : LRow mtR w S A3 x.ms) (h4 : LRow txtR w S A4 x.al) (h5 : LRow txtR w S A5 x.hd) (hS : ∀ b, S b → b < w.heap.size) (ok : okSy x) :
    Calls Tryz.prog 11 #[.agg #[.slice A1 x.ds.length c1, .slice A2 x.cs.length c2, .slice A3 x.ms.length c3, .slice A4 x.al.length c4, .slice A5 x.hd.length c5]] w (MadeRO syO x w) := by
  obtain ⟨ok1, ok2, ok3, ok4, ok5⟩ := ok
  have C1 := Lib.hid (fun (W : World) (B : Nat) (hW : Below w.heap.size w W) (hs : B ≤ W.heap.size) => (Calls.mono (toODefinitionS_any A1 x.ds.length c1 x.ds W S (h1.keep (SameOn.of_below hW hS)) (fun b hb => Nat.lt_of_lt_of_le (hS b hb) hW.size) rfl ok1) (fun e w' ⟨he, hl, hb⟩ => (⟨W.heap.size, he, hl.more (fun b hb => ⟨Nat.le_trans hs hb.1, hb.2⟩), hW.trans (Below.mono hb hW.size), hb⟩ : ∃ g : Nat, e = Ending.returned (.slice (some ⟨g, 0, none⟩) x.ds.length x.ds.length) ∧ OL dfO 88 w' (In B w'.heap.size) (some ⟨g, 0, none⟩) x.ds.length x.ds.length x.ds ∧ Below w.heap.size w w' ∧ Below W.heap.size W w'))))
  have C2 := Lib.hid (fun (W : World) (B : Nat) (hW : Below w.heap.size w W) (hs : B ≤ W.heap.size) => (Calls.mono (toOComponentS_any A2 x.cs.length c2 x.cs W S (h2.keep (SameOn.of_below hW hS)) (fun b hb => Nat.lt_of_lt_of_le (hS b hb) hW.size) rfl ok2) (fun e w' ⟨he, hl, hb⟩ => (⟨W.heap.size, he, hl.more (fun b hb => ⟨Nat.le_trans hs hb.1, hb.2⟩), hW.trans (Below.mono hb hW.size), hb⟩ : ∃ g : Nat, e = Ending.returned (.slice (some ⟨g, 0, none⟩) x.cs.length x.cs.length) ∧ OL cpO 45 w' (In B w'.heap.size) (some ⟨g, 0, none⟩) x.cs.length x.cs.length x.cs ∧ Below w.heap.size w w' ∧ Below W.heap.size W w'))))
  have C3 := Lib.hid (fun (W : World) (B : Nat) (hW : Below w.heap.size w W) (hs : B ≤ W.heap.size) => (Calls.mono (toOMeetingS_any A3 x.ms.length c3 x.ms W S (h3.keep (SameOn.of_below hW hS)) (fun b hb => Nat.lt_of_lt_of_le (hS b hb) hW.size) rfl ok3) (fun e w' ⟨he, hl, hb⟩ => (⟨W.heap.size, he, hl.more (fun b hb => ⟨Nat.le_trans hs hb.1, hb.2⟩), hW.trans (Below.mono hb hW.size), hb⟩ : ∃ g : Nat, e = Ending.returned (.slice (some ⟨g, 0, none⟩) x.ms.length x.ms.length) ∧ OL mtO 122 w' (In B w'.heap.size) (some ⟨g, 0, none⟩) x.ms.length x.ms.length x.ms ∧ Below w.heap.size w w' ∧ Below W.heap.size W w'))))
  have C4 := Lib.hid (fun (W : World) (B : Nat) (hW : Below w.heap.size w W) (hs : B ≤ W.heap.size) => (Calls.mono (toOStringS_any A4 x.al.length c4 x.al W S (h4.keep (SameOn.of_below hW hS)) (fun b hb => Nat.lt_of_lt_of_le (hS b hb) hW.size) rfl ok4) (fun e w' ⟨he, hl, hb⟩ => (⟨W.heap.size, he, hl.more (fun b hb => ⟨Nat.le_trans hs hb.1, hb.2⟩), hW.trans (Below.mono hb hW.size), hb⟩ : ∃ g : Nat, e = Ending.returned (.slice (some ⟨g, 0, none⟩) x.al.length x.al.length) ∧ OL txtO 9 w' (In B w'.heap.size) (some ⟨g, 0, none⟩) x.al.length x.al.length x.al ∧ Below w.heap.size w w' ∧ Below W.heap.size W w'))))
  have C5 := Lib.hid (fun (W : World) (B : Nat) (hW : Below w.heap.size w W) (hs : B ≤ W.heap.size) => (Calls.mono (toOStringS_any A5 x.hd.length c5 x.hd W S (h5.keep (SameOn.of_below hW hS)) (fun b hb => Nat.lt_of_lt_of_le (hS b hb) hW.size) rfl ok5) (fun e w' ⟨he, hl, hb⟩ => (⟨W.heap.size, he, hl.more (fun b hb => ⟨Nat.le_trans hs hb.1, hb.2⟩), hW.trans (Below.mono hb hW.size), hb⟩ : ∃ g : Nat, e = Ending.returned (.slice (some ⟨g, 0, none⟩) x.hd.length x.hd.length) ∧ OL txtO 9 w' (In B w'.heap.size) (some ⟨g, 0, none⟩) x.hd.length x.hd.length x.hd ∧ Below w.heap.size w w' ∧ Below W.heap.size W w'))))
  clear h1 ok1 h2 ok2 h3 ok3 h4 ok4 h5 ok5 hS
  go_enter Tryz.func11, Tryz.ntmps11
  go_wp2_with fail
  refine (C1.out _ (w.heap.size + 3) (by repeat (first | exact Below.refl _ _ | refine Below.setCell ?_ (by simp) _ | refine Below.alloc ?_ (by simp <;> omega) _)) (by simp <;> omega)).mono ?_
  rintro e w1q ⟨g1, rfl, hl, b2, b3⟩
  obtain ⟨hcc1, hff1⟩ := bcell b3
  have hz1 : w.heap.size + 3 ≤ w1q.heap.size := by have := b3.size; (try simp at this); omega
  have k1_0_0 : w1q.cell? ⟨w.heap.size, 0, none⟩ = some (.slice A1 x.ds.length c1) := (hcc1 _ _ (by simp <;> omega)).trans (by simp [go_sem])
  have k1_0_1 : w1q.cell? ⟨w.heap.size, 1, none⟩ = some (.slice A2 x.cs.length c2) := (hcc1 _ _ (by simp <;> omega)).trans (by simp [go_sem])
  have k1_0_2 : w1q.cell? ⟨w.heap.size, 2, none⟩ = some (.slice A3 x.ms.length c3) := (hcc1 _ _ (by simp <;> omega)).trans (by simp [go_sem])
  have k1_0_3 : w1q.cell? ⟨w.heap.size, 3, none⟩ = some (.slice A4 x.al.length c4) := (hcc1 _ _ (by simp <;> omega)).trans (by simp [go_sem])
  have k1_0_4 : w1q.cell? ⟨w.heap.size, 4, none⟩ = some (.slice A5 x.hd.length c5) := (hcc1 _ _ (by simp <;> omega)).trans (by simp [go_sem])
  have k1_1_0 : w1q.cell? ⟨w.heap.size + 1, 0, none⟩ = some (.slice none 0 0) := (hcc1 _ _ (by simp <;> omega)).trans (by simp [go_sem])
  have f1_1_0 : w1q.frozen? ⟨w.heap.size + 1, 0, none⟩ = false := (hff1 _ _ (by simp <;> omega)).trans (by simp [go_sem])
  have k1_1_1 : w1q.cell? ⟨w.heap.size + 1, 1, none⟩ = some (.slice none 0 0) := (hcc1 _ _ (by simp <;> omega)).trans (by simp [go_sem])
  have f1_1_1 : w1q.frozen? ⟨w.heap.size + 1, 1, none⟩ = false := (hff1 _ _ (by simp <;> omega)).trans (by simp [go_sem])
  have k1_1_2 : w1q.cell? ⟨w.heap.size + 1, 2, none⟩ = some (.slice none 0 0) := (hcc1 _ _ (by simp <;> omega)).trans (by simp [go_sem])
  have f1_1_2 : w1q.frozen? ⟨w.heap.size + 1, 2, none⟩ = false := (hff1 _ _ (by simp <;> omega)).trans (by simp [go_sem])
  have k1_1_3 : w1q.cell? ⟨w.heap.size + 1, 3, none⟩ = some (.slice none 0 0) := (hcc1 _ _ (by simp <;> omega)).trans (by simp [go_sem])
  have f1_1_3 : w1q.frozen? ⟨w.heap.size + 1, 3, none⟩ = false := (hff1 _ _ (by simp <;> omega)).trans (by simp [go_sem])
  have k1_1_4 : w1q.cell? ⟨w.heap.size + 1, 4, none⟩ = some (.slice none 0 0) := (hcc1 _ _ (by simp <;> omega)).trans (by simp [go_sem])
  have f1_1_4 : w1q.frozen? ⟨w.heap.size + 1, 4, none⟩ = false := (hff1 _ _ (by simp <;> omega)).trans (by simp [go_sem])
  have k1_2_0 : w1q.cell? ⟨w.heap.size + 1 + 1, 0, none⟩ = some (.slice none 0 0) := (hcc1 _ _ (by simp <;> omega)).trans (by simp [go_sem])
  have f1_2_0 : w1q.frozen? ⟨w.heap.size + 1 + 1, 0, none⟩ = false := (hff1 _ _ (by simp <;> omega)).trans (by simp [go_sem])
  have k1_2_1 : w1q.cell? ⟨w.heap.size + 1 + 1, 1, none⟩ = some (.slice none 0 0) := (hcc1 _ _ (by simp <;> omega)).trans (by simp [go_sem])
  have f1_2_1 : w1q.frozen? ⟨w.heap.size + 1 + 1, 1, none⟩ = false := (hff1 _ _ (by simp <;> omega)).trans (by simp [go_sem])
  have k1_2_2 : w1q.cell? ⟨w.heap.size + 1 + 1, 2, none⟩ = some (.slice none 0 0) := (hcc1 _ _ (by simp <;> omega)).trans (by simp [go_sem])
  have f1_2_2 : w1q.frozen? ⟨w.heap.size + 1 + 1, 2, none⟩ = false := (hff1 _ _ (by simp <;> omega)).trans (by simp [go_sem])
  have k1_2_3 : w1q.cell? ⟨w.heap.size + 1 + 1, 3, none⟩ = some (.slice none 0 0) := (hcc1 _ _ (by simp <;> omega)).trans (by simp [go_sem])
  have f1_2_3 : w1q.frozen? ⟨w.heap.size + 1 + 1, 3, none⟩ = false := (hff1 _ _ (by simp <;> omega)).trans (by simp [go_sem])
  have k1_2_4 : w1q.cell? ⟨w.heap.size + 1 + 1, 4, none⟩ = some (.slice none 0 0) := (hcc1 _ _ (by simp <;> omega)).trans (by simp [go_sem])
  have f1_2_4 : w1q.frozen? ⟨w.heap.size + 1 + 1, 4, none⟩ = false := (hff1 _ _ (by simp <;> omega)).trans (by simp [go_sem])
  clear hcc1 hff1
  have B1q := Lib.hid b2
  have L1 := Lib.hid hl
  clear b2 b3 hl
  go_wp2_with fail
  refine (C2.out _ w1q.heap.size (B1q.out.setCell (by simp <;> omega) _) (by simp [World.setCell] <;> omega)).mono ?_
  rintro e w2q ⟨g2, rfl, hl, b2, b3⟩
  obtain ⟨hcc2, hff2⟩ := bcell b3
  have hz2 : w.heap.size + 3 ≤ w2q.heap.size := by have := b3.size; (try simp [World.setCell] at this); omega
  have hzz2 : w1q.heap.size ≤ w2q.heap.size := by have := b3.size; simpa [World.setCell] using this
  have k2_0_1 : w2q.cell? ⟨w.heap.size, 1, none⟩ = some (.slice A2 x.cs.length c2) := (hcc2 _ _ (by simp [World.setCell] <;> omega)).trans (by simp [go_sem, k1_0_1])
  have k2_0_2 : w2q.cell? ⟨w.heap.size, 2, none⟩ = some (.slice A3 x.ms.length c3) := (hcc2 _ _ (by simp [World.setCell] <;> omega)).trans (by simp [go_sem, k1_0_2])
  have k2_0_3 : w2q.cell? ⟨w.heap.size, 3, none⟩ = some (.slice A4 x.al.length c4) := (hcc2 _ _ (by simp [World.setCell] <;> omega)).trans (by simp [go_sem, k1_0_3])
  have k2_0_4 : w2q.cell? ⟨w.heap.size, 4, none⟩ = some (.slice A5 x.hd.length c5) := (hcc2 _ _ (by simp [World.setCell] <;> omega)).trans (by simp [go_sem, k1_0_4])
  have k2_1_0 : w2q.cell? ⟨w.heap.size + 1, 0, none⟩ = some (.slice none 0 0) := (hcc2 _ _ (by simp [World.setCell] <;> omega)).trans (by simp [go_sem, k1_1_0])
  have f2_1_0 : w2q.frozen? ⟨w.heap.size + 1, 0, none⟩ = false := (hff2 _ _ (by simp [World.setCell] <;> omega)).trans (by simp [go_sem, f1_1_0])
  have k2_1_1 : w2q.cell? ⟨w.heap.size + 1, 1, none⟩ = some (.slice none 0 0) := (hcc2 _ _ (by simp [World.setCell] <;> omega)).trans (by simp [go_sem, k1_1_1])
  have f2_1_1 : w2q.frozen? ⟨w.heap.size + 1, 1, none⟩ = false := (hff2 _ _ (by simp [World.setCell] <;> omega)).trans (by simp [go_sem, f1_1_1])
  have k2_1_2 : w2q.cell? ⟨w.heap.size + 1, 2, none⟩ = some (.slice none 0 0) := (hcc2 _ _ (by simp [World.setCell] <;> omega)).trans (by simp [go_sem, k1_1_2])
  have f2_1_2 : w2q.frozen? ⟨w.heap.size + 1, 2, none⟩ = false := (hff2 _ _ (by simp [World.setCell] <;> omega)).trans (by simp [go_sem, f1_1_2])
  have k2_1_3 : w2q.cell? ⟨w.heap.size + 1, 3, none⟩ = some (.slice none 0 0) := (hcc2 _ _ (by simp [World.setCell] <;> omega)).trans (by simp [go_sem, k1_1_3])
  have f2_1_3 : w2q.frozen? ⟨w.heap.size + 1, 3, none⟩ = false := (hff2 _ _ (by simp [World.setCell] <;> omega)).trans (by simp [go_sem, f1_1_3])
  have k2_1_4 : w2q.cell? ⟨w.heap.size + 1, 4, none⟩ = some (.slice none 0 0) := (hcc2 _ _ (by simp [World.setCell] <;> omega)).trans (by simp [go_sem, k1_1_4])
  have f2_1_4 : w2q.frozen? ⟨w.heap.size + 1, 4, none⟩ = false := (hff2 _ _ (by simp [World.setCell] <;> omega)).trans (by simp [go_sem, f1_1_4])
  have k2_2_0 : w2q.cell? ⟨w.heap.size + 1 + 1, 0, none⟩ = some (.slice (some ⟨g1, 0, none⟩) x.ds.length x.ds.length) := (hcc2 _ _ (by simp [World.setCell] <;> omega)).trans (by simp [go_sem, k1_2_0])
  have f2_2_0 : w2q.frozen? ⟨w.heap.size + 1 + 1, 0, none⟩ = false := (hff2 _ _ (by simp [World.setCell] <;> omega)).trans (by simp [go_sem, f1_2_0])
  have k2_2_1 : w2q.cell? ⟨w.heap.size + 1 + 1, 1, none⟩ = some (.slice none 0 0) := (hcc2 _ _ (by simp [World.setCell] <;> omega)).trans (by simp [go_sem, k1_2_1])
  have f2_2_1 : w2q.frozen? ⟨w.heap.size + 1 + 1, 1, none⟩ = false := (hff2 _ _ (by simp [World.setCell] <;> omega)).trans (by simp [go_sem, f1_2_1])
  have k2_2_2 : w2q.cell? ⟨w.heap.size + 1 + 1, 2, none⟩ = some (.slice none 0 0) := (hcc2 _ _ (by simp [World.setCell] <;> omega)).trans (by simp [go_sem, k1_2_2])
  have f2_2_2 : w2q.frozen? ⟨w.heap.size + 1 + 1, 2, none⟩ = false := (hff2 _ _ (by simp [World.setCell] <;> omega)).trans (by simp [go_sem, f1_2_2])
  have k2_2_3 : w2q.cell? ⟨w.heap.size + 1 + 1, 3, none⟩ = some (.slice none 0 0) := (hcc2 _ _ (by simp [World.setCell] <;> omega)).trans (by simp [go_sem, k1_2_3])
  have f2_2_3 : w2q.frozen? ⟨w.heap.size + 1 + 1, 3, none⟩ = false := (hff2 _ _ (by simp [World.setCell] <;> omega)).trans (by simp [go_sem, f1_2_3])
  have k2_2_4 : w2q.cell? ⟨w.heap.size + 1 + 1, 4, none⟩ = some (.slice none 0 0) := (hcc2 _ _ (by simp [World.setCell] <;> omega)).trans (by simp [go_sem, k1_2_4])
  have f2_2_4 : w2q.frozen? ⟨w.heap.size + 1 + 1, 4, none⟩ = false := (hff2 _ _ (by simp [World.setCell] <;> omega)).trans (by simp [go_sem, f1_2_4])
  clear k1_0_0 k1_0_1 k1_0_2 k1_0_3 k1_0_4 k1_1_0 k1_1_1 k1_1_2 k1_1_3 k1_1_4 k1_2_0 k1_2_1 k1_2_2 k1_2_3 k1_2_4 f1_1_0 f1_1_1 f1_1_2 f1_1_3 f1_1_4 f1_2_0 f1_2_1 f1_2_2 f1_2_3 f1_2_4
  clear hcc2 hff2
  have B2q := Lib.hid b2
  have L1 := Lib.hid (OL.carry L1.out (by omega) (by omega) b3)
  have L2 := Lib.hid hl
  clear b2 b3 hl
  go_wp2_with fail
  refine (C3.out _ w2q.heap.size (B2q.out.setCell (by simp <;> omega) _) (by simp [World.setCell] <;> omega)).mono ?_
  rintro e w3q ⟨g3, rfl, hl, b2, b3⟩
  obtain ⟨hcc3, hff3⟩ := bcell b3
  have hz3 : w.heap.size + 3 ≤ w3q.heap.size := by have := b3.size; (try simp [World.setCell] at this); omega
  have hzz3 : w2q.heap.size ≤ w3q.heap.size := by have := b3.size; simpa [World.setCell] using this
  have k3_0_2 : w3q.cell? ⟨w.heap.size, 2, none⟩ = some (.slice A3 x.ms.length c3) := (hcc3 _ _ (by simp [World.setCell] <;> omega)).trans (by simp [go_sem, k2_0_2])
  have k3_0_3 : w3q.cell? ⟨w.heap.size, 3, none⟩ = some (.slice A4 x.al.length c4) := (hcc3 _ _ (by simp [World.setCell] <;> omega)).trans (by simp [go_sem, k2_0_3])
  have k3_0_4 : w3q.cell? ⟨w.heap.size, 4, none⟩ = some (.slice A5 x.hd.length c5) := (hcc3 _ _ (by simp [World.setCell] <;> omega)).trans (by simp [go_sem, k2_0_4])
  have k3_1_0 : w3q.cell? ⟨w.heap.size + 1, 0, none⟩ = some (.slice none 0 0) := (hcc3 _ _ (by simp [World.setCell] <;> omega)).trans (by simp [go_sem, k2_1_0])
  have f3_1_0 : w3q.frozen? ⟨w.heap.size + 1, 0, none⟩ = false := (hff3 _ _ (by simp [World.setCell] <;> omega)).trans (by simp [go_sem, f2_1_0])
  have k3_1_1 : w3q.cell? ⟨w.heap.size + 1, 1, none⟩ = some (.slice none 0 0) := (hcc3 _ _ (by simp [World.setCell] <;> omega)).trans (by simp [go_sem, k2_1_1])
  have f3_1_1 : w3q.frozen? ⟨w.heap.size + 1, 1, none⟩ = false := (hff3 _ _ (by simp [World.setCell] <;> omega)).trans (by simp [go_sem, f2_1_1])
  have k3_1_2 : w3q.cell? ⟨w.heap.size + 1, 2, none⟩ = some (.slice none 0 0) := (hcc3 _ _ (by simp [World.setCell] <;> omega)).trans (by simp [go_sem, k2_1_2])
  have f3_1_2 : w3q.frozen? ⟨w.heap.size + 1, 2, none⟩ = false := (hff3 _ _ (by simp [World.setCell] <;> omega)).trans (by simp [go_sem, f2_1_2])
  have k3_1_3 : w3q.cell? ⟨w.heap.size + 1, 3, none⟩ = some (.slice none 0 0) := (hcc3 _ _ (by simp [World.setCell] <;> omega)).trans (by simp [go_sem, k2_1_3])
  have f3_1_3 : w3q.frozen? ⟨w.heap.size + 1, 3, none⟩ = false := (hff3 _ _ (by simp [World.setCell] <;> omega)).trans (by simp [go_sem, f2_1_3])
  have k3_1_4 : w3q.cell? ⟨w.heap.size + 1, 4, none⟩ = some (.slice none 0 0) := (hcc3 _ _ (by simp [World.setCell] <;> omega)).trans (by simp [go_sem, k2_1_4])
  have f3_1_4 : w3q.frozen? ⟨w.heap.size + 1, 4, none⟩ = false := (hff3 _ _ (by simp [World.setCell] <;> omega)).trans (by simp [go_sem, f2_1_4])
  have k3_2_0 : w3q.cell? ⟨w.heap.size + 1 + 1, 0, none⟩ = some (.slice (some ⟨g1, 0, none⟩) x.ds.length x.ds.length) := (hcc3 _ _ (by simp [World.setCell] <;> omega)).trans (by simp [go_sem, k2_2_0])
  have f3_2_0 : w3q.frozen? ⟨w.heap.size + 1 + 1, 0, none⟩ = false := (hff3 _ _ (by simp [World.setCell] <;> omega)).trans (by simp [go_sem, f2_2_0])
  have k3_2_1 : w3q.cell? ⟨w.heap.size + 1 + 1, 1, none⟩ = some (.slice (some ⟨g2, 0, none⟩) x.cs.length x.cs.length) := (hcc3 _ _ (by simp [World.setCell] <;> omega)).trans (by simp [go_sem, k2_2_1])
  have f3_2_1 : w3q.frozen? ⟨w.heap.size + 1 + 1, 1, none⟩ = false := (hff3 _ _ (by simp [World.setCell] <;> omega)).trans (by simp [go_sem, f2_2_1])
  have k3_2_2 : w3q.cell? ⟨w.heap.size + 1 + 1, 2, none⟩ = some (.slice none 0 0) := (hcc3 _ _ (by simp [World.setCell] <;> omega)).trans (by simp [go_sem, k2_2_2])
  have f3_2_2 : w3q.frozen? ⟨w.heap.size + 1 + 1, 2, none⟩ = false := (hff3 _ _ (by simp [World.setCell] <;> omega)).trans (by simp [go_sem, f2_2_2])
  have k3_2_3 : w3q.cell? ⟨w.heap.size + 1 + 1, 3, none⟩ = some (.slice none 0 0) := (hcc3 _ _ (by simp [World.setCell] <;> omega)).trans (by simp [go_sem, k2_2_3])
  have f3_2_3 : w3q.frozen? ⟨w.heap.size + 1 + 1, 3, none⟩ = false := (hff3 _ _ (by simp [World.setCell] <;> omega)).trans (by simp [go_sem, f2_2_3])
  have k3_2_4 : w3q.cell? ⟨w.heap.size + 1 + 1, 4, none⟩ = some (.slice none 0 0) := (hcc3 _ _ (by simp [World.setCell] <;> omega)).trans (by simp [go_sem, k2_2_4])
  have f3_2_4 : w3q.frozen? ⟨w.heap.size + 1 + 1, 4, none⟩ = false := (hff3 _ _ (by simp [World.setCell] <;> omega)).trans (by simp [go_sem, f2_2_4])
  clear k2_0_1 k2_0_2 k2_0_3 k2_0_4 k2_1_0 k2_1_1 k2_1_2 k2_1_3 k2_1_4 k2_2_0 k2_2_1 k2_2_2 k2_2_3 k2_2_4 f2_1_0 f2_1_1 f2_1_2 f2_1_3 f2_1_4 f2_2_0 f2_2_1 f2_2_2 f2_2_3 f2_2_4
  clear hcc3 hff3
  have B3q := Lib.hid b2
  have L1 := Lib.hid (OL.carry L1.out (by omega) (by omega) b3)
  have L2 := Lib.hid (OL.carry L2.out (by omega) (by omega) b3)
  have L3 := Lib.hid hl
  clear b2 b3 hl
  go_wp2_with fail
  refine (C4.out _ w3q.heap.size (B3q.out.setCell (by simp <;> omega) _) (by simp [World.setCell] <;> omega)).mono ?_
  rintro e w4q ⟨g4, rfl, hl, b2, b3⟩
  obtain ⟨hcc4, hff4⟩ := bcell b3
  have hz4 : w.heap.size + 3 ≤ w4q.heap.size := by have := b3.size; (try simp [World.setCell] at this); omega
  have hzz4 : w3q.heap.size ≤ w4q.heap.size := by have := b3.size; simpa [World.setCell] using this
  have k4_0_3 : w4q.cell? ⟨w.heap.size, 3, none⟩ = some (.slice A4 x.al.length c4) := (hcc4 _ _ (by simp [World.setCell] <;> omega)).trans (by simp [go_sem, k3_0_3])
  have k4_0_4 : w4q.cell? ⟨w.heap.size, 4, none⟩ = some (.slice A5 x.hd.length c5) := (hcc4 _ _ (by simp [World.setCell] <;> omega)).trans (by simp [go_sem, k3_0_4])
  have k4_1_0 : w4q.cell? ⟨w.heap.size + 1, 0, none⟩ = some (.slice none 0 0) := (hcc4 _ _ (by simp [World.setCell] <;> omega)).trans (by simp [go_sem, k3_1_0])
  have f4_1_0 : w4q.frozen? ⟨w.heap.size + 1, 0, none⟩ = false := (hff4 _ _ (by simp [World.setCell] <;> omega)).trans (by simp [go_sem, f3_1_0])
  have k4_1_1 : w4q.cell? ⟨w.heap.size + 1, 1, none⟩ = some (.slice none 0 0) := (hcc4 _ _ (by simp [World.setCell] <;> omega)).trans (by simp [go_sem, k3_1_1])
  have f4_1_1 : w4q.frozen? ⟨w.heap.size + 1, 1, none⟩ = false := (hff4 _ _ (by simp [World.setCell] <;> omega)).trans (by simp [go_sem, f3_1_1])
  have k4_1_2 : w4q.cell? ⟨w.heap.size + 1, 2, none⟩ = some (.slice none 0 0) := (hcc4 _ _ (by simp [World.setCell] <;> omega)).trans (by simp [go_sem, k3_1_2])
  have f4_1_2 : w4q.frozen? ⟨w.heap.size + 1, 2, none⟩ = false := (hff4 _ _ (by simp [World.setCell] <;> omega)).trans (by simp [go_sem, f3_1_2])
  have k4_1_3 : w4q.cell? ⟨w.heap.size + 1, 3, none⟩ = some (.slice none 0 0) := (hcc4 _ _ (by simp [World.setCell] <;> omega)).trans (by simp [go_sem, k3_1_3])
  have f4_1_3 : w4q.frozen? ⟨w.heap.size + 1, 3, none⟩ = false := (hff4 _ _ (by simp [World.setCell] <;> omega)).trans (by simp [go_sem, f3_1_3])
  have k4_1_4 : w4q.cell? ⟨w.heap.size + 1, 4, none⟩ = some (.slice none 0 0) := (hcc4 _ _ (by simp [World.setCell] <;> omega)).trans (by simp [go_sem, k3_1_4])
  have f4_1_4 : w4q.frozen? ⟨w.heap.size + 1, 4, none⟩ = false := (hff4 _ _ (by simp [World.setCell] <;> omega)).trans (by simp [go_sem, f3_1_4])
  have k4_2_0 : w4q.cell? ⟨w.heap.size + 1 + 1, 0, none⟩ = some (.slice (some ⟨g1, 0, none⟩) x.ds.length x.ds.length) := (hcc4 _ _ (by simp [World.setCell] <;> omega)).trans (by simp [go_sem, k3_2_0])
  have f4_2_0 : w4q.frozen? ⟨w.heap.size + 1 + 1, 0, none⟩ = false := (hff4 _ _ (by simp [World.setCell] <;> omega)).trans (by simp [go_sem, f3_2_0])
  have k4_2_1 : w4q.cell? ⟨w.heap.size + 1 + 1, 1, none⟩ = some (.slice (some ⟨g2, 0, none⟩) x.cs.length x.cs.length) := (hcc4 _ _ (by simp [World.setCell] <;> omega)).trans (by simp [go_sem, k3_2_1])
  have f4_2_1 : w4q.frozen? ⟨w.heap.size + 1 + 1, 1, none⟩ = false := (hff4 _ _ (by simp [World.setCell] <;> omega)).trans (by simp [go_sem, f3_2_1])
  have k4_2_2 : w4q.cell? ⟨w.heap.size + 1 + 1, 2, none⟩ = some (.slice (some ⟨g3, 0, none⟩) x.ms.length x.ms.length) := (hcc4 _ _ (by simp [World.setCell] <;> omega)).trans (by simp [go_sem, k3_2_2])
  have f4_2_2 : w4q.frozen? ⟨w.heap.size + 1 + 1, 2, none⟩ = false := (hff4 _ _ (by simp [World.setCell] <;> omega)).trans (by simp [go_sem, f3_2_2])
  have k4_2_3 : w4q.cell? ⟨w.heap.size + 1 + 1, 3, none⟩ = some (.slice none 0 0) := (hcc4 _ _ (by simp [World.setCell] <;> omega)).trans (by simp [go_sem, k3_2_3])
  have f4_2_3 : w4q.frozen? ⟨w.heap.size + 1 + 1, 3, none⟩ = false := (hff4 _ _ (by simp [World.setCell] <;> omega)).trans (by simp [go_sem, f3_2_3])
  have k4_2_4 : w4q.cell? ⟨w.heap.size + 1 + 1, 4, none⟩ = some (.slice none 0 0) := (hcc4 _ _ (by simp [World.setCell] <;> omega)).trans (by simp [go_sem, k3_2_4])
  have f4_2_4 : w4q.frozen? ⟨w.heap.size + 1 + 1, 4, none⟩ = false := (hff4 _ _ (by simp [World.setCell] <;> omega)).trans (by simp [go_sem, f3_2_4])
  clear k3_0_2 k3_0_3 k3_0_4 k3_1_0 k3_1_1 k3_1_2 k3_1_3 k3_1_4 k3_2_0 k3_2_1 k3_2_2 k3_2_3 k3_2_4 f3_1_0 f3_1_1 f3_1_2 f3_1_3 f3_1_4 f3_2_0 f3_2_1 f3_2_2 f3_2_3 f3_2_4
  clear hcc4 hff4
  have B4q := Lib.hid b2
  have L1 := Lib.hid (OL.carry L1.out (by omega) (by omega) b3)
  have L2 := Lib.hid (OL.carry L2.out (by omega) (by omega) b3)
  have L3 := Lib.hid (OL.carry L3.out (by omega) (by omega) b3)
  have L4 := Lib.hid hl
  clear b2 b3 hl
  go_wp2_with fail
  refine (C5.out _ w4q.heap.size (B4q.out.setCell (by simp <;> omega) _) (by simp [World.setCell] <;> omega)).mono ?_
  rintro e w5q ⟨g5, rfl, hl, b2, b3⟩
  obtain ⟨hcc5, hff5⟩ := bcell b3
  have hz5 : w.heap.size + 3 ≤ w5q.heap.size := by have := b3.size; (try simp [World.setCell] at this); omega
  have hzz5 : w4q.heap.size ≤ w5q.heap.size := by have := b3.size; simpa [World.setCell] using this
  have k5_0_4 : w5q.cell? ⟨w.heap.size, 4, none⟩ = some (.slice A5 x.hd.length c5) := (hcc5 _ _ (by simp [World.setCell] <;> omega)).trans (by simp [go_sem, k4_0_4])
  have k5_1_0 : w5q.cell? ⟨w.heap.size + 1, 0, none⟩ = some (.slice none 0 0) := (hcc5 _ _ (by simp [World.setCell] <;> omega)).trans (by simp [go_sem, k4_1_0])
  have f5_1_0 : w5q.frozen? ⟨w.heap.size + 1, 0, none⟩ = false := (hff5 _ _ (by simp [World.setCell] <;> omega)).trans (by simp [go_sem, f4_1_0])
  have k5_1_1 : w5q.cell? ⟨w.heap.size + 1, 1, none⟩ = some (.slice none 0 0) := (hcc5 _ _ (by simp [World.setCell] <;> omega)).trans (by simp [go_sem, k4_1_1])
  have f5_1_1 : w5q.frozen? ⟨w.heap.size + 1, 1, none⟩ = false := (hff5 _ _ (by simp [World.setCell] <;> omega)).trans (by simp [go_sem, f4_1_1])
  have k5_1_2 : w5q.cell? ⟨w.heap.size + 1, 2, none⟩ = some (.slice none 0 0) := (hcc5 _ _ (by simp [World.setCell] <;> omega)).trans (by simp [go_sem, k4_1_2])
  have f5_1_2 : w5q.frozen? ⟨w.heap.size + 1, 2, none⟩ = false := (hff5 _ _ (by simp [World.setCell] <;> omega)).trans (by simp [go_sem, f4_1_2])
  have k5_1_3 : w5q.cell? ⟨w.heap.size + 1, 3, none⟩ = some (.slice none 0 0) := (hcc5 _ _ (by simp [World.setCell] <;> omega)).trans (by simp [go_sem, k4_1_3])
  have f5_1_3 : w5q.frozen? ⟨w.heap.size + 1, 3, none⟩ = false := (hff5 _ _ (by simp [World.setCell] <;> omega)).trans (by simp [go_sem, f4_1_3])
  have k5_1_4 : w5q.cell? ⟨w.heap.size + 1, 4, none⟩ = some (.slice none 0 0) := (hcc5 _ _ (by simp [World.setCell] <;> omega)).trans (by simp [go_sem, k4_1_4])
  have f5_1_4 : w5q.frozen? ⟨w.heap.size + 1, 4, none⟩ = false := (hff5 _ _ (by simp [World.setCell] <;> omega)).trans (by simp [go_sem, f4_1_4])
  have k5_2_0 : w5q.cell? ⟨w.heap.size + 1 + 1, 0, none⟩ = some (.slice (some ⟨g1, 0, none⟩) x.ds.length x.ds.length) := (hcc5 _ _ (by simp [World.setCell] <;> omega)).trans (by simp [go_sem, k4_2_0])
  have f5_2_0 : w5q.frozen? ⟨w.heap.size + 1 + 1, 0, none⟩ = false := (hff5 _ _ (by simp [World.setCell] <;> omega)).trans (by simp [go_sem, f4_2_0])
  have k5_2_1 : w5q.cell? ⟨w.heap.size + 1 + 1, 1, none⟩ = some (.slice (some ⟨g2, 0, none⟩) x.cs.length x.cs.length) := (hcc5 _ _ (by simp [World.setCell] <;> omega)).trans (by simp [go_sem, k4_2_1])
  have f5_2_1 : w5q.frozen? ⟨w.heap.size + 1 + 1, 1, none⟩ = false := (hff5 _ _ (by simp [World.setCell] <;> omega)).trans (by simp [go_sem, f4_2_1])
  have k5_2_2 : w5q.cell? ⟨w.heap.size + 1 + 1, 2, none⟩ = some (.slice (some ⟨g3, 0, none⟩) x.ms.length x.ms.length) := (hcc5 _ _ (by simp [World.setCell] <;> omega)).trans (by simp [go_sem, k4_2_2])
  have f5_2_2 : w5q.frozen? ⟨w.heap.size + 1 + 1, 2, none⟩ = false := (hff5 _ _ (by simp [World.setCell] <;> omega)).trans (by simp [go_sem, f4_2_2])
  have k5_2_3 : w5q.cell? ⟨w.heap.size + 1 + 1, 3, none⟩ = some (.slice (some ⟨g4, 0, none⟩) x.al.length x.al.length) := (hcc5 _ _ (by simp [World.setCell] <;> omega)).trans (by simp [go_sem, k4_2_3])
  have f5_2_3 : w5q.frozen? ⟨w.heap.size + 1 + 1, 3, none⟩ = false := (hff5 _ _ (by simp [World.setCell] <;> omega)).trans (by simp [go_sem, f4_2_3])
  have k5_2_4 : w5q.cell? ⟨w.heap.size + 1 + 1, 4, none⟩ = some (.slice none 0 0) := (hcc5 _ _ (by simp [World.setCell] <;> omega)).trans (by simp [go_sem, k4_2_4])
  have f5_2_4 : w5q.frozen? ⟨w.heap.size + 1 + 1, 4, none⟩ = false := (hff5 _ _ (by simp [World.setCell] <;> omega)).trans (by simp [go_sem, f4_2_4])
  clear k4_0_3 k4_0_4 k4_1_0 k4_1_1 k4_1_2 k4_1_3 k4_1_4 k4_2_0 k4_2_1 k4_2_2 k4_2_3 k4_2_4 f4_1_0 f4_1_1 f4_1_2 f4_1_3 f4_1_4 f4_2_0 f4_2_1 f4_2_2 f4_2_3 f4_2_4
  clear hcc5 hff5
  have B5q := Lib.hid b2
  have L1 := Lib.hid (OL.carry L1.out (by omega) (by omega) b3)
  have L2 := Lib.hid (OL.carry L2.out (by omega) (by omega) b3)
  have L3 := Lib.hid (OL.carry L3.out (by omega) (by omega) b3)
  have L4 := Lib.hid (OL.carry L4.out (by omega) (by omega) b3)
  have L5 := Lib.hid hl
  clear b2 b3 hl
  go_wp2
  have SO : ∀ S : Nat → Prop, ¬ S (w.heap.size + 1) → ¬ S (w.heap.size + 1 + 1) → SameB S w5q ((((((w5q.setCell ⟨w.heap.size + 1 + 1, 4, none⟩ (.slice (some ⟨g5, 0, none⟩) x.hd.length x.hd.length)).setCell ⟨w.heap.size + 1, 0, none⟩ (.slice (some ⟨g1, 0, none⟩) x.ds.length x.ds.length)).setCell ⟨w.heap.size + 1, 1, none⟩ (.slice (some ⟨g2, 0, none⟩) x.cs.length x.cs.length)).setCell ⟨w.heap.size + 1, 2, none⟩ (.slice (some ⟨g3, 0, none⟩) x.ms.length x.ms.length)).setCell ⟨w.heap.size + 1, 3, none⟩ (.slice (some ⟨g4, 0, none⟩) x.al.length x.al.length)).setCell ⟨w.heap.size + 1, 4, none⟩ (.slice (some ⟨g5, 0, none⟩) x.hd.length x.hd.length)) := fun S n1 n2 => ((((((SameB.refl S w5q).setCell n2).setCell n1).setCell n1).setCell n1).setCell n1).setCell n1
  have BW : Below w.heap.size w ((((((w5q.setCell ⟨w.heap.size + 1 + 1, 4, none⟩ (.slice (some ⟨g5, 0, none⟩) x.hd.length x.hd.length)).setCell ⟨w.heap.size + 1, 0, none⟩ (.slice (some ⟨g1, 0, none⟩) x.ds.length x.ds.length)).setCell ⟨w.heap.size + 1, 1, none⟩ (.slice (some ⟨g2, 0, none⟩) x.cs.length x.cs.length)).setCell ⟨w.heap.size + 1, 2, none⟩ (.slice (some ⟨g3, 0, none⟩) x.ms.length x.ms.length)).setCell ⟨w.heap.size + 1, 3, none⟩ (.slice (some ⟨g4, 0, none⟩) x.al.length x.al.length)).setCell ⟨w.heap.size + 1, 4, none⟩ (.slice (some ⟨g5, 0, none⟩) x.hd.length x.hd.length)) := (((((B5q.out.setCell (by simp <;> omega) _).setCell (by simp <;> omega) _).setCell (by simp <;> omega) _).setCell (by simp <;> omega) _).setCell (by simp <;> omega) _).setCell (by simp <;> omega) _
  have r1 : ((((((w5q.setCell ⟨w.heap.size + 1 + 1, 4, none⟩ (.slice (some ⟨g5, 0, none⟩) x.hd.length x.hd.length)).setCell ⟨w.heap.size + 1, 0, none⟩ (.slice (some ⟨g1, 0, none⟩) x.ds.length x.ds.length)).setCell ⟨w.heap.size + 1, 1, none⟩ (.slice (some ⟨g2, 0, none⟩) x.cs.length x.cs.length)).setCell ⟨w.heap.size + 1, 2, none⟩ (.slice (some ⟨g3, 0, none⟩) x.ms.length x.ms.length)).setCell ⟨w.heap.size + 1, 3, none⟩ (.slice (some ⟨g4, 0, none⟩) x.al.length x.al.length)).setCell ⟨w.heap.size + 1, 4, none⟩ (.slice (some ⟨g5, 0, none⟩) x.hd.length x.hd.length)).cell? ⟨w.heap.size + 1, 0, none⟩ = some (.slice (some ⟨g1, 0, none⟩) x.ds.length x.ds.length) := by simp [go_sem, k5_1_0]
  have r2 : ((((((w5q.setCell ⟨w.heap.size + 1 + 1, 4, none⟩ (.slice (some ⟨g5, 0, none⟩) x.hd.length x.hd.length)).setCell ⟨w.heap.size + 1, 0, none⟩ (.slice (some ⟨g1, 0, none⟩) x.ds.length x.ds.length)).setCell ⟨w.heap.size + 1, 1, none⟩ (.slice (some ⟨g2, 0, none⟩) x.cs.length x.cs.length)).setCell ⟨w.heap.size + 1, 2, none⟩ (.slice (some ⟨g3, 0, none⟩) x.ms.length x.ms.length)).setCell ⟨w.heap.size + 1, 3, none⟩ (.slice (some ⟨g4, 0, none⟩) x.al.length x.al.length)).setCell ⟨w.heap.size + 1, 4, none⟩ (.slice (some ⟨g5, 0, none⟩) x.hd.length x.hd.length)).cell? ⟨w.heap.size + 1, 1, none⟩ = some (.slice (some ⟨g2, 0, none⟩) x.cs.length x.cs.length) := by simp [go_sem, k5_1_1]
  have r3 : ((((((w5q.setCell ⟨w.heap.size + 1 + 1, 4, none⟩ (.slice (some ⟨g5, 0, none⟩) x.hd.length x.hd.length)).setCell ⟨w.heap.size + 1, 0, none⟩ (.slice (some ⟨g1, 0, none⟩) x.ds.length x.ds.length)).setCell ⟨w.heap.size + 1, 1, none⟩ (.slice (some ⟨g2, 0, none⟩) x.cs.length x.cs.length)).setCell ⟨w.heap.size + 1, 2, none⟩ (.slice (some ⟨g3, 0, none⟩) x.ms.length x.ms.length)).setCell ⟨w.heap.size + 1, 3, none⟩ (.slice (some ⟨g4, 0, none⟩) x.al.length x.al.length)).setCell ⟨w.heap.size + 1, 4, none⟩ (.slice (some ⟨g5, 0, none⟩) x.hd.length x.hd.length)).cell? ⟨w.heap.size + 1, 2, none⟩ = some (.slice (some ⟨g3, 0, none⟩) x.ms.length x.ms.length) := by simp [go_sem, k5_1_2]
  have r4 : ((((((w5q.setCell ⟨w.heap.size + 1 + 1, 4, none⟩ (.slice (some ⟨g5, 0, none⟩) x.hd.length x.hd.length)).setCell ⟨w.heap.size + 1, 0, none⟩ (.slice (some ⟨g1, 0, none⟩) x.ds.length x.ds.length)).setCell ⟨w.heap.size + 1, 1, none⟩ (.slice (some ⟨g2, 0, none⟩) x.cs.length x.cs.length)).setCell ⟨w.heap.size + 1, 2, none⟩ (.slice (some ⟨g3, 0, none⟩) x.ms.length x.ms.length)).setCell ⟨w.heap.size + 1, 3, none⟩ (.slice (some ⟨g4, 0, none⟩) x.al.length x.al.length)).setCell ⟨w.heap.size + 1, 4, none⟩ (.slice (some ⟨g5, 0, none⟩) x.hd.length x.hd.length)).cell? ⟨w.heap.size + 1, 3, none⟩ = some (.slice (some ⟨g4, 0, none⟩) x.al.length x.al.length) := by simp [go_sem, k5_1_3]
  have r5 : ((((((w5q.setCell ⟨w.heap.size + 1 + 1, 4, none⟩ (.slice (some ⟨g5, 0, none⟩) x.hd.length x.hd.length)).setCell ⟨w.heap.size + 1, 0, none⟩ (.slice (some ⟨g1, 0, none⟩) x.ds.length x.ds.length)).setCell ⟨w.heap.size + 1, 1, none⟩ (.slice (some ⟨g2, 0, none⟩) x.cs.length x.cs.length)).setCell ⟨w.heap.size + 1, 2, none⟩ (.slice (some ⟨g3, 0, none⟩) x.ms.length x.ms.length)).setCell ⟨w.heap.size + 1, 3, none⟩ (.slice (some ⟨g4, 0, none⟩) x.al.length x.al.length)).setCell ⟨w.heap.size + 1, 4, none⟩ (.slice (some ⟨g5, 0, none⟩) x.hd.length x.hd.length)).cell? ⟨w.heap.size + 1, 4, none⟩ = some (.slice (some ⟨g5, 0, none⟩) x.hd.length x.hd.length) := by simp [go_sem, k5_1_4]
  have hsz : ((((((w5q.setCell ⟨w.heap.size + 1 + 1, 4, none⟩ (.slice (some ⟨g5, 0, none⟩) x.hd.length x.hd.length)).setCell ⟨w.heap.size + 1, 0, none⟩ (.slice (some ⟨g1, 0, none⟩) x.ds.length x.ds.length)).setCell ⟨w.heap.size + 1, 1, none⟩ (.slice (some ⟨g2, 0, none⟩) x.cs.length x.cs.length)).setCell ⟨w.heap.size + 1, 2, none⟩ (.slice (some ⟨g3, 0, none⟩) x.ms.length x.ms.length)).setCell ⟨w.heap.size + 1, 3, none⟩ (.slice (some ⟨g4, 0, none⟩) x.al.length x.al.length)).setCell ⟨w.heap.size + 1, 4, none⟩ (.slice (some ⟨g5, 0, none⟩) x.hd.length x.hd.length)).heap.size = w5q.heap.size := by simp [World.setCell]
  clear k5_0_4 k5_1_0 k5_1_1 k5_1_2 k5_1_3 k5_1_4 k5_2_0 k5_2_1 k5_2_2 k5_2_3 k5_2_4 f5_1_0 f5_1_1 f5_1_2 f5_1_3 f5_1_4 f5_2_0 f5_2_1 f5_2_2 f5_2_3 f5_2_4
  generalize ((((((w5q.setCell ⟨w.heap.size + 1 + 1, 4, none⟩ (.slice (some ⟨g5, 0, none⟩) x.hd.length x.hd.length)).setCell ⟨w.heap.size + 1, 0, none⟩ (.slice (some ⟨g1, 0, none⟩) x.ds.length x.ds.length)).setCell ⟨w.heap.size + 1, 1, none⟩ (.slice (some ⟨g2, 0, none⟩) x.cs.length x.cs.length)).setCell ⟨w.heap.size + 1, 2, none⟩ (.slice (some ⟨g3, 0, none⟩) x.ms.length x.ms.length)).setCell ⟨w.heap.size + 1, 3, none⟩ (.slice (some ⟨g4, 0, none⟩) x.al.length x.al.length)).setCell ⟨w.heap.size + 1, 4, none⟩ (.slice (some ⟨g5, 0, none⟩) x.hd.length x.hd.length)) = WF at *
  refine bodyPost_ret (v := .agg #[.slice (some ⟨g1, 0, none⟩) x.ds.length x.ds.length, .slice (some ⟨g2, 0, none⟩) x.cs.length x.cs.length, .slice (some ⟨g3, 0, none⟩) x.ms.length x.ms.length, .slice (some ⟨g4, 0, none⟩) x.al.length x.al.length, .slice (some ⟨g5, 0, none⟩) x.hd.length x.hd.length]) (by simp [results, Tryz.results11, go_sem, r1, r2, r3, r4, r5]; (try rfl)) rfl ⟨[.slice (some ⟨g1, 0, none⟩) x.ds.length x.ds.length, .slice (some ⟨g2, 0, none⟩) x.cs.length x.cs.length, .slice (some ⟨g3, 0, none⟩) x.ms.length x.ms.length, .slice (some ⟨g4, 0, none⟩) x.al.length x.al.length, .slice (some ⟨g5, 0, none⟩) x.hd.length x.hd.length], rfl, ?_, BW⟩
  refine ⟨_, _, _, _, _, _, _, _, _, _, five (In (w.heap.size + 3) w1q.heap.size) (In w1q.heap.size w2q.heap.size) (In w2q.heap.size w3q.heap.size) (In w3q.heap.size w4q.heap.size) (In w4q.heap.size w5q.heap.size), rfl, ?_, ?_, ?_, ?_, ?_, ap_in (by omega) (by omega) (by omega), ?_⟩
  · exact OL.keep L1.out (SO _ (fun h => by have := h.1; omega) (fun h => by have := h.1; omega))
  · exact OL.keep L2.out (SO _ (fun h => by have := h.1; omega) (fun h => by have := h.1; omega))
  · exact OL.keep L3.out (SO _ (fun h => by have := h.1; omega) (fun h => by have := h.1; omega))
  · exact OL.keep L4.out (SO _ (fun h => by have := h.1; omega) (fun h => by have := h.1; omega))
  · exact OL.keep L5.out (SO _ (fun h => by have := h.1; omega) (fun h => by have := h.1; omega))
  · intro i b hb
    rw [hsz]
    match i, hb with
    | 0, hb => exact ⟨by have := hb.1; omega, by have := hb.2; omega⟩
    | 1, hb => exact ⟨by have := hb.1; omega, by have := hb.2; omega⟩
    | 2, hb => exact ⟨by have := hb.1; omega, by have := hb.2; omega⟩
    | 3, hb => exact ⟨by have := hb.1; omega, by have := hb.2; omega⟩
    | 4, hb => exact ⟨by have := hb.1; omega, by have := hb.2; omega⟩
    | (_ + 5), hb => exact hb.elim
theorem toDSystem_any (x : Sy) (A1 A2 A3 A4 A5 : Option Addr) (c1 c2 c3 c4 c5 : Nat) (S : Nat → Prop) (w : World) (h1 : LRow dfR w S A1 x.ds) (h2 : LRow cpR w S A2 x.cs) (h3 : LRow mtR w S A3 x.ms) (h4 : LRow txtR w S A4 x.al) (h5 : LRow txtR w S A5 x.hd) (hS : ∀ b, S b → b < w.heap.size) (ok : okSy x) :
    Calls Tryz.prog 11 #[.agg #[.slice A1 x.ds.length c1, .slice A2 x.cs.length c2, .slice A3 x.ms.length c3, .slice A4 x.al.length c4, .slice A5 x.hd.length c5]] w (MadeR syR x w) :=
  (toOSystem_any x A1 A2 A3 A4 A5 c1 c2 c3 c4 c5 S w h1 h2 h3 h4 h5 hS ok).mono fun _ _ h => h.weak
end Go.Proofs.YtdgcpaeneafejaaGreatDoor
