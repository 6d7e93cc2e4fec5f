/- Systems in the laws' own helpers. -/
import Derived.Test.YtfhcokbphcjknaaGreatDoorSysIs
namespace Go.Proofs.YtfhcokbphcjknaaGreatDoor
open Go.RowKit
set_option maxRecDepth 100000 in
set_option maxHeartbeats 4000000 in
theorem toDSystem_any (x : Sy) (A1 A2 A3 A4 A5 : Option Addr) (c1 c2 c3 c4 c5 : Nat) (S : Nat → Prop) (w : World) (h1 : LRow dfR w S A1 x.ds) (h2 : LRow cpR w S A2 x.cs) (h3 : LRow mtR w S A3 x.ms) (h4 : LRow txtR w S A4 x.al) (h5 : LRow txtR w S A5 x.hd) (hS : ∀ b, S b → b < w.heap.size) (ok : okSy x) :
    Calls Tryz.prog 8 #[.agg #[.slice A1 x.ds.length c1, .slice A2 x.cs.length c2, .slice A3 x.ms.length c3, .slice A4 x.al.length c4, .slice A5 x.hd.length c5]] w (MadeR syR x w) := by
  obtain ⟨ok1, ok2, ok3, ok4, ok5⟩ := ok
  have hm1 : x.ds.length ≤ maxLen := by have := ok1.1; unfold maxLen; omega
  have HM1 := Lib.hid hm1
  have C1 := Lib.hid (fun (W : World) (hW : Below w.heap.size w W) (hs : w.heap.size + 3 ≤ W.heap.size) => (Calls.mono (toDDefinitionS_any A1 x.ds.length c1 x.ds W S (h1.keep (SameOn.of_below hW hS)) (fun b hb => Nat.lt_of_lt_of_le (hS b hb) hW.size) rfl ok1) (fun e w' ⟨he, hl, hb⟩ => (⟨W.heap.size, he, hl.more (fun b hb => ⟨Nat.le_trans hs hb.1, hb.2⟩), hW.trans (Below.mono hb hW.size), hb⟩ : ∃ g : Nat, e = Ending.returned (.slice (some ⟨g, 0, none⟩) x.ds.length x.ds.length) ∧ LRow dfR w' (In (w.heap.size + 3) w'.heap.size) (some ⟨g, 0, none⟩) x.ds ∧ Below w.heap.size w w' ∧ Below W.heap.size W w'))))
  have hm2 : x.cs.length ≤ maxLen := by have := ok2.1; unfold maxLen; omega
  have HM2 := Lib.hid hm2
  have C2 := Lib.hid (fun (W : World) (hW : Below w.heap.size w W) (hs : w.heap.size + 3 ≤ W.heap.size) => (Calls.mono (toDComponentS_any A2 x.cs.length c2 x.cs W S (h2.keep (SameOn.of_below hW hS)) (fun b hb => Nat.lt_of_lt_of_le (hS b hb) hW.size) rfl ok2) (fun e w' ⟨he, hl, hb⟩ => (⟨W.heap.size, he, hl.more (fun b hb => ⟨Nat.le_trans hs hb.1, hb.2⟩), hW.trans (Below.mono hb hW.size), hb⟩ : ∃ g : Nat, e = Ending.returned (.slice (some ⟨g, 0, none⟩) x.cs.length x.cs.length) ∧ LRow cpR w' (In (w.heap.size + 3) w'.heap.size) (some ⟨g, 0, none⟩) x.cs ∧ Below w.heap.size w w' ∧ Below W.heap.size W w'))))
  have hm3 : x.ms.length ≤ maxLen := by have := ok3.1; unfold maxLen; omega
  have HM3 := Lib.hid hm3
  have C3 := Lib.hid (fun (W : World) (hW : Below w.heap.size w W) (hs : w.heap.size + 3 ≤ W.heap.size) => (Calls.mono (toDMeetingS_any A3 x.ms.length c3 x.ms W S (h3.keep (SameOn.of_below hW hS)) (fun b hb => Nat.lt_of_lt_of_le (hS b hb) hW.size) rfl ok3) (fun e w' ⟨he, hl, hb⟩ => (⟨W.heap.size, he, hl.more (fun b hb => ⟨Nat.le_trans hs hb.1, hb.2⟩), hW.trans (Below.mono hb hW.size), hb⟩ : ∃ g : Nat, e = Ending.returned (.slice (some ⟨g, 0, none⟩) x.ms.length x.ms.length) ∧ LRow mtR w' (In (w.heap.size + 3) w'.heap.size) (some ⟨g, 0, none⟩) x.ms ∧ Below w.heap.size w w' ∧ Below W.heap.size W w'))))
  have hm4 : x.al.length ≤ maxLen := by have := ok4.1; unfold maxLen; omega
  have HM4 := Lib.hid hm4
  have C4 := Lib.hid (fun (W : World) (hW : Below w.heap.size w W) (hs : w.heap.size + 3 ≤ W.heap.size) => (Calls.mono (toDStringS_any A4 x.al.length c4 x.al W S (h4.keep (SameOn.of_below hW hS)) (fun b hb => Nat.lt_of_lt_of_le (hS b hb) hW.size) rfl ok4) (fun e w' ⟨he, hl, hb⟩ => (⟨W.heap.size, he, hl.more (fun b hb => ⟨Nat.le_trans hs hb.1, hb.2⟩), hW.trans (Below.mono hb hW.size), hb⟩ : ∃ g : Nat, e = Ending.returned (.slice (some ⟨g, 0, none⟩) x.al.length x.al.length) ∧ LRow txtR w' (In (w.heap.size + 3) w'.heap.size) (some ⟨g, 0, none⟩) x.al ∧ Below w.heap.size w w' ∧ Below W.heap.size W w'))))
  have hm5 : x.hd.length ≤ maxLen := by have := ok5.1; unfold maxLen; omega
  have HM5 := Lib.hid hm5
  have C5 := Lib.hid (fun (W : World) (hW : Below w.heap.size w W) (hs : w.heap.size + 3 ≤ W.heap.size) => (Calls.mono (toDStringS_any A5 x.hd.length c5 x.hd W S (h5.keep (SameOn.of_below hW hS)) (fun b hb => Nat.lt_of_lt_of_le (hS b hb) hW.size) rfl ok5) (fun e w' ⟨he, hl, hb⟩ => (⟨W.heap.size, he, hl.more (fun b hb => ⟨Nat.le_trans hs hb.1, hb.2⟩), hW.trans (Below.mono hb hW.size), hb⟩ : ∃ g : Nat, e = Ending.returned (.slice (some ⟨g, 0, none⟩) x.hd.length x.hd.length) ∧ LRow txtR w' (In (w.heap.size + 3) w'.heap.size) (some ⟨g, 0, none⟩) x.hd ∧ Below w.heap.size w w' ∧ Below W.heap.size W w'))))
  clear h1 ok1 hm1 h2 ok2 hm2 h3 ok3 hm3 h4 ok4 hm4 h5 ok5 hm5 hS
  go_enter Tryz.func8, Tryz.ntmps8
  go_wp2_with fail
  refine (C1.out _ (by repeat (first | exact Below.refl _ _ | refine Below.setCell ?_ (by simp) _ | refine Below.alloc ?_ (by simp <;> omega) _)) (by simp <;> omega)).mono ?_
  rintro e w1q ⟨g1, rfl, hl, b2, b3⟩
  obtain ⟨hcc1, hff1⟩ := bcell b3
  have hz1 : w.heap.size + 3 ≤ w1q.heap.size := by have := b3.size; (try simp at this); omega
  have k1_0_0 : w1q.cell? ⟨w.heap.size, 0, none⟩ = some (.slice A1 x.ds.length c1) := (hcc1 _ _ (by simp <;> omega)).trans (by simp [go_sem])
  have k1_0_1 : w1q.cell? ⟨w.heap.size, 1, none⟩ = some (.slice A2 x.cs.length c2) := (hcc1 _ _ (by simp <;> omega)).trans (by simp [go_sem])
  have k1_0_2 : w1q.cell? ⟨w.heap.size, 2, none⟩ = some (.slice A3 x.ms.length c3) := (hcc1 _ _ (by simp <;> omega)).trans (by simp [go_sem])
  have k1_0_3 : w1q.cell? ⟨w.heap.size, 3, none⟩ = some (.slice A4 x.al.length c4) := (hcc1 _ _ (by simp <;> omega)).trans (by simp [go_sem])
  have k1_0_4 : w1q.cell? ⟨w.heap.size, 4, none⟩ = some (.slice A5 x.hd.length c5) := (hcc1 _ _ (by simp <;> omega)).trans (by simp [go_sem])
  have k1_1_0 : w1q.cell? ⟨w.heap.size + 1, 0, none⟩ = some (.slice none 0 0) := (hcc1 _ _ (by simp <;> omega)).trans (by simp [go_sem])
  have f1_1_0 : w1q.frozen? ⟨w.heap.size + 1, 0, none⟩ = false := (hff1 _ _ (by simp <;> omega)).trans (by simp [go_sem])
  have k1_1_1 : w1q.cell? ⟨w.heap.size + 1, 1, none⟩ = some (.slice none 0 0) := (hcc1 _ _ (by simp <;> omega)).trans (by simp [go_sem])
  have f1_1_1 : w1q.frozen? ⟨w.heap.size + 1, 1, none⟩ = false := (hff1 _ _ (by simp <;> omega)).trans (by simp [go_sem])
  have k1_1_2 : w1q.cell? ⟨w.heap.size + 1, 2, none⟩ = some (.slice none 0 0) := (hcc1 _ _ (by simp <;> omega)).trans (by simp [go_sem])
  have f1_1_2 : w1q.frozen? ⟨w.heap.size + 1, 2, none⟩ = false := (hff1 _ _ (by simp <;> omega)).trans (by simp [go_sem])
  have k1_1_3 : w1q.cell? ⟨w.heap.size + 1, 3, none⟩ = some (.slice none 0 0) := (hcc1 _ _ (by simp <;> omega)).trans (by simp [go_sem])
  have f1_1_3 : w1q.frozen? ⟨w.heap.size + 1, 3, none⟩ = false := (hff1 _ _ (by simp <;> omega)).trans (by simp [go_sem])
  have k1_1_4 : w1q.cell? ⟨w.heap.size + 1, 4, none⟩ = some (.slice none 0 0) := (hcc1 _ _ (by simp <;> omega)).trans (by simp [go_sem])
  have f1_1_4 : w1q.frozen? ⟨w.heap.size + 1, 4, none⟩ = false := (hff1 _ _ (by simp <;> omega)).trans (by simp [go_sem])
  have k1_2_0 : w1q.cell? ⟨w.heap.size + 1 + 1, 0, none⟩ = some (.slice none 0 0) := (hcc1 _ _ (by simp <;> omega)).trans (by simp [go_sem])
  have f1_2_0 : w1q.frozen? ⟨w.heap.size + 1 + 1, 0, none⟩ = false := (hff1 _ _ (by simp <;> omega)).trans (by simp [go_sem])
  have k1_2_1 : w1q.cell? ⟨w.heap.size + 1 + 1, 1, none⟩ = some (.slice none 0 0) := (hcc1 _ _ (by simp <;> omega)).trans (by simp [go_sem])
  have f1_2_1 : w1q.frozen? ⟨w.heap.size + 1 + 1, 1, none⟩ = false := (hff1 _ _ (by simp <;> omega)).trans (by simp [go_sem])
  have k1_2_2 : w1q.cell? ⟨w.heap.size + 1 + 1, 2, none⟩ = some (.slice none 0 0) := (hcc1 _ _ (by simp <;> omega)).trans (by simp [go_sem])
  have f1_2_2 : w1q.frozen? ⟨w.heap.size + 1 + 1, 2, none⟩ = false := (hff1 _ _ (by simp <;> omega)).trans (by simp [go_sem])
  have k1_2_3 : w1q.cell? ⟨w.heap.size + 1 + 1, 3, none⟩ = some (.slice none 0 0) := (hcc1 _ _ (by simp <;> omega)).trans (by simp [go_sem])
  have f1_2_3 : w1q.frozen? ⟨w.heap.size + 1 + 1, 3, none⟩ = false := (hff1 _ _ (by simp <;> omega)).trans (by simp [go_sem])
  have k1_2_4 : w1q.cell? ⟨w.heap.size + 1 + 1, 4, none⟩ = some (.slice none 0 0) := (hcc1 _ _ (by simp <;> omega)).trans (by simp [go_sem])
  have f1_2_4 : w1q.frozen? ⟨w.heap.size + 1 + 1, 4, none⟩ = false := (hff1 _ _ (by simp <;> omega)).trans (by simp [go_sem])
  clear hcc1 hff1
  have B1q := Lib.hid b2
  have L1 := Lib.hid hl
  clear b2 b3 hl
  go_wp2_with fail
  refine (C2.out _ (B1q.out.setCell (by simp <;> omega) _) (by simp [World.setCell] <;> omega)).mono ?_
  rintro e w2q ⟨g2, rfl, hl, b2, b3⟩
  obtain ⟨hcc2, hff2⟩ := bcell b3
  have hz2 : w.heap.size + 3 ≤ w2q.heap.size := by have := b3.size; (try simp [World.setCell] at this); omega
  have k2_0_1 : w2q.cell? ⟨w.heap.size, 1, none⟩ = some (.slice A2 x.cs.length c2) := (hcc2 _ _ (by simp [World.setCell] <;> omega)).trans (by simp [go_sem, k1_0_1])
  have k2_0_2 : w2q.cell? ⟨w.heap.size, 2, none⟩ = some (.slice A3 x.ms.length c3) := (hcc2 _ _ (by simp [World.setCell] <;> omega)).trans (by simp [go_sem, k1_0_2])
  have k2_0_3 : w2q.cell? ⟨w.heap.size, 3, none⟩ = some (.slice A4 x.al.length c4) := (hcc2 _ _ (by simp [World.setCell] <;> omega)).trans (by simp [go_sem, k1_0_3])
  have k2_0_4 : w2q.cell? ⟨w.heap.size, 4, none⟩ = some (.slice A5 x.hd.length c5) := (hcc2 _ _ (by simp [World.setCell] <;> omega)).trans (by simp [go_sem, k1_0_4])
  have k2_1_0 : w2q.cell? ⟨w.heap.size + 1, 0, none⟩ = some (.slice none 0 0) := (hcc2 _ _ (by simp [World.setCell] <;> omega)).trans (by simp [go_sem, k1_1_0])
  have f2_1_0 : w2q.frozen? ⟨w.heap.size + 1, 0, none⟩ = false := (hff2 _ _ (by simp [World.setCell] <;> omega)).trans (by simp [go_sem, f1_1_0])
  have k2_1_1 : w2q.cell? ⟨w.heap.size + 1, 1, none⟩ = some (.slice none 0 0) := (hcc2 _ _ (by simp [World.setCell] <;> omega)).trans (by simp [go_sem, k1_1_1])
  have f2_1_1 : w2q.frozen? ⟨w.heap.size + 1, 1, none⟩ = false := (hff2 _ _ (by simp [World.setCell] <;> omega)).trans (by simp [go_sem, f1_1_1])
  have k2_1_2 : w2q.cell? ⟨w.heap.size + 1, 2, none⟩ = some (.slice none 0 0) := (hcc2 _ _ (by simp [World.setCell] <;> omega)).trans (by simp [go_sem, k1_1_2])
  have f2_1_2 : w2q.frozen? ⟨w.heap.size + 1, 2, none⟩ = false := (hff2 _ _ (by simp [World.setCell] <;> omega)).trans (by simp [go_sem, f1_1_2])
  have k2_1_3 : w2q.cell? ⟨w.heap.size + 1, 3, none⟩ = some (.slice none 0 0) := (hcc2 _ _ (by simp [World.setCell] <;> omega)).trans (by simp [go_sem, k1_1_3])
  have f2_1_3 : w2q.frozen? ⟨w.heap.size + 1, 3, none⟩ = false := (hff2 _ _ (by simp [World.setCell] <;> omega)).trans (by simp [go_sem, f1_1_3])
  have k2_1_4 : w2q.cell? ⟨w.heap.size + 1, 4, none⟩ = some (.slice none 0 0) := (hcc2 _ _ (by simp [World.setCell] <;> omega)).trans (by simp [go_sem, k1_1_4])
  have f2_1_4 : w2q.frozen? ⟨w.heap.size + 1, 4, none⟩ = false := (hff2 _ _ (by simp [World.setCell] <;> omega)).trans (by simp [go_sem, f1_1_4])
  have k2_2_0 : w2q.cell? ⟨w.heap.size + 1 + 1, 0, none⟩ = some (.slice (some ⟨g1, 0, none⟩) x.ds.length x.ds.length) := (hcc2 _ _ (by simp [World.setCell] <;> omega)).trans (by simp [go_sem, k1_2_0])
  have f2_2_0 : w2q.frozen? ⟨w.heap.size + 1 + 1, 0, none⟩ = false := (hff2 _ _ (by simp [World.setCell] <;> omega)).trans (by simp [go_sem, f1_2_0])
  have k2_2_1 : w2q.cell? ⟨w.heap.size + 1 + 1, 1, none⟩ = some (.slice none 0 0) := (hcc2 _ _ (by simp [World.setCell] <;> omega)).trans (by simp [go_sem, k1_2_1])
  have f2_2_1 : w2q.frozen? ⟨w.heap.size + 1 + 1, 1, none⟩ = false := (hff2 _ _ (by simp [World.setCell] <;> omega)).trans (by simp [go_sem, f1_2_1])
  have k2_2_2 : w2q.cell? ⟨w.heap.size + 1 + 1, 2, none⟩ = some (.slice none 0 0) := (hcc2 _ _ (by simp [World.setCell] <;> omega)).trans (by simp [go_sem, k1_2_2])
  have f2_2_2 : w2q.frozen? ⟨w.heap.size + 1 + 1, 2, none⟩ = false := (hff2 _ _ (by simp [World.setCell] <;> omega)).trans (by simp [go_sem, f1_2_2])
  have k2_2_3 : w2q.cell? ⟨w.heap.size + 1 + 1, 3, none⟩ = some (.slice none 0 0) := (hcc2 _ _ (by simp [World.setCell] <;> omega)).trans (by simp [go_sem, k1_2_3])
  have f2_2_3 : w2q.frozen? ⟨w.heap.size + 1 + 1, 3, none⟩ = false := (hff2 _ _ (by simp [World.setCell] <;> omega)).trans (by simp [go_sem, f1_2_3])
  have k2_2_4 : w2q.cell? ⟨w.heap.size + 1 + 1, 4, none⟩ = some (.slice none 0 0) := (hcc2 _ _ (by simp [World.setCell] <;> omega)).trans (by simp [go_sem, k1_2_4])
  have f2_2_4 : w2q.frozen? ⟨w.heap.size + 1 + 1, 4, none⟩ = false := (hff2 _ _ (by simp [World.setCell] <;> omega)).trans (by simp [go_sem, f1_2_4])
  clear k1_0_0 k1_0_1 k1_0_2 k1_0_3 k1_0_4 k1_1_0 k1_1_1 k1_1_2 k1_1_3 k1_1_4 k1_2_0 k1_2_1 k1_2_2 k1_2_3 k1_2_4 f1_1_0 f1_1_1 f1_1_2 f1_1_3 f1_1_4 f1_2_0 f1_2_1 f1_2_2 f1_2_3 f1_2_4
  clear hcc2 hff2
  have B2q := Lib.hid b2
  have L1 := Lib.hid (carry L1.out (by omega) b3)
  have L2 := Lib.hid hl
  clear b2 b3 hl hz1
  go_wp2_with fail
  refine (C3.out _ (B2q.out.setCell (by simp <;> omega) _) (by simp [World.setCell] <;> omega)).mono ?_
  rintro e w3q ⟨g3, rfl, hl, b2, b3⟩
  obtain ⟨hcc3, hff3⟩ := bcell b3
  have hz3 : w.heap.size + 3 ≤ w3q.heap.size := by have := b3.size; (try simp [World.setCell] at this); omega
  have k3_0_2 : w3q.cell? ⟨w.heap.size, 2, none⟩ = some (.slice A3 x.ms.length c3) := (hcc3 _ _ (by simp [World.setCell] <;> omega)).trans (by simp [go_sem, k2_0_2])
  have k3_0_3 : w3q.cell? ⟨w.heap.size, 3, none⟩ = some (.slice A4 x.al.length c4) := (hcc3 _ _ (by simp [World.setCell] <;> omega)).trans (by simp [go_sem, k2_0_3])
  have k3_0_4 : w3q.cell? ⟨w.heap.size, 4, none⟩ = some (.slice A5 x.hd.length c5) := (hcc3 _ _ (by simp [World.setCell] <;> omega)).trans (by simp [go_sem, k2_0_4])
  have k3_1_0 : w3q.cell? ⟨w.heap.size + 1, 0, none⟩ = some (.slice none 0 0) := (hcc3 _ _ (by simp [World.setCell] <;> omega)).trans (by simp [go_sem, k2_1_0])
  have f3_1_0 : w3q.frozen? ⟨w.heap.size + 1, 0, none⟩ = false := (hff3 _ _ (by simp [World.setCell] <;> omega)).trans (by simp [go_sem, f2_1_0])
  have k3_1_1 : w3q.cell? ⟨w.heap.size + 1, 1, none⟩ = some (.slice none 0 0) := (hcc3 _ _ (by simp [World.setCell] <;> omega)).trans (by simp [go_sem, k2_1_1])
  have f3_1_1 : w3q.frozen? ⟨w.heap.size + 1, 1, none⟩ = false := (hff3 _ _ (by simp [World.setCell] <;> omega)).trans (by simp [go_sem, f2_1_1])
  have k3_1_2 : w3q.cell? ⟨w.heap.size + 1, 2, none⟩ = some (.slice none 0 0) := (hcc3 _ _ (by simp [World.setCell] <;> omega)).trans (by simp [go_sem, k2_1_2])
  have f3_1_2 : w3q.frozen? ⟨w.heap.size + 1, 2, none⟩ = false := (hff3 _ _ (by simp [World.setCell] <;> omega)).trans (by simp [go_sem, f2_1_2])
  have k3_1_3 : w3q.cell? ⟨w.heap.size + 1, 3, none⟩ = some (.slice none 0 0) := (hcc3 _ _ (by simp [World.setCell] <;> omega)).trans (by simp [go_sem, k2_1_3])
  have f3_1_3 : w3q.frozen? ⟨w.heap.size + 1, 3, none⟩ = false := (hff3 _ _ (by simp [World.setCell] <;> omega)).trans (by simp [go_sem, f2_1_3])
  have k3_1_4 : w3q.cell? ⟨w.heap.size + 1, 4, none⟩ = some (.slice none 0 0) := (hcc3 _ _ (by simp [World.setCell] <;> omega)).trans (by simp [go_sem, k2_1_4])
  have f3_1_4 : w3q.frozen? ⟨w.heap.size + 1, 4, none⟩ = false := (hff3 _ _ (by simp [World.setCell] <;> omega)).trans (by simp [go_sem, f2_1_4])
  have k3_2_0 : w3q.cell? ⟨w.heap.size + 1 + 1, 0, none⟩ = some (.slice (some ⟨g1, 0, none⟩) x.ds.length x.ds.length) := (hcc3 _ _ (by simp [World.setCell] <;> omega)).trans (by simp [go_sem, k2_2_0])
  have f3_2_0 : w3q.frozen? ⟨w.heap.size + 1 + 1, 0, none⟩ = false := (hff3 _ _ (by simp [World.setCell] <;> omega)).trans (by simp [go_sem, f2_2_0])
  have k3_2_1 : w3q.cell? ⟨w.heap.size + 1 + 1, 1, none⟩ = some (.slice (some ⟨g2, 0, none⟩) x.cs.length x.cs.length) := (hcc3 _ _ (by simp [World.setCell] <;> omega)).trans (by simp [go_sem, k2_2_1])
  have f3_2_1 : w3q.frozen? ⟨w.heap.size + 1 + 1, 1, none⟩ = false := (hff3 _ _ (by simp [World.setCell] <;> omega)).trans (by simp [go_sem, f2_2_1])
  have k3_2_2 : w3q.cell? ⟨w.heap.size + 1 + 1, 2, none⟩ = some (.slice none 0 0) := (hcc3 _ _ (by simp [World.setCell] <;> omega)).trans (by simp [go_sem, k2_2_2])
  have f3_2_2 : w3q.frozen? ⟨w.heap.size + 1 + 1, 2, none⟩ = false := (hff3 _ _ (by simp [World.setCell] <;> omega)).trans (by simp [go_sem, f2_2_2])
  have k3_2_3 : w3q.cell? ⟨w.heap.size + 1 + 1, 3, none⟩ = some (.slice none 0 0) := (hcc3 _ _ (by simp [World.setCell] <;> omega)).trans (by simp [go_sem, k2_2_3])
  have f3_2_3 : w3q.frozen? ⟨w.heap.size + 1 + 1, 3, none⟩ = false := (hff3 _ _ (by simp [World.setCell] <;> omega)).trans (by simp [go_sem, f2_2_3])
  have k3_2_4 : w3q.cell? ⟨w.heap.size + 1 + 1, 4, none⟩ = some (.slice none 0 0) := (hcc3 _ _ (by simp [World.setCell] <;> omega)).trans (by simp [go_sem, k2_2_4])
  have f3_2_4 : w3q.frozen? ⟨w.heap.size + 1 + 1, 4, none⟩ = false := (hff3 _ _ (by simp [World.setCell] <;> omega)).trans (by simp [go_sem, f2_2_4])
  clear k2_0_1 k2_0_2 k2_0_3 k2_0_4 k2_1_0 k2_1_1 k2_1_2 k2_1_3 k2_1_4 k2_2_0 k2_2_1 k2_2_2 k2_2_3 k2_2_4 f2_1_0 f2_1_1 f2_1_2 f2_1_3 f2_1_4 f2_2_0 f2_2_1 f2_2_2 f2_2_3 f2_2_4
  clear hcc3 hff3
  have B3q := Lib.hid b2
  have L1 := Lib.hid (carry L1.out (by omega) b3)
  have L2 := Lib.hid (carry L2.out (by omega) b3)
  have L3 := Lib.hid hl
  clear b2 b3 hl hz2
  go_wp2_with fail
  refine (C4.out _ (B3q.out.setCell (by simp <;> omega) _) (by simp [World.setCell] <;> omega)).mono ?_
  rintro e w4q ⟨g4, rfl, hl, b2, b3⟩
  obtain ⟨hcc4, hff4⟩ := bcell b3
  have hz4 : w.heap.size + 3 ≤ w4q.heap.size := by have := b3.size; (try simp [World.setCell] at this); omega
  have k4_0_3 : w4q.cell? ⟨w.heap.size, 3, none⟩ = some (.slice A4 x.al.length c4) := (hcc4 _ _ (by simp [World.setCell] <;> omega)).trans (by simp [go_sem, k3_0_3])
  have k4_0_4 : w4q.cell? ⟨w.heap.size, 4, none⟩ = some (.slice A5 x.hd.length c5) := (hcc4 _ _ (by simp [World.setCell] <;> omega)).trans (by simp [go_sem, k3_0_4])
  have k4_1_0 : w4q.cell? ⟨w.heap.size + 1, 0, none⟩ = some (.slice none 0 0) := (hcc4 _ _ (by simp [World.setCell] <;> omega)).trans (by simp [go_sem, k3_1_0])
  have f4_1_0 : w4q.frozen? ⟨w.heap.size + 1, 0, none⟩ = false := (hff4 _ _ (by simp [World.setCell] <;> omega)).trans (by simp [go_sem, f3_1_0])
  have k4_1_1 : w4q.cell? ⟨w.heap.size + 1, 1, none⟩ = some (.slice none 0 0) := (hcc4 _ _ (by simp [World.setCell] <;> omega)).trans (by simp [go_sem, k3_1_1])
  have f4_1_1 : w4q.frozen? ⟨w.heap.size + 1, 1, none⟩ = false := (hff4 _ _ (by simp [World.setCell] <;> omega)).trans (by simp [go_sem, f3_1_1])
  have k4_1_2 : w4q.cell? ⟨w.heap.size + 1, 2, none⟩ = some (.slice none 0 0) := (hcc4 _ _ (by simp [World.setCell] <;> omega)).trans (by simp [go_sem, k3_1_2])
  have f4_1_2 : w4q.frozen? ⟨w.heap.size + 1, 2, none⟩ = false := (hff4 _ _ (by simp [World.setCell] <;> omega)).trans (by simp [go_sem, f3_1_2])
  have k4_1_3 : w4q.cell? ⟨w.heap.size + 1, 3, none⟩ = some (.slice none 0 0) := (hcc4 _ _ (by simp [World.setCell] <;> omega)).trans (by simp [go_sem, k3_1_3])
  have f4_1_3 : w4q.frozen? ⟨w.heap.size + 1, 3, none⟩ = false := (hff4 _ _ (by simp [World.setCell] <;> omega)).trans (by simp [go_sem, f3_1_3])
  have k4_1_4 : w4q.cell? ⟨w.heap.size + 1, 4, none⟩ = some (.slice none 0 0) := (hcc4 _ _ (by simp [World.setCell] <;> omega)).trans (by simp [go_sem, k3_1_4])
  have f4_1_4 : w4q.frozen? ⟨w.heap.size + 1, 4, none⟩ = false := (hff4 _ _ (by simp [World.setCell] <;> omega)).trans (by simp [go_sem, f3_1_4])
  have k4_2_0 : w4q.cell? ⟨w.heap.size + 1 + 1, 0, none⟩ = some (.slice (some ⟨g1, 0, none⟩) x.ds.length x.ds.length) := (hcc4 _ _ (by simp [World.setCell] <;> omega)).trans (by simp [go_sem, k3_2_0])
  have f4_2_0 : w4q.frozen? ⟨w.heap.size + 1 + 1, 0, none⟩ = false := (hff4 _ _ (by simp [World.setCell] <;> omega)).trans (by simp [go_sem, f3_2_0])
  have k4_2_1 : w4q.cell? ⟨w.heap.size + 1 + 1, 1, none⟩ = some (.slice (some ⟨g2, 0, none⟩) x.cs.length x.cs.length) := (hcc4 _ _ (by simp [World.setCell] <;> omega)).trans (by simp [go_sem, k3_2_1])
  have f4_2_1 : w4q.frozen? ⟨w.heap.size + 1 + 1, 1, none⟩ = false := (hff4 _ _ (by simp [World.setCell] <;> omega)).trans (by simp [go_sem, f3_2_1])
  have k4_2_2 : w4q.cell? ⟨w.heap.size + 1 + 1, 2, none⟩ = some (.slice (some ⟨g3, 0, none⟩) x.ms.length x.ms.length) := (hcc4 _ _ (by simp [World.setCell] <;> omega)).trans (by simp [go_sem, k3_2_2])
  have f4_2_2 : w4q.frozen? ⟨w.heap.size + 1 + 1, 2, none⟩ = false := (hff4 _ _ (by simp [World.setCell] <;> omega)).trans (by simp [go_sem, f3_2_2])
  have k4_2_3 : w4q.cell? ⟨w.heap.size + 1 + 1, 3, none⟩ = some (.slice none 0 0) := (hcc4 _ _ (by simp [World.setCell] <;> omega)).trans (by simp [go_sem, k3_2_3])
  have f4_2_3 : w4q.frozen? ⟨w.heap.size + 1 + 1, 3, none⟩ = false := (hff4 _ _ (by simp [World.setCell] <;> omega)).trans (by simp [go_sem, f3_2_3])
  have k4_2_4 : w4q.cell? ⟨w.heap.size + 1 + 1, 4, none⟩ = some (.slice none 0 0) := (hcc4 _ _ (by simp [World.setCell] <;> omega)).trans (by simp [go_sem, k3_2_4])
  have f4_2_4 : w4q.frozen? ⟨w.heap.size + 1 + 1, 4, none⟩ = false := (hff4 _ _ (by simp [World.setCell] <;> omega)).trans (by simp [go_sem, f3_2_4])
  clear k3_0_2 k3_0_3 k3_0_4 k3_1_0 k3_1_1 k3_1_2 k3_1_3 k3_1_4 k3_2_0 k3_2_1 k3_2_2 k3_2_3 k3_2_4 f3_1_0 f3_1_1 f3_1_2 f3_1_3 f3_1_4 f3_2_0 f3_2_1 f3_2_2 f3_2_3 f3_2_4
  clear hcc4 hff4
  have B4q := Lib.hid b2
  have L1 := Lib.hid (carry L1.out (by omega) b3)
  have L2 := Lib.hid (carry L2.out (by omega) b3)
  have L3 := Lib.hid (carry L3.out (by omega) b3)
  have L4 := Lib.hid hl
  clear b2 b3 hl hz3
  go_wp2_with fail
  refine (C5.out _ (B4q.out.setCell (by simp <;> omega) _) (by simp [World.setCell] <;> omega)).mono ?_
  rintro e w5q ⟨g5, rfl, hl, b2, b3⟩
  obtain ⟨hcc5, hff5⟩ := bcell b3
  have hz5 : w.heap.size + 3 ≤ w5q.heap.size := by have := b3.size; (try simp [World.setCell] at this); omega
  have k5_0_4 : w5q.cell? ⟨w.heap.size, 4, none⟩ = some (.slice A5 x.hd.length c5) := (hcc5 _ _ (by simp [World.setCell] <;> omega)).trans (by simp [go_sem, k4_0_4])
  have k5_1_0 : w5q.cell? ⟨w.heap.size + 1, 0, none⟩ = some (.slice none 0 0) := (hcc5 _ _ (by simp [World.setCell] <;> omega)).trans (by simp [go_sem, k4_1_0])
  have f5_1_0 : w5q.frozen? ⟨w.heap.size + 1, 0, none⟩ = false := (hff5 _ _ (by simp [World.setCell] <;> omega)).trans (by simp [go_sem, f4_1_0])
  have k5_1_1 : w5q.cell? ⟨w.heap.size + 1, 1, none⟩ = some (.slice none 0 0) := (hcc5 _ _ (by simp [World.setCell] <;> omega)).trans (by simp [go_sem, k4_1_1])
  have f5_1_1 : w5q.frozen? ⟨w.heap.size + 1, 1, none⟩ = false := (hff5 _ _ (by simp [World.setCell] <;> omega)).trans (by simp [go_sem, f4_1_1])
  have k5_1_2 : w5q.cell? ⟨w.heap.size + 1, 2, none⟩ = some (.slice none 0 0) := (hcc5 _ _ (by simp [World.setCell] <;> omega)).trans (by simp [go_sem, k4_1_2])
  have f5_1_2 : w5q.frozen? ⟨w.heap.size + 1, 2, none⟩ = false := (hff5 _ _ (by simp [World.setCell] <;> omega)).trans (by simp [go_sem, f4_1_2])
  have k5_1_3 : w5q.cell? ⟨w.heap.size + 1, 3, none⟩ = some (.slice none 0 0) := (hcc5 _ _ (by simp [World.setCell] <;> omega)).trans (by simp [go_sem, k4_1_3])
  have f5_1_3 : w5q.frozen? ⟨w.heap.size + 1, 3, none⟩ = false := (hff5 _ _ (by simp [World.setCell] <;> omega)).trans (by simp [go_sem, f4_1_3])
  have k5_1_4 : w5q.cell? ⟨w.heap.size + 1, 4, none⟩ = some (.slice none 0 0) := (hcc5 _ _ (by simp [World.setCell] <;> omega)).trans (by simp [go_sem, k4_1_4])
  have f5_1_4 : w5q.frozen? ⟨w.heap.size + 1, 4, none⟩ = false := (hff5 _ _ (by simp [World.setCell] <;> omega)).trans (by simp [go_sem, f4_1_4])
  have k5_2_0 : w5q.cell? ⟨w.heap.size + 1 + 1, 0, none⟩ = some (.slice (some ⟨g1, 0, none⟩) x.ds.length x.ds.length) := (hcc5 _ _ (by simp [World.setCell] <;> omega)).trans (by simp [go_sem, k4_2_0])
  have f5_2_0 : w5q.frozen? ⟨w.heap.size + 1 + 1, 0, none⟩ = false := (hff5 _ _ (by simp [World.setCell] <;> omega)).trans (by simp [go_sem, f4_2_0])
  have k5_2_1 : w5q.cell? ⟨w.heap.size + 1 + 1, 1, none⟩ = some (.slice (some ⟨g2, 0, none⟩) x.cs.length x.cs.length) := (hcc5 _ _ (by simp [World.setCell] <;> omega)).trans (by simp [go_sem, k4_2_1])
  have f5_2_1 : w5q.frozen? ⟨w.heap.size + 1 + 1, 1, none⟩ = false := (hff5 _ _ (by simp [World.setCell] <;> omega)).trans (by simp [go_sem, f4_2_1])
  have k5_2_2 : w5q.cell? ⟨w.heap.size + 1 + 1, 2, none⟩ = some (.slice (some ⟨g3, 0, none⟩) x.ms.length x.ms.length) := (hcc5 _ _ (by simp [World.setCell] <;> omega)).trans (by simp [go_sem, k4_2_2])
  have f5_2_2 : w5q.frozen? ⟨w.heap.size + 1 + 1, 2, none⟩ = false := (hff5 _ _ (by simp [World.setCell] <;> omega)).trans (by simp [go_sem, f4_2_2])
  have k5_2_3 : w5q.cell? ⟨w.heap.size + 1 + 1, 3, none⟩ = some (.slice (some ⟨g4, 0, none⟩) x.al.length x.al.length) := (hcc5 _ _ (by simp [World.setCell] <;> omega)).trans (by simp [go_sem, k4_2_3])
  have f5_2_3 : w5q.frozen? ⟨w.heap.size + 1 + 1, 3, none⟩ = false := (hff5 _ _ (by simp [World.setCell] <;> omega)).trans (by simp [go_sem, f4_2_3])
  have k5_2_4 : w5q.cell? ⟨w.heap.size + 1 + 1, 4, none⟩ = some (.slice none 0 0) := (hcc5 _ _ (by simp [World.setCell] <;> omega)).trans (by simp [go_sem, k4_2_4])
  have f5_2_4 : w5q.frozen? ⟨w.heap.size + 1 + 1, 4, none⟩ = false := (hff5 _ _ (by simp [World.setCell] <;> omega)).trans (by simp [go_sem, f4_2_4])
  clear k4_0_3 k4_0_4 k4_1_0 k4_1_1 k4_1_2 k4_1_3 k4_1_4 k4_2_0 k4_2_1 k4_2_2 k4_2_3 k4_2_4 f4_1_0 f4_1_1 f4_1_2 f4_1_3 f4_1_4 f4_2_0 f4_2_1 f4_2_2 f4_2_3 f4_2_4
  clear hcc5 hff5
  have B5q := Lib.hid b2
  have L1 := Lib.hid (carry L1.out (by omega) b3)
  have L2 := Lib.hid (carry L2.out (by omega) b3)
  have L3 := Lib.hid (carry L3.out (by omega) b3)
  have L4 := Lib.hid (carry L4.out (by omega) b3)
  have L5 := Lib.hid hl
  clear b2 b3 hl hz4
  go_wp2
  have SO : ∀ S : Nat → Prop, ¬ S (w.heap.size + 1) → ¬ S (w.heap.size + 1 + 1) → SameOn S w5q ((((((w5q.setCell ⟨w.heap.size + 1 + 1, 4, none⟩ (.slice (some ⟨g5, 0, none⟩) x.hd.length x.hd.length)).setCell ⟨w.heap.size + 1, 0, none⟩ (.slice (some ⟨g1, 0, none⟩) x.ds.length x.ds.length)).setCell ⟨w.heap.size + 1, 1, none⟩ (.slice (some ⟨g2, 0, none⟩) x.cs.length x.cs.length)).setCell ⟨w.heap.size + 1, 2, none⟩ (.slice (some ⟨g3, 0, none⟩) x.ms.length x.ms.length)).setCell ⟨w.heap.size + 1, 3, none⟩ (.slice (some ⟨g4, 0, none⟩) x.al.length x.al.length)).setCell ⟨w.heap.size + 1, 4, none⟩ (.slice (some ⟨g5, 0, none⟩) x.hd.length x.hd.length)) := fun S n1 n2 => ((((((SameOn.refl S w5q).setCell n2).setCell n1).setCell n1).setCell n1).setCell n1).setCell n1
  have BW : Below w.heap.size w ((((((w5q.setCell ⟨w.heap.size + 1 + 1, 4, none⟩ (.slice (some ⟨g5, 0, none⟩) x.hd.length x.hd.length)).setCell ⟨w.heap.size + 1, 0, none⟩ (.slice (some ⟨g1, 0, none⟩) x.ds.length x.ds.length)).setCell ⟨w.heap.size + 1, 1, none⟩ (.slice (some ⟨g2, 0, none⟩) x.cs.length x.cs.length)).setCell ⟨w.heap.size + 1, 2, none⟩ (.slice (some ⟨g3, 0, none⟩) x.ms.length x.ms.length)).setCell ⟨w.heap.size + 1, 3, none⟩ (.slice (some ⟨g4, 0, none⟩) x.al.length x.al.length)).setCell ⟨w.heap.size + 1, 4, none⟩ (.slice (some ⟨g5, 0, none⟩) x.hd.length x.hd.length)) := (((((B5q.out.setCell (by simp <;> omega) _).setCell (by simp <;> omega) _).setCell (by simp <;> omega) _).setCell (by simp <;> omega) _).setCell (by simp <;> omega) _).setCell (by simp <;> omega) _
  have r1 : ((((((w5q.setCell ⟨w.heap.size + 1 + 1, 4, none⟩ (.slice (some ⟨g5, 0, none⟩) x.hd.length x.hd.length)).setCell ⟨w.heap.size + 1, 0, none⟩ (.slice (some ⟨g1, 0, none⟩) x.ds.length x.ds.length)).setCell ⟨w.heap.size + 1, 1, none⟩ (.slice (some ⟨g2, 0, none⟩) x.cs.length x.cs.length)).setCell ⟨w.heap.size + 1, 2, none⟩ (.slice (some ⟨g3, 0, none⟩) x.ms.length x.ms.length)).setCell ⟨w.heap.size + 1, 3, none⟩ (.slice (some ⟨g4, 0, none⟩) x.al.length x.al.length)).setCell ⟨w.heap.size + 1, 4, none⟩ (.slice (some ⟨g5, 0, none⟩) x.hd.length x.hd.length)).cell? ⟨w.heap.size + 1, 0, none⟩ = some (.slice (some ⟨g1, 0, none⟩) x.ds.length x.ds.length) := by simp [go_sem, k5_1_0]
  have r2 : ((((((w5q.setCell ⟨w.heap.size + 1 + 1, 4, none⟩ (.slice (some ⟨g5, 0, none⟩) x.hd.length x.hd.length)).setCell ⟨w.heap.size + 1, 0, none⟩ (.slice (some ⟨g1, 0, none⟩) x.ds.length x.ds.length)).setCell ⟨w.heap.size + 1, 1, none⟩ (.slice (some ⟨g2, 0, none⟩) x.cs.length x.cs.length)).setCell ⟨w.heap.size + 1, 2, none⟩ (.slice (some ⟨g3, 0, none⟩) x.ms.length x.ms.length)).setCell ⟨w.heap.size + 1, 3, none⟩ (.slice (some ⟨g4, 0, none⟩) x.al.length x.al.length)).setCell ⟨w.heap.size + 1, 4, none⟩ (.slice (some ⟨g5, 0, none⟩) x.hd.length x.hd.length)).cell? ⟨w.heap.size + 1, 1, none⟩ = some (.slice (some ⟨g2, 0, none⟩) x.cs.length x.cs.length) := by simp [go_sem, k5_1_1]
  have r3 : ((((((w5q.setCell ⟨w.heap.size + 1 + 1, 4, none⟩ (.slice (some ⟨g5, 0, none⟩) x.hd.length x.hd.length)).setCell ⟨w.heap.size + 1, 0, none⟩ (.slice (some ⟨g1, 0, none⟩) x.ds.length x.ds.length)).setCell ⟨w.heap.size + 1, 1, none⟩ (.slice (some ⟨g2, 0, none⟩) x.cs.length x.cs.length)).setCell ⟨w.heap.size + 1, 2, none⟩ (.slice (some ⟨g3, 0, none⟩) x.ms.length x.ms.length)).setCell ⟨w.heap.size + 1, 3, none⟩ (.slice (some ⟨g4, 0, none⟩) x.al.length x.al.length)).setCell ⟨w.heap.size + 1, 4, none⟩ (.slice (some ⟨g5, 0, none⟩) x.hd.length x.hd.length)).cell? ⟨w.heap.size + 1, 2, none⟩ = some (.slice (some ⟨g3, 0, none⟩) x.ms.length x.ms.length) := by simp [go_sem, k5_1_2]
  have r4 : ((((((w5q.setCell ⟨w.heap.size + 1 + 1, 4, none⟩ (.slice (some ⟨g5, 0, none⟩) x.hd.length x.hd.length)).setCell ⟨w.heap.size + 1, 0, none⟩ (.slice (some ⟨g1, 0, none⟩) x.ds.length x.ds.length)).setCell ⟨w.heap.size + 1, 1, none⟩ (.slice (some ⟨g2, 0, none⟩) x.cs.length x.cs.length)).setCell ⟨w.heap.size + 1, 2, none⟩ (.slice (some ⟨g3, 0, none⟩) x.ms.length x.ms.length)).setCell ⟨w.heap.size + 1, 3, none⟩ (.slice (some ⟨g4, 0, none⟩) x.al.length x.al.length)).setCell ⟨w.heap.size + 1, 4, none⟩ (.slice (some ⟨g5, 0, none⟩) x.hd.length x.hd.length)).cell? ⟨w.heap.size + 1, 3, none⟩ = some (.slice (some ⟨g4, 0, none⟩) x.al.length x.al.length) := by simp [go_sem, k5_1_3]
  have r5 : ((((((w5q.setCell ⟨w.heap.size + 1 + 1, 4, none⟩ (.slice (some ⟨g5, 0, none⟩) x.hd.length x.hd.length)).setCell ⟨w.heap.size + 1, 0, none⟩ (.slice (some ⟨g1, 0, none⟩) x.ds.length x.ds.length)).setCell ⟨w.heap.size + 1, 1, none⟩ (.slice (some ⟨g2, 0, none⟩) x.cs.length x.cs.length)).setCell ⟨w.heap.size + 1, 2, none⟩ (.slice (some ⟨g3, 0, none⟩) x.ms.length x.ms.length)).setCell ⟨w.heap.size + 1, 3, none⟩ (.slice (some ⟨g4, 0, none⟩) x.al.length x.al.length)).setCell ⟨w.heap.size + 1, 4, none⟩ (.slice (some ⟨g5, 0, none⟩) x.hd.length x.hd.length)).cell? ⟨w.heap.size + 1, 4, none⟩ = some (.slice (some ⟨g5, 0, none⟩) x.hd.length x.hd.length) := by simp [go_sem, k5_1_4]
  have hsz : ((((((w5q.setCell ⟨w.heap.size + 1 + 1, 4, none⟩ (.slice (some ⟨g5, 0, none⟩) x.hd.length x.hd.length)).setCell ⟨w.heap.size + 1, 0, none⟩ (.slice (some ⟨g1, 0, none⟩) x.ds.length x.ds.length)).setCell ⟨w.heap.size + 1, 1, none⟩ (.slice (some ⟨g2, 0, none⟩) x.cs.length x.cs.length)).setCell ⟨w.heap.size + 1, 2, none⟩ (.slice (some ⟨g3, 0, none⟩) x.ms.length x.ms.length)).setCell ⟨w.heap.size + 1, 3, none⟩ (.slice (some ⟨g4, 0, none⟩) x.al.length x.al.length)).setCell ⟨w.heap.size + 1, 4, none⟩ (.slice (some ⟨g5, 0, none⟩) x.hd.length x.hd.length)).heap.size = w5q.heap.size := by simp [World.setCell]
  clear k5_0_4 k5_1_0 k5_1_1 k5_1_2 k5_1_3 k5_1_4 k5_2_0 k5_2_1 k5_2_2 k5_2_3 k5_2_4 f5_1_0 f5_1_1 f5_1_2 f5_1_3 f5_1_4 f5_2_0 f5_2_1 f5_2_2 f5_2_3 f5_2_4
  generalize ((((((w5q.setCell ⟨w.heap.size + 1 + 1, 4, none⟩ (.slice (some ⟨g5, 0, none⟩) x.hd.length x.hd.length)).setCell ⟨w.heap.size + 1, 0, none⟩ (.slice (some ⟨g1, 0, none⟩) x.ds.length x.ds.length)).setCell ⟨w.heap.size + 1, 1, none⟩ (.slice (some ⟨g2, 0, none⟩) x.cs.length x.cs.length)).setCell ⟨w.heap.size + 1, 2, none⟩ (.slice (some ⟨g3, 0, none⟩) x.ms.length x.ms.length)).setCell ⟨w.heap.size + 1, 3, none⟩ (.slice (some ⟨g4, 0, none⟩) x.al.length x.al.length)).setCell ⟨w.heap.size + 1, 4, none⟩ (.slice (some ⟨g5, 0, none⟩) x.hd.length x.hd.length)) = WF at *
  refine bodyPost_ret (v := .agg #[.slice (some ⟨g1, 0, none⟩) x.ds.length x.ds.length, .slice (some ⟨g2, 0, none⟩) x.cs.length x.cs.length, .slice (some ⟨g3, 0, none⟩) x.ms.length x.ms.length, .slice (some ⟨g4, 0, none⟩) x.al.length x.al.length, .slice (some ⟨g5, 0, none⟩) x.hd.length x.hd.length]) (by simp [results, Tryz.results8, go_sem, r1, r2, r3, r4, r5]; (try rfl)) rfl ⟨[.slice (some ⟨g1, 0, none⟩) x.ds.length x.ds.length, .slice (some ⟨g2, 0, none⟩) x.cs.length x.cs.length, .slice (some ⟨g3, 0, none⟩) x.ms.length x.ms.length, .slice (some ⟨g4, 0, none⟩) x.al.length x.al.length, .slice (some ⟨g5, 0, none⟩) x.hd.length x.hd.length], rfl, ?_, BW⟩
  refine ⟨_, _, _, _, _, _, _, _, _, _, rfl, ⟨Nat.le_refl _, HM1.out, ?_⟩, ⟨Nat.le_refl _, HM2.out, ?_⟩, ⟨Nat.le_refl _, HM3.out, ?_⟩, ⟨Nat.le_refl _, HM4.out, ?_⟩, ⟨Nat.le_refl _, HM5.out, ?_⟩⟩
  · refine LRow.more (LRow.keep (S := In (w.heap.size + 3) w5q.heap.size) L1.out (SO _ (fun h => by have := h.1; omega) (fun h => by have := h.1; omega))) ?_
    intro b hb
    exact ⟨by have := hb.1; omega, by rw [hsz]; exact hb.2⟩
  · refine LRow.more (LRow.keep (S := In (w.heap.size + 3) w5q.heap.size) L2.out (SO _ (fun h => by have := h.1; omega) (fun h => by have := h.1; omega))) ?_
    intro b hb
    exact ⟨by have := hb.1; omega, by rw [hsz]; exact hb.2⟩
  · refine LRow.more (LRow.keep (S := In (w.heap.size + 3) w5q.heap.size) L3.out (SO _ (fun h => by have := h.1; omega) (fun h => by have := h.1; omega))) ?_
    intro b hb
    exact ⟨by have := hb.1; omega, by rw [hsz]; exact hb.2⟩
  · refine LRow.more (LRow.keep (S := In (w.heap.size + 3) w5q.heap.size) L4.out (SO _ (fun h => by have := h.1; omega) (fun h => by have := h.1; omega))) ?_
    intro b hb
    exact ⟨by have := hb.1; omega, by rw [hsz]; exact hb.2⟩
  · refine LRow.more (LRow.keep (S := In (w.heap.size + 3) w5q.heap.size) L5.out (SO _ (fun h => by have := h.1; omega) (fun h => by have := h.1; omega))) ?_
    intro b hb
    exact ⟨by have := hb.1; omega, by rw [hsz]; exact hb.2⟩
end Go.Proofs.YtfhcokbphcjknaaGreatDoor
