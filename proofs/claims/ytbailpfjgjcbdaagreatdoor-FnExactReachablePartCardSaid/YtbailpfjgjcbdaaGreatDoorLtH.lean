/- Lts in the laws' own helpers: how much it holds. -/
/- Lts in the laws' own helpers: a copy. -/
/- Lts in the laws' own helpers: compared. -/
import Derived.BigQuiet
import Derived.StillTailTactics
import Derived.OwnWalk
import Derived.Outline
import Derived.Test.YtbailpfjgjcbdaaGreatDoorDatI
import Derived.Test.YtbailpfjgjcbdaaGreatDoorDatE
import Derived.Test.YtbailpfjgjcbdaaGreatDoorLow
namespace Go.Proofs.YtbailpfjgjcbdaaGreatDoor
open Go.RowKit
set_option linter.unusedVariables false
set_option maxRecDepth 100000 in
set_option maxHeartbeats 4000000 in
theorem szDLts_any (x : Lt) (A1 A2 : Option Addr) (c1 c2 : Nat) (S : Nat → Prop) (left : Int) (w : World) (m1 : x.ls.length ≤ maxLen) (m2 : x.es.length ≤ maxLen) (h1 : LRow txtR w S A1 x.ls) (h2 : LRow edR w S A2 x.es) (hS : ∀ b, S b → b < w.heap.size) (y2 : 0 ≤ left) (y3 : left ≤ 1048576) :
    Calls Tryz.prog 7 #[.agg #[.int .i64 x.st, .int .i64 x.ini, .slice A1 x.ls.length c1, .slice A2 x.es.length c2], .int .i64 left] w (SzRet (okLt x) (wtLt x) left w) := by
  have C1 := Lib.hid (fun (W : World) (hW : Below w.heap.size w W) (r : Int) (r0 : 0 ≤ r) (r1 : r ≤ 1048576) => (Calls.mono (szDStringS_any A1 x.ls.length c1 x.ls r W S (h1.keep (SameOn.of_below hW hS)) (fun b hb => Nat.lt_of_lt_of_le (hS b hb) hW.size) rfl m1 r0 r1) (fun e w' ⟨q, he, hq, hb⟩ => (⟨q, he, hq, hW.trans (Below.mono hb hW.size), hb⟩ : ∃ q : Int, e = Ending.returned (.int .i64 q) ∧ (q < 0 ∨ (0 ≤ q ∧ q + (wL wtZ x.ls : Nat) ≤ r ∧ okList okTx x.ls)) ∧ Below w.heap.size w w' ∧ Below W.heap.size W w'))))
  have C2 := Lib.hid (fun (W : World) (hW : Below w.heap.size w W) (r : Int) (r0 : 0 ≤ r) (r1 : r ≤ 1048576) => (Calls.mono (szDEdgeS_any A2 x.es.length c2 x.es r W rfl m2 r0 r1) (fun e w' ⟨q, he, hq, hb⟩ => (⟨q, he, hq, hW.trans (Below.mono hb hW.size), hb⟩ : ∃ q : Int, e = Ending.returned (.int .i64 q) ∧ (q < 0 ∨ (0 ≤ q ∧ q + (wL wtZ x.es : Nat) ≤ r ∧ okList okAny x.es)) ∧ Below w.heap.size w w' ∧ Below W.heap.size W w'))))
  clear h1 m1 h2 m2 hS
  go_enter Tryz.func7, Tryz.ntmps7
  go_wp2_with fail
  refine (C1.out _ (by repeat (first | exact Below.refl _ _ | refine Below.setCell ?_ (by simp) _ | refine Below.alloc ?_ (by simp <;> omega) _)) left y2 y3).mono ?_
  rintro e w1q ⟨q1, rfl, hq, b2, b3⟩
  obtain ⟨hcc1, _⟩ := bcell b3
  have hz1 : w.heap.size + 1 ≤ w1q.heap.size := by have := b3.size; (try simp at this); omega
  have hy1 : w.heap.size < w1q.heap.size := by omega
  have B1q := Lib.hid b2
  clear b2 b3
  rcases hq with hq | ⟨hp1, hl1, hok⟩
  · go_wp2
    go_ret
    exact SzRet.no B1q.out
  have hn1 : ¬ q1 < 0 := by omega
  have K1 := Lib.hid hok
  clear hok
  go_wp2_with fail
  refine (C2.out _ B1q.out q1 hp1 (by omega)).mono ?_
  rintro e w2q ⟨q2, rfl, hq, b2, b3⟩
  obtain ⟨hcc2, _⟩ := bcell b3
  have hz2 : w.heap.size + 1 ≤ w2q.heap.size := by have := b3.size; (try simp at this); omega
  have hy2 : w.heap.size < w2q.heap.size := by omega
  have B2q := Lib.hid b2
  clear b2 b3
  rcases hq with hq | ⟨hp2, hl2, hok⟩
  · go_wp2
    go_ret
    exact SzRet.no B2q.out
  have hn2 : ¬ q2 < 0 := by omega
  have K2 := Lib.hid hok
  clear hok
  go_wp2
  go_ret
  exact SzRet.yes hp2 (by show q2 + ((wL wtZ x.ls + wL wtZ x.es : Nat) : Int) ≤ left; omega) ⟨K1.out, K2.out⟩ B2q.out
end Go.Proofs.YtbailpfjgjcbdaaGreatDoor

namespace Go.Proofs.YtbailpfjgjcbdaaGreatDoor
open Go.RowKit
set_option linter.unusedSimpArgs false
set_option maxRecDepth 100000 in
set_option maxHeartbeats 4000000 in
theorem toOLts_any (x : Lt) (A1 A2 : Option Addr) (c1 c2 : Nat) (S : Nat → Prop) (w : World) (h1 : LRow txtR w S A1 x.ls) (h2 : LRow edR w S A2 x.es) (hS : ∀ b, S b → b < w.heap.size) (ok : okLt x) :
    Calls Tryz.prog 9 #[.agg #[.int .i64 x.st, .int .i64 x.ini, .slice A1 x.ls.length c1, .slice A2 x.es.length c2]] w (MadeRO ltO x w) := by
  obtain ⟨ok1, ok2⟩ := ok
  have C1 := Lib.hid (fun (W : World) (B : Nat) (hW : Below w.heap.size w W) (hs : B ≤ W.heap.size) => (Calls.mono (toOStringS_any A1 x.ls.length c1 x.ls W S (h1.keep (SameOn.of_below hW hS)) (fun b hb => Nat.lt_of_lt_of_le (hS b hb) hW.size) rfl ok1) (fun e w' ⟨he, hl, hb⟩ => (⟨W.heap.size, he, hl.more (fun b hb => ⟨Nat.le_trans hs hb.1, hb.2⟩), hW.trans (Below.mono hb hW.size), hb⟩ : ∃ g : Nat, e = Ending.returned (.slice (some ⟨g, 0, none⟩) x.ls.length x.ls.length) ∧ OL txtO 9 w' (In B w'.heap.size) (some ⟨g, 0, none⟩) x.ls.length x.ls.length x.ls ∧ Below w.heap.size w w' ∧ Below W.heap.size W w'))))
  have C2 := Lib.hid (fun (W : World) (B : Nat) (hW : Below w.heap.size w W) (hs : B ≤ W.heap.size) => (Calls.mono (toOEdgeS_any A2 x.es.length c2 x.es W S (h2.keep (SameOn.of_below hW hS)) (fun b hb => Nat.lt_of_lt_of_le (hS b hb) hW.size) rfl ok2) (fun e w' ⟨he, hl, hb⟩ => (⟨W.heap.size, he, hl.more (fun b hb => ⟨Nat.le_trans hs hb.1, hb.2⟩), hW.trans (Below.mono hb hW.size), hb⟩ : ∃ g : Nat, e = Ending.returned (.slice (some ⟨g, 0, none⟩) x.es.length x.es.length) ∧ OL edO 79 w' (In B w'.heap.size) (some ⟨g, 0, none⟩) x.es.length x.es.length x.es ∧ Below w.heap.size w w' ∧ Below W.heap.size W w'))))
  clear h1 ok1 h2 ok2 hS
  go_enter Tryz.func9, Tryz.ntmps9
  go_wp2_with fail
  refine (C1.out _ (w.heap.size + 3) (by repeat (first | exact Below.refl _ _ | refine Below.setCell ?_ (by simp) _ | refine Below.alloc ?_ (by simp <;> omega) _)) (by simp [World.setCell] <;> omega)).mono ?_
  rintro e w1q ⟨g1, rfl, hl, b2, b3⟩
  obtain ⟨hcc1, hff1⟩ := bcell b3
  have hz1 : w.heap.size + 3 ≤ w1q.heap.size := by have := b3.size; (try simp [World.setCell] at this); omega
  have k1_0_2 : w1q.cell? ⟨w.heap.size, 2, none⟩ = some (.slice A1 x.ls.length c1) := (hcc1 _ _ (by simp [World.setCell] <;> omega)).trans (by simp [go_sem])
  have k1_0_3 : w1q.cell? ⟨w.heap.size, 3, none⟩ = some (.slice A2 x.es.length c2) := (hcc1 _ _ (by simp [World.setCell] <;> omega)).trans (by simp [go_sem])
  have k1_1_0 : w1q.cell? ⟨w.heap.size + 1, 0, none⟩ = some (.int .i64 0) := (hcc1 _ _ (by simp [World.setCell] <;> omega)).trans (by simp [go_sem])
  have f1_1_0 : w1q.frozen? ⟨w.heap.size + 1, 0, none⟩ = false := (hff1 _ _ (by simp [World.setCell] <;> omega)).trans (by simp [go_sem])
  have k1_1_1 : w1q.cell? ⟨w.heap.size + 1, 1, none⟩ = some (.int .i64 0) := (hcc1 _ _ (by simp [World.setCell] <;> omega)).trans (by simp [go_sem])
  have f1_1_1 : w1q.frozen? ⟨w.heap.size + 1, 1, none⟩ = false := (hff1 _ _ (by simp [World.setCell] <;> omega)).trans (by simp [go_sem])
  have k1_1_2 : w1q.cell? ⟨w.heap.size + 1, 2, none⟩ = some (.slice none 0 0) := (hcc1 _ _ (by simp [World.setCell] <;> omega)).trans (by simp [go_sem])
  have f1_1_2 : w1q.frozen? ⟨w.heap.size + 1, 2, none⟩ = false := (hff1 _ _ (by simp [World.setCell] <;> omega)).trans (by simp [go_sem])
  have k1_1_3 : w1q.cell? ⟨w.heap.size + 1, 3, none⟩ = some (.slice none 0 0) := (hcc1 _ _ (by simp [World.setCell] <;> omega)).trans (by simp [go_sem])
  have f1_1_3 : w1q.frozen? ⟨w.heap.size + 1, 3, none⟩ = false := (hff1 _ _ (by simp [World.setCell] <;> omega)).trans (by simp [go_sem])
  have k1_2_0 : w1q.cell? ⟨w.heap.size + 1 + 1, 0, none⟩ = some (.int .i64 x.st) := (hcc1 _ _ (by simp [World.setCell] <;> omega)).trans (by simp [go_sem])
  have f1_2_0 : w1q.frozen? ⟨w.heap.size + 1 + 1, 0, none⟩ = false := (hff1 _ _ (by simp [World.setCell] <;> omega)).trans (by simp [go_sem])
  have k1_2_1 : w1q.cell? ⟨w.heap.size + 1 + 1, 1, none⟩ = some (.int .i64 x.ini) := (hcc1 _ _ (by simp [World.setCell] <;> omega)).trans (by simp [go_sem])
  have f1_2_1 : w1q.frozen? ⟨w.heap.size + 1 + 1, 1, none⟩ = false := (hff1 _ _ (by simp [World.setCell] <;> omega)).trans (by simp [go_sem])
  have k1_2_2 : w1q.cell? ⟨w.heap.size + 1 + 1, 2, none⟩ = some (.slice none 0 0) := (hcc1 _ _ (by simp [World.setCell] <;> omega)).trans (by simp [go_sem])
  have f1_2_2 : w1q.frozen? ⟨w.heap.size + 1 + 1, 2, none⟩ = false := (hff1 _ _ (by simp [World.setCell] <;> omega)).trans (by simp [go_sem])
  have k1_2_3 : w1q.cell? ⟨w.heap.size + 1 + 1, 3, none⟩ = some (.slice none 0 0) := (hcc1 _ _ (by simp [World.setCell] <;> omega)).trans (by simp [go_sem])
  have f1_2_3 : w1q.frozen? ⟨w.heap.size + 1 + 1, 3, none⟩ = false := (hff1 _ _ (by simp [World.setCell] <;> omega)).trans (by simp [go_sem])
  clear hcc1 hff1
  have B1q := Lib.hid b2
  have L1 := Lib.hid hl
  clear b2 b3 hl
  go_wp2_with fail
  refine (C2.out _ w1q.heap.size (by repeat (first | exact B1q.out | refine Below.setCell ?_ (by simp <;> omega) _)) (by simp [World.setCell] <;> omega)).mono ?_
  rintro e w2q ⟨g2, rfl, hl, b2, b3⟩
  obtain ⟨hcc2, hff2⟩ := bcell b3
  have hz2 : w.heap.size + 3 ≤ w2q.heap.size := by have := b3.size; (try simp [World.setCell] at this); omega
  have hzz2 : w1q.heap.size ≤ w2q.heap.size := by have := b3.size; simpa [World.setCell] using this
  have k2_0_3 : w2q.cell? ⟨w.heap.size, 3, none⟩ = some (.slice A2 x.es.length c2) := (hcc2 _ _ (by simp [World.setCell] <;> omega)).trans (by simp [go_sem, k1_0_3])
  have k2_1_0 : w2q.cell? ⟨w.heap.size + 1, 0, none⟩ = some (.int .i64 0) := (hcc2 _ _ (by simp [World.setCell] <;> omega)).trans (by simp [go_sem, k1_1_0])
  have f2_1_0 : w2q.frozen? ⟨w.heap.size + 1, 0, none⟩ = false := (hff2 _ _ (by simp [World.setCell] <;> omega)).trans (by simp [go_sem, f1_1_0])
  have k2_1_1 : w2q.cell? ⟨w.heap.size + 1, 1, none⟩ = some (.int .i64 0) := (hcc2 _ _ (by simp [World.setCell] <;> omega)).trans (by simp [go_sem, k1_1_1])
  have f2_1_1 : w2q.frozen? ⟨w.heap.size + 1, 1, none⟩ = false := (hff2 _ _ (by simp [World.setCell] <;> omega)).trans (by simp [go_sem, f1_1_1])
  have k2_1_2 : w2q.cell? ⟨w.heap.size + 1, 2, none⟩ = some (.slice none 0 0) := (hcc2 _ _ (by simp [World.setCell] <;> omega)).trans (by simp [go_sem, k1_1_2])
  have f2_1_2 : w2q.frozen? ⟨w.heap.size + 1, 2, none⟩ = false := (hff2 _ _ (by simp [World.setCell] <;> omega)).trans (by simp [go_sem, f1_1_2])
  have k2_1_3 : w2q.cell? ⟨w.heap.size + 1, 3, none⟩ = some (.slice none 0 0) := (hcc2 _ _ (by simp [World.setCell] <;> omega)).trans (by simp [go_sem, k1_1_3])
  have f2_1_3 : w2q.frozen? ⟨w.heap.size + 1, 3, none⟩ = false := (hff2 _ _ (by simp [World.setCell] <;> omega)).trans (by simp [go_sem, f1_1_3])
  have k2_2_0 : w2q.cell? ⟨w.heap.size + 1 + 1, 0, none⟩ = some (.int .i64 x.st) := (hcc2 _ _ (by simp [World.setCell] <;> omega)).trans (by simp [go_sem, k1_2_0])
  have f2_2_0 : w2q.frozen? ⟨w.heap.size + 1 + 1, 0, none⟩ = false := (hff2 _ _ (by simp [World.setCell] <;> omega)).trans (by simp [go_sem, f1_2_0])
  have k2_2_1 : w2q.cell? ⟨w.heap.size + 1 + 1, 1, none⟩ = some (.int .i64 x.ini) := (hcc2 _ _ (by simp [World.setCell] <;> omega)).trans (by simp [go_sem, k1_2_1])
  have f2_2_1 : w2q.frozen? ⟨w.heap.size + 1 + 1, 1, none⟩ = false := (hff2 _ _ (by simp [World.setCell] <;> omega)).trans (by simp [go_sem, f1_2_1])
  have k2_2_2 : w2q.cell? ⟨w.heap.size + 1 + 1, 2, none⟩ = some (.slice (some ⟨g1, 0, none⟩) x.ls.length x.ls.length) := (hcc2 _ _ (by simp [World.setCell] <;> omega)).trans (by simp [go_sem, k1_2_2])
  have f2_2_2 : w2q.frozen? ⟨w.heap.size + 1 + 1, 2, none⟩ = false := (hff2 _ _ (by simp [World.setCell] <;> omega)).trans (by simp [go_sem, f1_2_2])
  have k2_2_3 : w2q.cell? ⟨w.heap.size + 1 + 1, 3, none⟩ = some (.slice none 0 0) := (hcc2 _ _ (by simp [World.setCell] <;> omega)).trans (by simp [go_sem, k1_2_3])
  have f2_2_3 : w2q.frozen? ⟨w.heap.size + 1 + 1, 3, none⟩ = false := (hff2 _ _ (by simp [World.setCell] <;> omega)).trans (by simp [go_sem, f1_2_3])
  clear k1_0_2 k1_0_3 k1_1_0 k1_1_1 k1_1_2 k1_1_3 k1_2_0 k1_2_1 k1_2_2 k1_2_3 f1_1_0 f1_1_1 f1_1_2 f1_1_3 f1_2_0 f1_2_1 f1_2_2 f1_2_3
  clear hcc2 hff2
  have B2q := Lib.hid b2
  have L1 := Lib.hid (OL.carry L1.out (by omega) (by omega) b3)
  have L2 := Lib.hid hl
  clear b2 b3 hl
  go_wp2
  have SO : ∀ S : Nat → Prop, ¬ S (w.heap.size + 1) → ¬ S (w.heap.size + 1 + 1) → SameB S w2q (((((w2q.setCell ⟨w.heap.size + 1 + 1, 3, none⟩ (.slice (some ⟨g2, 0, none⟩) x.es.length x.es.length)).setCell ⟨w.heap.size + 1, 0, none⟩ (.int .i64 x.st)).setCell ⟨w.heap.size + 1, 1, none⟩ (.int .i64 x.ini)).setCell ⟨w.heap.size + 1, 2, none⟩ (.slice (some ⟨g1, 0, none⟩) x.ls.length x.ls.length)).setCell ⟨w.heap.size + 1, 3, none⟩ (.slice (some ⟨g2, 0, none⟩) x.es.length x.es.length)) := fun S n1 n2 => ((((((SameB.refl S w2q).setCell n2).setCell n1).setCell n1).setCell n1).setCell n1)
  have BW : Below w.heap.size w (((((w2q.setCell ⟨w.heap.size + 1 + 1, 3, none⟩ (.slice (some ⟨g2, 0, none⟩) x.es.length x.es.length)).setCell ⟨w.heap.size + 1, 0, none⟩ (.int .i64 x.st)).setCell ⟨w.heap.size + 1, 1, none⟩ (.int .i64 x.ini)).setCell ⟨w.heap.size + 1, 2, none⟩ (.slice (some ⟨g1, 0, none⟩) x.ls.length x.ls.length)).setCell ⟨w.heap.size + 1, 3, none⟩ (.slice (some ⟨g2, 0, none⟩) x.es.length x.es.length)) := (((((B2q.out.setCell (by simp <;> omega) _).setCell (by simp <;> omega) _).setCell (by simp <;> omega) _).setCell (by simp <;> omega) _).setCell (by simp <;> omega) _)
  have r0 : (((((w2q.setCell ⟨w.heap.size + 1 + 1, 3, none⟩ (.slice (some ⟨g2, 0, none⟩) x.es.length x.es.length)).setCell ⟨w.heap.size + 1, 0, none⟩ (.int .i64 x.st)).setCell ⟨w.heap.size + 1, 1, none⟩ (.int .i64 x.ini)).setCell ⟨w.heap.size + 1, 2, none⟩ (.slice (some ⟨g1, 0, none⟩) x.ls.length x.ls.length)).setCell ⟨w.heap.size + 1, 3, none⟩ (.slice (some ⟨g2, 0, none⟩) x.es.length x.es.length)).cell? ⟨w.heap.size + 1, 0, none⟩ = some (.int .i64 x.st) := by simp [go_sem, k2_1_0]
  have r1 : (((((w2q.setCell ⟨w.heap.size + 1 + 1, 3, none⟩ (.slice (some ⟨g2, 0, none⟩) x.es.length x.es.length)).setCell ⟨w.heap.size + 1, 0, none⟩ (.int .i64 x.st)).setCell ⟨w.heap.size + 1, 1, none⟩ (.int .i64 x.ini)).setCell ⟨w.heap.size + 1, 2, none⟩ (.slice (some ⟨g1, 0, none⟩) x.ls.length x.ls.length)).setCell ⟨w.heap.size + 1, 3, none⟩ (.slice (some ⟨g2, 0, none⟩) x.es.length x.es.length)).cell? ⟨w.heap.size + 1, 1, none⟩ = some (.int .i64 x.ini) := by simp [go_sem, k2_1_1]
  have r2 : (((((w2q.setCell ⟨w.heap.size + 1 + 1, 3, none⟩ (.slice (some ⟨g2, 0, none⟩) x.es.length x.es.length)).setCell ⟨w.heap.size + 1, 0, none⟩ (.int .i64 x.st)).setCell ⟨w.heap.size + 1, 1, none⟩ (.int .i64 x.ini)).setCell ⟨w.heap.size + 1, 2, none⟩ (.slice (some ⟨g1, 0, none⟩) x.ls.length x.ls.length)).setCell ⟨w.heap.size + 1, 3, none⟩ (.slice (some ⟨g2, 0, none⟩) x.es.length x.es.length)).cell? ⟨w.heap.size + 1, 2, none⟩ = some (.slice (some ⟨g1, 0, none⟩) x.ls.length x.ls.length) := by simp [go_sem, k2_1_2]
  have r3 : (((((w2q.setCell ⟨w.heap.size + 1 + 1, 3, none⟩ (.slice (some ⟨g2, 0, none⟩) x.es.length x.es.length)).setCell ⟨w.heap.size + 1, 0, none⟩ (.int .i64 x.st)).setCell ⟨w.heap.size + 1, 1, none⟩ (.int .i64 x.ini)).setCell ⟨w.heap.size + 1, 2, none⟩ (.slice (some ⟨g1, 0, none⟩) x.ls.length x.ls.length)).setCell ⟨w.heap.size + 1, 3, none⟩ (.slice (some ⟨g2, 0, none⟩) x.es.length x.es.length)).cell? ⟨w.heap.size + 1, 3, none⟩ = some (.slice (some ⟨g2, 0, none⟩) x.es.length x.es.length) := by simp [go_sem, k2_1_3]
  have hsz : (((((w2q.setCell ⟨w.heap.size + 1 + 1, 3, none⟩ (.slice (some ⟨g2, 0, none⟩) x.es.length x.es.length)).setCell ⟨w.heap.size + 1, 0, none⟩ (.int .i64 x.st)).setCell ⟨w.heap.size + 1, 1, none⟩ (.int .i64 x.ini)).setCell ⟨w.heap.size + 1, 2, none⟩ (.slice (some ⟨g1, 0, none⟩) x.ls.length x.ls.length)).setCell ⟨w.heap.size + 1, 3, none⟩ (.slice (some ⟨g2, 0, none⟩) x.es.length x.es.length)).heap.size = w2q.heap.size := by simp [World.setCell]
  clear k2_0_3 k2_1_0 k2_1_1 k2_1_2 k2_1_3 k2_2_0 k2_2_1 k2_2_2 k2_2_3 f2_1_0 f2_1_1 f2_1_2 f2_1_3 f2_2_0 f2_2_1 f2_2_2 f2_2_3
  generalize (((((w2q.setCell ⟨w.heap.size + 1 + 1, 3, none⟩ (.slice (some ⟨g2, 0, none⟩) x.es.length x.es.length)).setCell ⟨w.heap.size + 1, 0, none⟩ (.int .i64 x.st)).setCell ⟨w.heap.size + 1, 1, none⟩ (.int .i64 x.ini)).setCell ⟨w.heap.size + 1, 2, none⟩ (.slice (some ⟨g1, 0, none⟩) x.ls.length x.ls.length)).setCell ⟨w.heap.size + 1, 3, none⟩ (.slice (some ⟨g2, 0, none⟩) x.es.length x.es.length)) = WF at *
  refine bodyPost_ret (v := .agg #[.int .i64 x.st, .int .i64 x.ini, .slice (some ⟨g1, 0, none⟩) x.ls.length x.ls.length, .slice (some ⟨g2, 0, none⟩) x.es.length x.es.length]) (by simp [results, Tryz.results9, go_sem, r0, r1, r2, r3]; (try rfl)) rfl ⟨[.int .i64 x.st, .int .i64 x.ini, .slice (some ⟨g1, 0, none⟩) x.ls.length x.ls.length, .slice (some ⟨g2, 0, none⟩) x.es.length x.es.length], rfl, ?_, BW⟩
  refine ⟨_, _, _, _, ivs [w.heap.size + 3, w1q.heap.size, w2q.heap.size], rfl, ?_, ?_, ap_ivs (by simp <;> omega), ?_⟩
  · exact OL.keep L1.out (SO _ (fun h => by have h1 : w.heap.size + 3 ≤ _ := h.1; omega) (fun h => by have h1 : w.heap.size + 3 ≤ _ := h.1; omega))
  · exact OL.keep L2.out (SO _ (fun h => by have h1 : w1q.heap.size ≤ _ := h.1; omega) (fun h => by have h1 : w1q.heap.size ≤ _ := h.1; omega))
  · intro i b hb
    rw [hsz]
    have h2 := ivs_in (lo := w.heap.size) (hi := w2q.heap.size) (by simp <;> omega) hb
    exact h2
theorem toDLts_any (x : Lt) (A1 A2 : Option Addr) (c1 c2 : Nat) (S : Nat → Prop) (w : World) (h1 : LRow txtR w S A1 x.ls) (h2 : LRow edR w S A2 x.es) (hS : ∀ b, S b → b < w.heap.size) (ok : okLt x) :
    Calls Tryz.prog 9 #[.agg #[.int .i64 x.st, .int .i64 x.ini, .slice A1 x.ls.length c1, .slice A2 x.es.length c2]] w (MadeR ltR x w) :=
  (toOLts_any x A1 A2 c1 c2 S w  h1 h2 hS ok).mono fun _ _ h => h.weak
end Go.Proofs.YtbailpfjgjcbdaaGreatDoor

namespace Go.Proofs.YtbailpfjgjcbdaaGreatDoor
open Go.RowKit
set_option maxRecDepth 100000 in
set_option maxHeartbeats 4000000 in
theorem eqDLts_yes (x : Lt) (A1 A2 : Option Addr) (c1 c2 : Nat) (B1 B2 : Option Addr) (d1 d2 : Nat) (S1 S2 : Nat → Prop) (w : World) (h1 : LRow txtR w S1 A1 x.ls) (h2 : LRow edR w S1 A2 x.es) (g1 : LRow txtR w S2 B1 x.ls) (g2 : LRow edR w S2 B2 x.es) (hS1 : ∀ b, S1 b → b < w.heap.size) (hS2 : ∀ b, S2 b → b < w.heap.size) (ok : okLt x) :
    Calls Tryz.prog 13 #[.agg #[.int .i64 x.st, .int .i64 x.ini, .slice A1 x.ls.length c1, .slice A2 x.es.length c2], .agg #[.int .i64 x.st, .int .i64 x.ini, .slice B1 x.ls.length d1, .slice B2 x.es.length d2]] w fun e w' => e = .returned (.bool true) ∧ Below w.heap.size w w' := by
  obtain ⟨ok1, ok2⟩ := ok
  have hne_st : (x.st != x.st) = false := by simp
  have hne_ini : (x.ini != x.ini) = false := by simp
  have C1 := Lib.hid (fun (W : World) (hW : Below w.heap.size w W) => (Calls.mono (eqDStringS_yes A1 B1 x.ls.length x.ls.length c1 d1 x.ls W S1 S2 (h1.keep (SameOn.of_below hW hS1)) (g1.keep (SameOn.of_below hW hS2)) (fun b hb => Nat.lt_of_lt_of_le (hS1 b hb) hW.size) (fun b hb => Nat.lt_of_lt_of_le (hS2 b hb) hW.size) rfl rfl ok1) (fun e w' ⟨he, hb⟩ => (⟨he, hW.trans (Below.mono hb hW.size), hb⟩ : e = Ending.returned (Value.bool true) ∧ Below w.heap.size w w' ∧ Below W.heap.size W w'))))
  have C2 := Lib.hid (fun (W : World) (hW : Below w.heap.size w W) => (Calls.mono (eqDEdgeS_yes A2 B2 x.es.length x.es.length c2 d2 x.es W S1 S2 (h2.keep (SameOn.of_below hW hS1)) (g2.keep (SameOn.of_below hW hS2)) (fun b hb => Nat.lt_of_lt_of_le (hS1 b hb) hW.size) (fun b hb => Nat.lt_of_lt_of_le (hS2 b hb) hW.size) rfl rfl ok2) (fun e w' ⟨he, hb⟩ => (⟨he, hW.trans (Below.mono hb hW.size), hb⟩ : e = Ending.returned (Value.bool true) ∧ Below w.heap.size w w' ∧ Below W.heap.size W w'))))
  clear h1 g1 ok1 h2 g2 ok2 hS1 hS2
  go_enter Tryz.func13, Tryz.ntmps13
  go_wp2_with fail
  refine (C1.out _ (by repeat (first | exact Below.refl _ _ | refine Below.setCell ?_ (by simp) _ | refine Below.alloc ?_ (by simp <;> omega) _))).mono ?_
  rintro e w1q ⟨rfl, b2, b3⟩
  obtain ⟨hcc1, _⟩ := bcell b3
  have hz1 : w.heap.size + 2 ≤ w1q.heap.size := by have := b3.size; (try simp at this); omega
  have hy1 : w.heap.size < w1q.heap.size := by omega
  have hx1 : w.heap.size + 1 < w1q.heap.size := by omega
  have B1q := Lib.hid b2
  clear b2 b3
  go_wp2_with fail
  refine (C2.out _ B1q.out).mono ?_
  rintro e w2q ⟨rfl, b2, b3⟩
  obtain ⟨hcc2, _⟩ := bcell b3
  have hz2 : w.heap.size + 2 ≤ w2q.heap.size := by have := b3.size; (try simp at this); omega
  have hy2 : w.heap.size < w2q.heap.size := by omega
  have hx2 : w.heap.size + 1 < w2q.heap.size := by omega
  have B2q := Lib.hid b2
  clear b2 b3
  go_wp2
  go_ret
  exact ⟨rfl, B2q.out⟩
end Go.Proofs.YtbailpfjgjcbdaaGreatDoor
