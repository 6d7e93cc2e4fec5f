/- Lts in the laws' own helpers: compared. -/
import Derived.BigQuiet
import Derived.StillTailTactics
import Derived.OwnWalk
import Derived.Outline
import Derived.Test.YthbnfjedjijacaaDatI
import Derived.Test.YthbnfjedjijacaaDatE
import Derived.Test.YthbnfjedjijacaaLtD
namespace Go.Proofs.Ythbnfjedjijacaa
open Go.RowKit
set_option maxRecDepth 100000 in
set_option maxHeartbeats 4000000 in
theorem eqDLts_yes (x : Lt) (A1 A2 : Option Addr) (c1 c2 : Nat) (B1 B2 : Option Addr) (d1 d2 : Nat) (S1 S2 : Nat → Prop) (w : World) (h1 : LRow txtR w S1 A1 x.ls) (h2 : LRow edR w S1 A2 x.es) (g1 : LRow txtR w S2 B1 x.ls) (g2 : LRow edR w S2 B2 x.es) (hS1 : ∀ b, S1 b → b < w.heap.size) (hS2 : ∀ b, S2 b → b < w.heap.size) (ok : okLt x) :
    Calls Try.prog 8 #[.agg #[.int .i64 x.st, .int .i64 x.ini, .slice A1 x.ls.length c1, .slice A2 x.es.length c2], .agg #[.int .i64 x.st, .int .i64 x.ini, .slice B1 x.ls.length d1, .slice B2 x.es.length d2]] w fun e w' => e = .returned (.bool true) ∧ Below w.heap.size w w' := by
  obtain ⟨ok1, ok2⟩ := ok
  have hne_st : (x.st != x.st) = false := by simp
  have hne_ini : (x.ini != x.ini) = false := by simp
  have C1 := Lib.hid (fun (W : World) (hW : Below w.heap.size w W) => (Calls.mono (eqDStringS_yes A1 B1 x.ls.length x.ls.length c1 d1 x.ls W S1 S2 (h1.keep (SameOn.of_below hW hS1)) (g1.keep (SameOn.of_below hW hS2)) (fun b hb => Nat.lt_of_lt_of_le (hS1 b hb) hW.size) (fun b hb => Nat.lt_of_lt_of_le (hS2 b hb) hW.size) rfl rfl ok1) (fun e w' ⟨he, hb⟩ => (⟨he, hW.trans (Below.mono hb hW.size), hb⟩ : e = Ending.returned (Value.bool true) ∧ Below w.heap.size w w' ∧ Below W.heap.size W w'))))
  have C2 := Lib.hid (fun (W : World) (hW : Below w.heap.size w W) => (Calls.mono (eqDEdgeS_yes A2 B2 x.es.length x.es.length c2 d2 x.es W S1 S2 (h2.keep (SameOn.of_below hW hS1)) (g2.keep (SameOn.of_below hW hS2)) (fun b hb => Nat.lt_of_lt_of_le (hS1 b hb) hW.size) (fun b hb => Nat.lt_of_lt_of_le (hS2 b hb) hW.size) rfl rfl ok2) (fun e w' ⟨he, hb⟩ => (⟨he, hW.trans (Below.mono hb hW.size), hb⟩ : e = Ending.returned (Value.bool true) ∧ Below w.heap.size w w' ∧ Below W.heap.size W w'))))
  clear h1 g1 ok1 h2 g2 ok2 hS1 hS2
  go_enter Try.func8, Try.ntmps8
  go_wp2_with fail
  refine (C1.out _ (by repeat (first | exact Below.refl _ _ | refine Below.setCell ?_ (by simp) _ | refine Below.alloc ?_ (by simp <;> omega) _))).mono ?_
  rintro e w1q ⟨rfl, b2, b3⟩
  obtain ⟨hcc1, _⟩ := bcell b3
  have hz1 : w.heap.size + 2 ≤ w1q.heap.size := by have := b3.size; (try simp at this); omega
  have hy1 : w.heap.size < w1q.heap.size := by omega
  have hx1 : w.heap.size + 1 < w1q.heap.size := by omega
  have B1q := Lib.hid b2
  clear b2 b3
  go_wp2_with fail
  refine (C2.out _ B1q.out).mono ?_
  rintro e w2q ⟨rfl, b2, b3⟩
  obtain ⟨hcc2, _⟩ := bcell b3
  have hz2 : w.heap.size + 2 ≤ w2q.heap.size := by have := b3.size; (try simp at this); omega
  have hy2 : w.heap.size < w2q.heap.size := by omega
  have hx2 : w.heap.size + 1 < w2q.heap.size := by omega
  have B2q := Lib.hid b2
  clear b2 b3
  go_wp2
  go_ret
  exact ⟨rfl, B2q.out⟩
end Go.Proofs.Ythbnfjedjijacaa
