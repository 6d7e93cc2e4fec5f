/- Lts in the laws' own helpers: how much it holds. -/
import Derived.BigQuiet
import Derived.StillTailTactics
import Derived.OwnWalk
import Derived.Outline
import Derived.Test.YthbnfjedjijacaaDatI
import Derived.Test.YthbnfjedjijacaaDatE
import Derived.Test.YthbnfjedjijacaaLtD
namespace Go.Proofs.Ythbnfjedjijacaa
open Go.RowKit
set_option linter.unusedVariables false
set_option maxRecDepth 100000 in
set_option maxHeartbeats 4000000 in
theorem szDLts_any (x : Lt) (A1 A2 : Option Addr) (c1 c2 : Nat) (S : Nat → Prop) (left : Int) (w : World) (m1 : x.ls.length ≤ maxLen) (m2 : x.es.length ≤ maxLen) (h1 : LRow txtR w S A1 x.ls) (h2 : LRow edR w S A2 x.es) (hS : ∀ b, S b → b < w.heap.size) (y2 : 0 ≤ left) (y3 : left ≤ 1048576) :
    Calls Try.prog 4 #[.agg #[.int .i64 x.st, .int .i64 x.ini, .slice A1 x.ls.length c1, .slice A2 x.es.length c2], .int .i64 left] w (SzRet (okLt x) (wtLt x) left w) := by
  have C1 := Lib.hid (fun (W : World) (hW : Below w.heap.size w W) (r : Int) (r0 : 0 ≤ r) (r1 : r ≤ 1048576) => (Calls.mono (szDStringS_any A1 x.ls.length c1 x.ls r W S (h1.keep (SameOn.of_below hW hS)) (fun b hb => Nat.lt_of_lt_of_le (hS b hb) hW.size) rfl m1 r0 r1) (fun e w' ⟨q, he, hq, hb⟩ => (⟨q, he, hq, hW.trans (Below.mono hb hW.size), hb⟩ : ∃ q : Int, e = Ending.returned (.int .i64 q) ∧ (q < 0 ∨ (0 ≤ q ∧ q + (wL wtZ x.ls : Nat) ≤ r ∧ okList okTx x.ls)) ∧ Below w.heap.size w w' ∧ Below W.heap.size W w'))))
  have C2 := Lib.hid (fun (W : World) (hW : Below w.heap.size w W) (r : Int) (r0 : 0 ≤ r) (r1 : r ≤ 1048576) => (Calls.mono (szDEdgeS_any A2 x.es.length c2 x.es r W rfl m2 r0 r1) (fun e w' ⟨q, he, hq, hb⟩ => (⟨q, he, hq, hW.trans (Below.mono hb hW.size), hb⟩ : ∃ q : Int, e = Ending.returned (.int .i64 q) ∧ (q < 0 ∨ (0 ≤ q ∧ q + (wL wtZ x.es : Nat) ≤ r ∧ okList okAny x.es)) ∧ Below w.heap.size w w' ∧ Below W.heap.size W w'))))
  clear h1 m1 h2 m2 hS
  go_enter Try.func4, Try.ntmps4
  go_wp2_with fail
  refine (C1.out _ (by repeat (first | exact Below.refl _ _ | refine Below.setCell ?_ (by simp) _ | refine Below.alloc ?_ (by simp <;> omega) _)) left y2 y3).mono ?_
  rintro e w1q ⟨q1, rfl, hq, b2, b3⟩
  obtain ⟨hcc1, _⟩ := bcell b3
  have hz1 : w.heap.size + 1 ≤ w1q.heap.size := by have := b3.size; (try simp at this); omega
  have hy1 : w.heap.size < w1q.heap.size := by omega
  have B1q := Lib.hid b2
  clear b2 b3
  rcases hq with hq | ⟨hp1, hl1, hok⟩
  · go_wp2
    go_ret
    exact SzRet.no B1q.out
  have hn1 : ¬ q1 < 0 := by omega
  have K1 := Lib.hid hok
  clear hok
  go_wp2_with fail
  refine (C2.out _ B1q.out q1 hp1 (by omega)).mono ?_
  rintro e w2q ⟨q2, rfl, hq, b2, b3⟩
  obtain ⟨hcc2, _⟩ := bcell b3
  have hz2 : w.heap.size + 1 ≤ w2q.heap.size := by have := b3.size; (try simp at this); omega
  have hy2 : w.heap.size < w2q.heap.size := by omega
  have B2q := Lib.hid b2
  clear b2 b3
  rcases hq with hq | ⟨hp2, hl2, hok⟩
  · go_wp2
    go_ret
    exact SzRet.no B2q.out
  have hn2 : ¬ q2 < 0 := by omega
  have K2 := Lib.hid hok
  clear hok
  go_wp2
  go_ret
  exact SzRet.yes hp2 (by show q2 + ((wL wtZ x.ls + wL wtZ x.es : Nat) : Int) ≤ left; omega) ⟨K1.out, K2.out⟩ B2q.out
end Go.Proofs.Ythbnfjedjijacaa
