/- Lts in the laws' own helpers: marks. -/
import Derived.WalkKit
import Derived.ProofKit
import Derived.BigQuiet
import Derived.Test.YthbnfjedjijacaaGreatDoorMrkI
import Derived.Test.YthbnfjedjijacaaGreatDoorMrkE
import Derived.Test.YthbnfjedjijacaaGreatDoorLow
namespace Go.Proofs.YthbnfjedjijacaaGreatDoor
open Go.RowKit
set_option maxRecDepth 100000 in
set_option maxHeartbeats 2000000 in
theorem markOLts_any (x : Lt) (A1 A2 : Option Addr) (c1 c2 : Nat) (E : Nat → Nat → Prop) (k0 : Int) (w : World) (h1 : OL txtO 9 w (E 0) A1 x.ls.length c1 x.ls) (h2 : OL edO 66 w (E 1) A2 x.es.length c2 x.es) (ha : Ap E) (hE : ∀ i b, E i b → b < w.heap.size) (k1 : 1 ≤ k0) (k2 : k0 + (cntL txtM x.ls + cntL edM x.es : Nat) ≤ 1000000000000) :
    Calls Tryz.prog 17 #[.agg #[.int .i64 x.st, .int .i64 x.ini, .slice A1 x.ls.length c1, .slice A2 x.es.length c2], .int .i64 k0] w fun e w' => e = .returned (.int .i64 (k0 + cntL txtM x.ls + cntL edM x.es)) ∧ OL txtO 9 w' (E 0) A1 x.ls.length c1 (mkL txtM (k0) x.ls) ∧ OL edO 66 w' (E 1) A2 x.es.length c2 (mkL edM (k0 + cntL txtM x.ls) x.es) ∧ TurnS (fun b => ∃ j, E j b) w w' := by
  have C1 := Lib.hid (fun (W : World) (hW : TurnS (fun b => ∃ j, j < 0 ∧ E j b) w W) => markOStringS_any A1 x.ls.length c1 (k0) x.ls W (E 0) (h1.keep (SameB.of_turn hW fun b hb ⟨j, hj, hEj⟩ => ha j 0 b (by omega) hEj hb)) (by omega) (by omega))
  have C2 := Lib.hid (fun (W : World) (hW : TurnS (fun b => ∃ j, j < 1 ∧ E j b) w W) => markOEdgeS_any A2 x.es.length c2 (k0 + cntL txtM x.ls) x.es W (E 1) (h2.keep (SameB.of_turn hW fun b hb ⟨j, hj, hEj⟩ => ha j 1 b (by omega) hEj hb)) (by omega) (by omega))
  have HA := Lib.hid ha
  clear h1 h2 k2 ha
  have hbox : ∀ j, ¬ E j w.heap.size := fun j h => by have := hE j _ h; omega
  have HBOX := Lib.hid hbox
  clear hbox hE
  go_enter Tryz.func17, Tryz.ntmps17
  have T0 : ∀ o : Obj, TurnS (fun b => ∃ j, j < 0 ∧ E j b) w (w.alloc o) := fun o => TurnS.of_below ((Below.refl _ _).alloc (Nat.le_refl _) o)
  go_wp2_with fail
  refine (C1.out _ (T0 _)).mono ?_
  rintro e w1q ⟨rfl, ol, t⟩
  have hz1 : w.heap.size < w1q.heap.size := by have := t.size; simp at this; omega
  have k1_3 : w1q.cell? ⟨w.heap.size, 3, none⟩ = some (.slice A2 x.es.length c2) := (t.cell (by simp) (HBOX.out 0)).trans (by simp [go_sem])
  have T1 := Lib.hid (((T0 _).more (S' := fun b => ∃ j, j < 1 ∧ E j b) fun b ⟨j, hj, h⟩ => ⟨j, by omega, h⟩).trans (t.more fun b hb => ⟨0, by omega, hb⟩))
  have L1 := Lib.hid ol
  clear t ol T0
  go_wp2_with fail
  refine (C2.out _ T1.out).mono ?_
  rintro e w2q ⟨rfl, ol, t⟩
  have hz2 : w.heap.size < w2q.heap.size := Nat.lt_of_lt_of_le hz1 t.size
  have L1 := Lib.hid (L1.out.keep (SameB.of_turn t fun b hb hb2 => HA.out 0 1 b (by decide) hb hb2))
  have T2 := Lib.hid ((T1.out.more (S' := fun b => ∃ j, j < 2 ∧ E j b) fun b ⟨j, hj, h⟩ => ⟨j, by omega, h⟩).trans (t.more fun b hb => ⟨1, by omega, hb⟩))
  have L2 := Lib.hid ol
  clear t ol k1_3
  go_wp2
  go_ret
  exact ⟨rfl, L1.out, L2.out, T2.out.more fun b ⟨j, _, h⟩ => ⟨j, h⟩⟩
theorem markLtO {x : Lt} {cs : List Value} {w : World} {S : Nat → Prop} {k0 : Int} (h : ltO.O w S x cs) (hS : ∀ b, S b → b < w.heap.size) (k1 : 1 ≤ k0) (k2 : k0 + (ltM.cnt x : Nat) ≤ 1000000000000) :
    Calls Tryz.prog 17 #[.agg cs.toArray, .int .i64 k0] w fun e w' => e = .returned (.int .i64 (k0 + ltM.cnt x)) ∧ ltO.O w' S (ltM.md k0 x) cs ∧ TurnS S w w' := by
  obtain ⟨A1, c1, A2, c2, E, rfl, h1, h2, ha, hE⟩ := h
  refine (markOLts_any x A1 A2 c1 c2 E k0 w h1 h2 ha (fun i b hb => hS b (hE i b hb)) k1 k2).mono ?_
  rintro e w' ⟨rfl, o1, o2, t⟩
  refine ⟨congrArg (fun v => Ending.returned (.int .i64 v)) (by show _ = k0 + ((cntL txtM x.ls + cntL edM x.es : Nat) : Int); omega), ?_, t.more fun b ⟨j, hj⟩ => hE j b hj⟩
  refine ⟨A1, c1, A2, c2, E, ?_, ?_, ?_, ha, hE⟩
  · show (_ : List Value) = [Value.int .i64 x.st, Value.int .i64 x.ini, Value.slice A1 (mkL txtM (k0) x.ls).length c1, Value.slice A2 (mkL edM (k0 + cntL txtM x.ls) x.es).length c2]
    rw [mkL_length, mkL_length]
  · show OL _ _ _ _ _ (mkL txtM (k0) x.ls).length _ _
    rw [mkL_length]
    exact o1
  · show OL _ _ _ _ _ (mkL edM (k0 + cntL txtM x.ls) x.es).length _ _
    rw [mkL_length]
    exact o2
end Go.Proofs.YthbnfjedjijacaaGreatDoor
