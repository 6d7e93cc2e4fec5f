/- Lts in the laws' own helpers: marks. -/
/- Lts by value, at opaque cells: measured, copied, compared by the laws' helpers. -/
/- Facts of a law's walk over records, kept step by step. -/
import Derived.WalkKit
import Derived.ProofKit
import Derived.BigQuiet
import Derived.Test.YtbailpfjgjcbdaaGreatDoorMrkI
import Derived.Test.YtbailpfjgjcbdaaGreatDoorMrkE
import Derived.Test.YtbailpfjgjcbdaaGreatDoorLow
import Derived.Deep.RegionWith
import Derived.Test.YtbailpfjgjcbdaaGreatDoorBx
import Derived.Test.YtbailpfjgjcbdaaGreatDoorLtH
namespace Go.Proofs.YtbailpfjgjcbdaaGreatDoor
open Go.RowKit
set_option maxRecDepth 100000 in
set_option maxHeartbeats 2000000 in
theorem markOLts_any (x : Lt) (A1 A2 : Option Addr) (c1 c2 : Nat) (E : Nat → Nat → Prop) (k0 : Int) (w : World) (h1 : OL txtO 9 w (E 0) A1 x.ls.length c1 x.ls) (h2 : OL edO 79 w (E 1) A2 x.es.length c2 x.es) (ha : Ap E) (hE : ∀ i b, E i b → b < w.heap.size) (k1 : 1 ≤ k0) (k2 : k0 + (cntL txtM x.ls + cntL edM x.es : Nat) ≤ 1000000000000) :
    Calls Tryz.prog 14 #[.agg #[.int .i64 x.st, .int .i64 x.ini, .slice A1 x.ls.length c1, .slice A2 x.es.length c2], .int .i64 k0] w fun e w' => e = .returned (.int .i64 (k0 + cntL txtM x.ls + cntL edM x.es)) ∧ OL txtO 9 w' (E 0) A1 x.ls.length c1 (mkL txtM (k0) x.ls) ∧ OL edO 79 w' (E 1) A2 x.es.length c2 (mkL edM (k0 + cntL txtM x.ls) x.es) ∧ TurnS (fun b => ∃ j, E j b) w w' := by
  have C1 := Lib.hid (fun (W : World) (hW : TurnS (fun b => ∃ j, j < 0 ∧ E j b) w W) => markOStringS_any A1 x.ls.length c1 (k0) x.ls W (E 0) (h1.keep (SameB.of_turn hW fun b hb ⟨j, hj, hEj⟩ => ha j 0 b (by omega) hEj hb)) (by omega) (by omega))
  have C2 := Lib.hid (fun (W : World) (hW : TurnS (fun b => ∃ j, j < 1 ∧ E j b) w W) => markOEdgeS_any A2 x.es.length c2 (k0 + cntL txtM x.ls) x.es W (E 1) (h2.keep (SameB.of_turn hW fun b hb ⟨j, hj, hEj⟩ => ha j 1 b (by omega) hEj hb)) (by omega) (by omega))
  have HA := Lib.hid ha
  clear h1 h2 k2 ha
  have hbox : ∀ j, ¬ E j w.heap.size := fun j h => by have := hE j _ h; omega
  have HBOX := Lib.hid hbox
  clear hbox hE
  go_enter Tryz.func14, Tryz.ntmps14
  have T0 : ∀ o : Obj, TurnS (fun b => ∃ j, j < 0 ∧ E j b) w (w.alloc o) := fun o => TurnS.of_below ((Below.refl _ _).alloc (Nat.le_refl _) o)
  go_wp2_with fail
  refine (C1.out _ (T0 _)).mono ?_
  rintro e w1q ⟨rfl, ol, t⟩
  have hz1 : w.heap.size < w1q.heap.size := by have := t.size; simp at this; omega
  have k1_3 : w1q.cell? ⟨w.heap.size, 3, none⟩ = some (.slice A2 x.es.length c2) := (t.cell (by simp) (HBOX.out 0)).trans (by simp [go_sem])
  have T1 := Lib.hid (((T0 _).more (S' := fun b => ∃ j, j < 1 ∧ E j b) fun b ⟨j, hj, h⟩ => ⟨j, by omega, h⟩).trans (t.more fun b hb => ⟨0, by omega, hb⟩))
  have L1 := Lib.hid ol
  clear t ol T0
  go_wp2_with fail
  refine (C2.out _ T1.out).mono ?_
  rintro e w2q ⟨rfl, ol, t⟩
  have hz2 : w.heap.size < w2q.heap.size := Nat.lt_of_lt_of_le hz1 t.size
  have L1 := Lib.hid (L1.out.keep (SameB.of_turn t fun b hb hb2 => HA.out 0 1 b (by decide) hb hb2))
  have T2 := Lib.hid ((T1.out.more (S' := fun b => ∃ j, j < 2 ∧ E j b) fun b ⟨j, hj, h⟩ => ⟨j, by omega, h⟩).trans (t.more fun b hb => ⟨1, by omega, hb⟩))
  have L2 := Lib.hid ol
  clear t ol k1_3
  go_wp2
  go_ret
  exact ⟨rfl, L1.out, L2.out, T2.out.more fun b ⟨j, _, h⟩ => ⟨j, h⟩⟩
theorem markLtO {x : Lt} {cs : List Value} {w : World} {S : Nat → Prop} {k0 : Int} (h : ltO.O w S x cs) (hS : ∀ b, S b → b < w.heap.size) (k1 : 1 ≤ k0) (k2 : k0 + (ltM.cnt x : Nat) ≤ 1000000000000) :
    Calls Tryz.prog 14 #[.agg cs.toArray, .int .i64 k0] w fun e w' => e = .returned (.int .i64 (k0 + ltM.cnt x)) ∧ ltO.O w' S (ltM.md k0 x) cs ∧ TurnS S w w' := by
  obtain ⟨A1, c1, A2, c2, E, rfl, h1, h2, ha, hE⟩ := h
  refine (markOLts_any x A1 A2 c1 c2 E k0 w h1 h2 ha (fun i b hb => hS b (hE i b hb)) k1 k2).mono ?_
  rintro e w' ⟨rfl, o1, o2, t⟩
  refine ⟨congrArg (fun v => Ending.returned (.int .i64 v)) (by show _ = k0 + ((cntL txtM x.ls + cntL edM x.es : Nat) : Int); omega), ?_, t.more fun b ⟨j, hj⟩ => hE j b hj⟩
  refine ⟨A1, c1, A2, c2, E, ?_, ?_, ?_, ha, hE⟩
  · show (_ : List Value) = [Value.int .i64 x.st, Value.int .i64 x.ini, Value.slice A1 (mkL txtM (k0) x.ls).length c1, Value.slice A2 (mkL edM (k0 + cntL txtM x.ls) x.es).length c2]
    rw [mkL_length, mkL_length]
  · show OL _ _ _ _ _ (mkL txtM (k0) x.ls).length _ _
    rw [mkL_length]
    exact o1
  · show OL _ _ _ _ _ (mkL edM (k0 + cntL txtM x.ls) x.es).length _ _
    rw [mkL_length]
    exact o2
set_option maxRecDepth 100000 in
set_option maxHeartbeats 2000000 in
theorem heldOLts_any (x : Lt) (A1 A2 : Option Addr) (c1 c2 : Nat) (S : Nat → Prop) (k0 : Int) (w : World) (h1 : LRow txtR w S A1 (mkL txtM (k0) x.ls)) (m1 : x.ls.length ≤ maxLen) (h2 : LRow edR w S A2 (mkL edM (k0 + cntL txtM x.ls) x.es)) (m2 : x.es.length ≤ maxLen) (hS : ∀ b, S b → b < w.heap.size) (k1 : 1 ≤ k0) (k2 : k0 + (cntL txtM x.ls + cntL edM x.es : Nat) ≤ 1000000000000) :
    Calls Tryz.prog 27 #[.agg #[.int .i64 x.st, .int .i64 x.ini, .slice A1 x.ls.length c1, .slice A2 x.es.length c2], .int .i64 k0] w fun e w' => e = .returned (.int .i64 (k0 + cntL txtM x.ls + cntL edM x.es)) ∧ Below w.heap.size w w' := by
  have C1 := Lib.hid (fun (W : World) (hW : Below w.heap.size w W) => (heldOStringS_any A1 x.ls.length c1 (k0) x.ls W S (h1.keep (SameOn.of_below hW hS)) (fun b hb => Nat.lt_of_lt_of_le (hS b hb) hW.size) rfl m1 (by omega) (by omega)).mono fun e w' ⟨he, hb⟩ => (⟨he, hW.trans (Below.mono hb hW.size), hb⟩ : e = Ending.returned (.int .i64 (k0 + cntL txtM x.ls)) ∧ Below w.heap.size w w' ∧ Below W.heap.size W w'))
  have C2 := Lib.hid (fun (W : World) (hW : Below w.heap.size w W) => (heldOEdgeS_any A2 x.es.length c2 (k0 + cntL txtM x.ls) x.es W S (h2.keep (SameOn.of_below hW hS)) (fun b hb => Nat.lt_of_lt_of_le (hS b hb) hW.size) rfl m2 (by omega) (by omega)).mono fun e w' ⟨he, hb⟩ => (⟨he, hW.trans (Below.mono hb hW.size), hb⟩ : e = Ending.returned (.int .i64 (k0 + cntL txtM x.ls + cntL edM x.es)) ∧ Below w.heap.size w w' ∧ Below W.heap.size W w'))
  have n1 : ¬ (k0 + cntL txtM x.ls < 0) := by omega
  have n2 : ¬ (k0 + cntL txtM x.ls + cntL edM x.es < 0) := by omega
  clear h1 m1 h2 m2 hS k2
  have HBX := Lib.hid (fun o : Obj => ((Below.refl w.heap.size w).alloc (Nat.le_refl _) o))
  go_enter Tryz.func27, Tryz.ntmps27
  go_wp2_with fail
  refine (C1.out _ (HBX.out _)).mono ?_
  rintro e w1q ⟨rfl, b2, b3⟩
  have hz1 : w.heap.size < w1q.heap.size := by have := b3.size; simp at this; omega
  have k1_3 : w1q.cell? ⟨w.heap.size, 3, none⟩ = some (.slice A2 x.es.length c2) := (b3.cell (p := ⟨w.heap.size, 3, none⟩) (by simp)).trans (by simp [go_sem])
  have B1 := Lib.hid b2
  clear b2 b3 
  go_wp2_with fail
  refine (C2.out _ B1.out).mono ?_
  rintro e w2q ⟨rfl, b2, b3⟩
  have hz2 : w.heap.size < w2q.heap.size := Nat.lt_of_lt_of_le hz1 b3.size
  have B2 := Lib.hid b2
  clear b2 b3 k1_3
  go_wp2
  go_ret
  exact ⟨rfl, B2.out⟩
theorem heldLtR {x : Lt} {cs : List Value} {w : World} {S : Nat → Prop} {k0 : Int} (h : ltR.R w S (ltM.md k0 x) cs) (hS : ∀ b, S b → b < w.heap.size) (k1 : 1 ≤ k0) (k2 : k0 + (ltM.cnt x : Nat) ≤ 1000000000000) :
    Calls Tryz.prog 27 #[.agg cs.toArray, .int .i64 k0] w fun e w' => e = .returned (.int .i64 (k0 + ltM.cnt x)) ∧ Below w.heap.size w w' := by
  obtain ⟨A1, c1, A2, c2, rfl, ⟨p1, q1, r1⟩, ⟨p2, q2, r2⟩⟩ := h
  have p1 : (mkL txtM (k0) x.ls).length ≤ c1 := p1
  have p2 : (mkL edM (k0 + cntL txtM x.ls) x.es).length ≤ c2 := p2
  rw [mkL_length] at p1 p2
  have e : [Value.int .i64 (ltM.md k0 x).st, Value.int .i64 (ltM.md k0 x).ini, Value.slice A1 ((ltM.md k0 x).ls).length c1, Value.slice A2 ((ltM.md k0 x).es).length c2] = [Value.int .i64 x.st, Value.int .i64 x.ini, Value.slice A1 x.ls.length c1, Value.slice A2 x.es.length c2] := by
    show [Value.int .i64 x.st, Value.int .i64 x.ini, Value.slice A1 (mkL txtM (k0) x.ls).length c1, Value.slice A2 (mkL edM (k0 + cntL txtM x.ls) x.es).length c2] = _
    rw [mkL_length, mkL_length]
  rw [e]
  refine (heldOLts_any x A1 A2 c1 c2 S k0 w r1 (by omega) r2 (by omega) hS k1 k2).mono ?_
  rintro e w' ⟨rfl, hb⟩
  exact ⟨congrArg (fun v => Ending.returned (.int .i64 v)) (by show _ = k0 + ((cntL txtM x.ls + cntL edM x.es : Nat) : Int); omega), hb⟩
end Go.Proofs.YtbailpfjgjcbdaaGreatDoor

namespace Go.Proofs.YtbailpfjgjcbdaaGreatDoor
open Go.RowKit
theorem szLtR {x : Lt} {cs : List Value} {w : World} {S : Nat → Prop} {left : Int} (h : ltR.R w S x cs) (hS : ∀ b, S b → b < w.heap.size) (y2 : 0 ≤ left) (y3 : left ≤ 1048576) :
    Calls Tryz.prog 7 #[.agg cs.toArray, .int .i64 left] w (SzRet (okLt x) (wtLt x) left w) := by
  obtain ⟨A1, c1, A2, c2, rfl, ⟨p1, q1, r1⟩, ⟨p2, q2, r2⟩⟩ := h
  exact szDLts_any x A1 A2 c1 c2 S left w (Nat.le_trans p1 q1) (Nat.le_trans p2 q2) r1 r2 hS y2 y3
theorem toLtRO {x : Lt} {cs : List Value} {w : World} {S : Nat → Prop} (h : ltR.R w S x cs) (hS : ∀ b, S b → b < w.heap.size) (ok : okLt x) :
    Calls Tryz.prog 9 #[.agg cs.toArray] w (MadeRO ltO x w) := by
  obtain ⟨A1, c1, A2, c2, rfl, ⟨p1, q1, r1⟩, ⟨p2, q2, r2⟩⟩ := h
  exact toOLts_any x A1 A2 c1 c2 S w  r1 r2 hS ok
theorem eqLtR {x : Lt} {cs ds : List Value} {w : World} {S1 S2 : Nat → Prop} (h : ltR.R w S1 x cs) (g : ltR.R w S2 x ds) (hS1 : ∀ b, S1 b → b < w.heap.size) (hS2 : ∀ b, S2 b → b < w.heap.size) (ok : okLt x) :
    Calls Tryz.prog 13 #[.agg cs.toArray, .agg ds.toArray] w fun e w' => e = .returned (.bool true) ∧ Below w.heap.size w w' := by
  obtain ⟨A1, c1, A2, c2, rfl, ⟨p1, q1, r1⟩, ⟨p2, q2, r2⟩⟩ := h
  obtain ⟨B1, d1, B2, d2, rfl, ⟨s1, t1, u1⟩, ⟨s2, t2, u2⟩⟩ := g
  exact eqDLts_yes x A1 A2 c1 c2 B1 B2 d1 d2 S1 S2 w r1 r2 u1 u2 hS1 hS2 ok
end Go.Proofs.YtbailpfjgjcbdaaGreatDoor

namespace Go.Proofs.YtbailpfjgjcbdaaGreatDoor
open Go.RowKit
section
variable {v v' : World} {a b lo hi : Nat}
theorem same_nb (hb : Below v.heap.size v v') (h : b ≤ v.heap.size) : SameB (In a b) v v' := SameB.of_belowB hb fun _ k => Nat.lt_of_lt_of_le k.2 h
theorem same_nt (t : TurnS (In lo hi) v v') (h : b ≤ lo ∨ hi ≤ a) : SameB (In a b) v v' := SameB.of_turn t fun _ k k2 => by have := k.1; have := k.2; have := k2.1; have := k2.2; omega
theorem on_same {S : Nat → Prop} (h : SameB S v v') (hS : ∀ b, S b → b < v.heap.size) : SameOn S v v' := fun b _ hb => World.cell?_of_block (h b hb (hS b hb))
theorem OL.nb {α : Type} {G : Owd α} {T : TypeId} {A : Option Addr} {n c : Nat} {xs : List α} (k : OL G T v (In a b) A n c xs) (hb : Below v.heap.size v v') (h : b ≤ v.heap.size) : OL G T v' (In a b) A n c xs := k.keep (same_nb hb h)
theorem OL.nt {α : Type} {G : Owd α} {T : TypeId} {A : Option Addr} {n c : Nat} {xs : List α} (k : OL G T v (In a b) A n c xs) (t : TurnS (In lo hi) v v') (h : b ≤ lo ∨ hi ≤ a) : OL G T v' (In a b) A n c xs := k.keep (same_nt t h)
theorem Owd.nb {α : Type} {G : Owd α} {x : α} {cs : List Value} (k : G.O v (In a b) x cs) (hb : Below v.heap.size v v') (h : b ≤ v.heap.size) : G.O v' (In a b) x cs := G.keep k (same_nb hb h)
theorem Owd.nt {α : Type} {G : Owd α} {x : α} {cs : List Value} (k : G.O v (In a b) x cs) (t : TurnS (In lo hi) v v') (h : b ≤ lo ∨ hi ≤ a) : G.O v' (In a b) x cs := G.keep k (same_nt t h)
theorem LRow.nb {α : Type} {F : Rec α} {A : Option Addr} {xs : List α} (k : LRow F v (In a b) A xs) (hb : Below v.heap.size v v') (h : b ≤ v.heap.size) : LRow F v' (In a b) A xs := k.keep (SameOn.of_below hb fun _ k => Nat.lt_of_lt_of_le k.2 h)
theorem LRow.nt {α : Type} {F : Rec α} {A : Option Addr} {xs : List α} (k : LRow F v (In a b) A xs) (t : TurnS (In lo hi) v v') (h : b ≤ lo ∨ hi ≤ a) (hh : b ≤ v.heap.size) : LRow F v' (In a b) A xs := k.keep (on_same (same_nt t h) fun _ k => Nat.lt_of_lt_of_le k.2 hh)
theorem Rec.nb {α : Type} {F : Rec α} {x : α} {cs : List Value} (k : F.R v (In a b) x cs) (hb : Below v.heap.size v v') (h : b ≤ v.heap.size) : F.R v' (In a b) x cs := F.keep k (SameOn.of_below hb fun _ k => Nat.lt_of_lt_of_le k.2 h)
theorem Rec.nt {α : Type} {F : Rec α} {x : α} {cs : List Value} (k : F.R v (In a b) x cs) (t : TurnS (In lo hi) v v') (h : b ≤ lo ∨ hi ≤ a) (hh : b ≤ v.heap.size) : F.R v' (In a b) x cs := F.keep k (on_same (same_nt t h) fun _ k => Nat.lt_of_lt_of_le k.2 hh)
theorem Bx.nt {p : Nat} {vs : List Value} (k : Bx p vs v) (t : TurnS (In lo hi) v v') (h : p < lo ∨ hi ≤ p) : Bx p vs v' :=
  ⟨Nat.lt_of_lt_of_le k.1 t.size, fun j u hj => (t.cell k.1 (fun k2 => by have := k2.1; have := k2.2; omega)).trans (k.2 j u hj)⟩
theorem Below.nt {w : World} (hb : Below w.heap.size w v) (t : TurnS (In lo hi) v v') (h : w.heap.size ≤ lo) : Below w.heap.size w v' :=
  hb.trans (t.below hb.size fun _ k => Nat.le_trans h k.1)
end
end Go.Proofs.YtbailpfjgjcbdaaGreatDoor
