/- Systems in the laws' own helpers: marks. -/
import Derived.WalkKit
import Derived.ProofKit
import Derived.BigQuiet
import Derived.Test.YtdgcpaeneafejaaGreatDoorMrk
import Derived.Test.YtdgcpaeneafejaaGreatDoorOwnS
namespace Go.Proofs.YtdgcpaeneafejaaGreatDoor
open Go.RowKit
theorem TurnS.cell {S : Nat → Prop} {w w' : World} {b o : Nat} (h : TurnS S w w') (hb : b < w.heap.size) (hn : ¬ S b) : w'.cell? ⟨b, o, none⟩ = w.cell? ⟨b, o, none⟩ := World.cell?_of_block (h.block b hb hn)
set_option maxRecDepth 100000 in
set_option maxHeartbeats 2000000 in
theorem markOSystem_any (x : Sy) (A1 A2 A3 A4 A5 : Option Addr) (c1 c2 c3 c4 c5 : Nat) (E : Nat → Nat → Prop) (k0 : Int) (w : World) (h1 : OL dfO 88 w (E 0) A1 x.ds.length c1 x.ds) (h2 : OL cpO 45 w (E 1) A2 x.cs.length c2 x.cs) (h3 : OL mtO 122 w (E 2) A3 x.ms.length c3 x.ms) (h4 : OL txtO 9 w (E 3) A4 x.al.length c4 x.al) (h5 : OL txtO 9 w (E 4) A5 x.hd.length c5 x.hd) (ha : Ap E) (hE : ∀ i b, E i b → b < w.heap.size) (k1 : 1 ≤ k0) (k2 : k0 + (cntL dfM x.ds + cntL cpM x.cs + cntL mtM x.ms + cntL txtM x.al + cntL txtM x.hd : Nat) ≤ 1000000000000) :
    Calls Tryz.prog 19 #[.agg #[.slice A1 x.ds.length c1, .slice A2 x.cs.length c2, .slice A3 x.ms.length c3, .slice A4 x.al.length c4, .slice A5 x.hd.length c5], .int .i64 k0] w fun e w' => e = .returned (.int .i64 (k0 + cntL dfM x.ds + cntL cpM x.cs + cntL mtM x.ms + cntL txtM x.al + cntL txtM x.hd)) ∧ OL dfO 88 w' (E 0) A1 x.ds.length c1 (mkL dfM (k0) x.ds) ∧ OL cpO 45 w' (E 1) A2 x.cs.length c2 (mkL cpM (k0 + cntL dfM x.ds) x.cs) ∧ OL mtO 122 w' (E 2) A3 x.ms.length c3 (mkL mtM (k0 + cntL dfM x.ds + cntL cpM x.cs) x.ms) ∧ OL txtO 9 w' (E 3) A4 x.al.length c4 (mkL txtM (k0 + cntL dfM x.ds + cntL cpM x.cs + cntL mtM x.ms) x.al) ∧ OL txtO 9 w' (E 4) A5 x.hd.length c5 (mkL txtM (k0 + cntL dfM x.ds + cntL cpM x.cs + cntL mtM x.ms + cntL txtM x.al) x.hd) ∧ TurnS (fun b => ∃ j, E j b) w w' := by
  have C1 := Lib.hid (fun (W : World) (hW : TurnS (fun b => ∃ j, j < 0 ∧ E j b) w W) => markODefinitionS_any A1 x.ds.length c1 (k0) x.ds W (E 0) (h1.keep (SameB.of_turn hW fun b hb ⟨j, hj, hEj⟩ => ha j 0 b (by omega) hEj hb)) (by omega) (by omega))
  have C2 := Lib.hid (fun (W : World) (hW : TurnS (fun b => ∃ j, j < 1 ∧ E j b) w W) => markOComponentS_any A2 x.cs.length c2 (k0 + cntL dfM x.ds) x.cs W (E 1) (h2.keep (SameB.of_turn hW fun b hb ⟨j, hj, hEj⟩ => ha j 1 b (by omega) hEj hb)) (by omega) (by omega))
  have C3 := Lib.hid (fun (W : World) (hW : TurnS (fun b => ∃ j, j < 2 ∧ E j b) w W) => markOMeetingS_any A3 x.ms.length c3 (k0 + cntL dfM x.ds + cntL cpM x.cs) x.ms W (E 2) (h3.keep (SameB.of_turn hW fun b hb ⟨j, hj, hEj⟩ => ha j 2 b (by omega) hEj hb)) (by omega) (by omega))
  have C4 := Lib.hid (fun (W : World) (hW : TurnS (fun b => ∃ j, j < 3 ∧ E j b) w W) => markOStringS_any A4 x.al.length c4 (k0 + cntL dfM x.ds + cntL cpM x.cs + cntL mtM x.ms) x.al W (E 3) (h4.keep (SameB.of_turn hW fun b hb ⟨j, hj, hEj⟩ => ha j 3 b (by omega) hEj hb)) (by omega) (by omega))
  have C5 := Lib.hid (fun (W : World) (hW : TurnS (fun b => ∃ j, j < 4 ∧ E j b) w W) => markOStringS_any A5 x.hd.length c5 (k0 + cntL dfM x.ds + cntL cpM x.cs + cntL mtM x.ms + cntL txtM x.al) x.hd W (E 4) (h5.keep (SameB.of_turn hW fun b hb ⟨j, hj, hEj⟩ => ha j 4 b (by omega) hEj hb)) (by omega) (by omega))
  have HE := Lib.hid hE
  have HA := Lib.hid ha
  clear h1 h2 h3 h4 h5 k2 ha
  have hbox : ∀ j, ¬ E j w.heap.size := fun j h => by have := hE j _ h; omega
  have HBOX := Lib.hid hbox
  clear hbox hE
  go_enter Tryz.func19, Tryz.ntmps19
  have T0 : ∀ o : Obj, TurnS (fun b => ∃ j, j < 0 ∧ E j b) w (w.alloc o) := fun o => TurnS.of_below ((Below.refl _ _).alloc (Nat.le_refl _) o)
  go_wp2_with fail
  refine (C1.out _ (T0 _)).mono ?_
  rintro e w1q ⟨rfl, ol, t⟩
  have hz1 : w.heap.size < w1q.heap.size := by have := t.size; simp at this; omega
  have k1_1 : w1q.cell? ⟨w.heap.size, 1, none⟩ = some (.slice A2 x.cs.length c2) := (t.cell (by simp) (HBOX.out 0)).trans (by simp [go_sem])
  have k1_2 : w1q.cell? ⟨w.heap.size, 2, none⟩ = some (.slice A3 x.ms.length c3) := (t.cell (by simp) (HBOX.out 0)).trans (by simp [go_sem])
  have k1_3 : w1q.cell? ⟨w.heap.size, 3, none⟩ = some (.slice A4 x.al.length c4) := (t.cell (by simp) (HBOX.out 0)).trans (by simp [go_sem])
  have k1_4 : w1q.cell? ⟨w.heap.size, 4, none⟩ = some (.slice A5 x.hd.length c5) := (t.cell (by simp) (HBOX.out 0)).trans (by simp [go_sem])
  have T1 := Lib.hid (((T0 _).more (S' := fun b => ∃ j, j < 1 ∧ E j b) fun b ⟨j, hj, h⟩ => ⟨j, by omega, h⟩).trans (t.more fun b hb => ⟨0, by omega, hb⟩))
  have L1 := Lib.hid ol
  clear t ol T0
  go_wp2_with fail
  refine (C2.out _ T1.out).mono ?_
  rintro e w2q ⟨rfl, ol, t⟩
  have hz2 : w.heap.size < w2q.heap.size := Nat.lt_of_lt_of_le hz1 t.size
  have k2_2 : w2q.cell? ⟨w.heap.size, 2, none⟩ = some (.slice A3 x.ms.length c3) := (t.cell hz1 (HBOX.out 1)).trans k1_2
  have k2_3 : w2q.cell? ⟨w.heap.size, 3, none⟩ = some (.slice A4 x.al.length c4) := (t.cell hz1 (HBOX.out 1)).trans k1_3
  have k2_4 : w2q.cell? ⟨w.heap.size, 4, none⟩ = some (.slice A5 x.hd.length c5) := (t.cell hz1 (HBOX.out 1)).trans k1_4
  have L1 := Lib.hid (L1.out.keep (SameB.of_turn t fun b hb hb2 => HA.out 0 1 b (by decide) hb hb2))
  have T2 := Lib.hid ((T1.out.more (S' := fun b => ∃ j, j < 2 ∧ E j b) fun b ⟨j, hj, h⟩ => ⟨j, by omega, h⟩).trans (t.more fun b hb => ⟨1, by omega, hb⟩))
  have L2 := Lib.hid ol
  clear t ol k1_1 k1_2 k1_3 k1_4
  go_wp2_with fail
  refine (C3.out _ T2.out).mono ?_
  rintro e w3q ⟨rfl, ol, t⟩
  have hz3 : w.heap.size < w3q.heap.size := Nat.lt_of_lt_of_le hz2 t.size
  have k3_3 : w3q.cell? ⟨w.heap.size, 3, none⟩ = some (.slice A4 x.al.length c4) := (t.cell hz2 (HBOX.out 2)).trans k2_3
  have k3_4 : w3q.cell? ⟨w.heap.size, 4, none⟩ = some (.slice A5 x.hd.length c5) := (t.cell hz2 (HBOX.out 2)).trans k2_4
  have L1 := Lib.hid (L1.out.keep (SameB.of_turn t fun b hb hb2 => HA.out 0 2 b (by decide) hb hb2))
  have L2 := Lib.hid (L2.out.keep (SameB.of_turn t fun b hb hb2 => HA.out 1 2 b (by decide) hb hb2))
  have T3 := Lib.hid ((T2.out.more (S' := fun b => ∃ j, j < 3 ∧ E j b) fun b ⟨j, hj, h⟩ => ⟨j, by omega, h⟩).trans (t.more fun b hb => ⟨2, by omega, hb⟩))
  have L3 := Lib.hid ol
  clear t ol k2_2 k2_3 k2_4
  go_wp2_with fail
  refine (C4.out _ T3.out).mono ?_
  rintro e w4q ⟨rfl, ol, t⟩
  have hz4 : w.heap.size < w4q.heap.size := Nat.lt_of_lt_of_le hz3 t.size
  have k4_4 : w4q.cell? ⟨w.heap.size, 4, none⟩ = some (.slice A5 x.hd.length c5) := (t.cell hz3 (HBOX.out 3)).trans k3_4
  have L1 := Lib.hid (L1.out.keep (SameB.of_turn t fun b hb hb2 => HA.out 0 3 b (by decide) hb hb2))
  have L2 := Lib.hid (L2.out.keep (SameB.of_turn t fun b hb hb2 => HA.out 1 3 b (by decide) hb hb2))
  have L3 := Lib.hid (L3.out.keep (SameB.of_turn t fun b hb hb2 => HA.out 2 3 b (by decide) hb hb2))
  have T4 := Lib.hid ((T3.out.more (S' := fun b => ∃ j, j < 4 ∧ E j b) fun b ⟨j, hj, h⟩ => ⟨j, by omega, h⟩).trans (t.more fun b hb => ⟨3, by omega, hb⟩))
  have L4 := Lib.hid ol
  clear t ol k3_3 k3_4
  go_wp2_with fail
  refine (C5.out _ T4.out).mono ?_
  rintro e w5q ⟨rfl, ol, t⟩
  have hz5 : w.heap.size < w5q.heap.size := Nat.lt_of_lt_of_le hz4 t.size
  have L1 := Lib.hid (L1.out.keep (SameB.of_turn t fun b hb hb2 => HA.out 0 4 b (by decide) hb hb2))
  have L2 := Lib.hid (L2.out.keep (SameB.of_turn t fun b hb hb2 => HA.out 1 4 b (by decide) hb hb2))
  have L3 := Lib.hid (L3.out.keep (SameB.of_turn t fun b hb hb2 => HA.out 2 4 b (by decide) hb hb2))
  have L4 := Lib.hid (L4.out.keep (SameB.of_turn t fun b hb hb2 => HA.out 3 4 b (by decide) hb hb2))
  have T5 := Lib.hid ((T4.out.more (S' := fun b => ∃ j, j < 5 ∧ E j b) fun b ⟨j, hj, h⟩ => ⟨j, by omega, h⟩).trans (t.more fun b hb => ⟨4, by omega, hb⟩))
  have L5 := Lib.hid ol
  clear t ol k4_4
  go_wp2
  go_ret
  exact ⟨rfl, L1.out, L2.out, L3.out, L4.out, L5.out, T5.out.more fun b ⟨j, _, h⟩ => ⟨j, h⟩⟩
theorem markSyO {x : Sy} {cs : List Value} {w : World} {S : Nat → Prop} {k0 : Int} (h : syO.O w S x cs) (hS : ∀ b, S b → b < w.heap.size) (k1 : 1 ≤ k0) (k2 : k0 + (syM.cnt x : Nat) ≤ 1000000000000) :
    Calls Tryz.prog 19 #[.agg cs.toArray, .int .i64 k0] w fun e w' => e = .returned (.int .i64 (k0 + syM.cnt x)) ∧ syO.O w' S (syM.md k0 x) cs ∧ TurnS S w w' := by
  obtain ⟨A1, c1, A2, c2, A3, c3, A4, c4, A5, c5, E, rfl, h1, h2, h3, h4, h5, ha, hE⟩ := h
  refine (markOSystem_any x A1 A2 A3 A4 A5 c1 c2 c3 c4 c5 E k0 w h1 h2 h3 h4 h5 ha (fun i b hb => hS b (hE i b hb)) k1 k2).mono ?_
  rintro e w' ⟨rfl, o1, o2, o3, o4, o5, t⟩
  refine ⟨congrArg (fun v => Ending.returned (.int .i64 v)) (by show _ = k0 + ((cntL dfM x.ds + cntL cpM x.cs + cntL mtM x.ms + cntL txtM x.al + cntL txtM x.hd : Nat) : Int); omega), ?_, t.more fun b ⟨j, hj⟩ => hE j b hj⟩
  refine ⟨A1, c1, A2, c2, A3, c3, A4, c4, A5, c5, E, ?_, ?_, ?_, ?_, ?_, ?_, ha, hE⟩
  · show (_ : List Value) = [Value.slice A1 (mkL dfM (k0) x.ds).length c1, Value.slice A2 (mkL cpM (k0 + cntL dfM x.ds) x.cs).length c2, Value.slice A3 (mkL mtM (k0 + cntL dfM x.ds + cntL cpM x.cs) x.ms).length c3, Value.slice A4 (mkL txtM (k0 + cntL dfM x.ds + cntL cpM x.cs + cntL mtM x.ms) x.al).length c4, Value.slice A5 (mkL txtM (k0 + cntL dfM x.ds + cntL cpM x.cs + cntL mtM x.ms + cntL txtM x.al) x.hd).length c5]
    rw [mkL_length, mkL_length, mkL_length, mkL_length, mkL_length]
  · show OL _ _ _ _ _ (mkL dfM (k0) x.ds).length _ _
    rw [mkL_length]
    exact o1
  · show OL _ _ _ _ _ (mkL cpM (k0 + cntL dfM x.ds) x.cs).length _ _
    rw [mkL_length]
    exact o2
  · show OL _ _ _ _ _ (mkL mtM (k0 + cntL dfM x.ds + cntL cpM x.cs) x.ms).length _ _
    rw [mkL_length]
    exact o3
  · show OL _ _ _ _ _ (mkL txtM (k0 + cntL dfM x.ds + cntL cpM x.cs + cntL mtM x.ms) x.al).length _ _
    rw [mkL_length]
    exact o4
  · show OL _ _ _ _ _ (mkL txtM (k0 + cntL dfM x.ds + cntL cpM x.cs + cntL mtM x.ms + cntL txtM x.al) x.hd).length _ _
    rw [mkL_length]
    exact o5
set_option maxRecDepth 100000 in
set_option maxHeartbeats 2000000 in
theorem heldOSystem_any (x : Sy) (A1 A2 A3 A4 A5 : Option Addr) (c1 c2 c3 c4 c5 : Nat) (S : Nat → Prop) (k0 : Int) (w : World) (h1 : LRow dfR w S A1 (mkL dfM (k0) x.ds)) (m1 : x.ds.length ≤ maxLen) (h2 : LRow cpR w S A2 (mkL cpM (k0 + cntL dfM x.ds) x.cs)) (m2 : x.cs.length ≤ maxLen) (h3 : LRow mtR w S A3 (mkL mtM (k0 + cntL dfM x.ds + cntL cpM x.cs) x.ms)) (m3 : x.ms.length ≤ maxLen) (h4 : LRow txtR w S A4 (mkL txtM (k0 + cntL dfM x.ds + cntL cpM x.cs + cntL mtM x.ms) x.al)) (m4 : x.al.length ≤ maxLen) (h5 : LRow txtR w S A5 (mkL txtM (k0 + cntL dfM x.ds + cntL cpM x.cs + cntL mtM x.ms + cntL txtM x.al) x.hd)) (m5 : x.hd.length ≤ maxLen) (hS : ∀ b, S b → b < w.heap.size) (k1 : 1 ≤ k0) (k2 : k0 + (cntL dfM x.ds + cntL cpM x.cs + cntL mtM x.ms + cntL txtM x.al + cntL txtM x.hd : Nat) ≤ 1000000000000) :
    Calls Tryz.prog 21 #[.agg #[.slice A1 x.ds.length c1, .slice A2 x.cs.length c2, .slice A3 x.ms.length c3, .slice A4 x.al.length c4, .slice A5 x.hd.length c5], .int .i64 k0] w fun e w' => e = .returned (.int .i64 (k0 + cntL dfM x.ds + cntL cpM x.cs + cntL mtM x.ms + cntL txtM x.al + cntL txtM x.hd)) ∧ Below w.heap.size w w' := by
  have C1 := Lib.hid (fun (W : World) (hW : Below w.heap.size w W) => (heldODefinitionS_any A1 x.ds.length c1 (k0) x.ds W S (h1.keep (SameOn.of_below hW hS)) (fun b hb => Nat.lt_of_lt_of_le (hS b hb) hW.size) rfl m1 (by omega) (by omega)).mono fun e w' ⟨he, hb⟩ => (⟨he, hW.trans (Below.mono hb hW.size), hb⟩ : e = Ending.returned (.int .i64 (k0 + cntL dfM x.ds)) ∧ Below w.heap.size w w' ∧ Below W.heap.size W w'))
  have C2 := Lib.hid (fun (W : World) (hW : Below w.heap.size w W) => (heldOComponentS_any A2 x.cs.length c2 (k0 + cntL dfM x.ds) x.cs W S (h2.keep (SameOn.of_below hW hS)) (fun b hb => Nat.lt_of_lt_of_le (hS b hb) hW.size) rfl m2 (by omega) (by omega)).mono fun e w' ⟨he, hb⟩ => (⟨he, hW.trans (Below.mono hb hW.size), hb⟩ : e = Ending.returned (.int .i64 (k0 + cntL dfM x.ds + cntL cpM x.cs)) ∧ Below w.heap.size w w' ∧ Below W.heap.size W w'))
  have C3 := Lib.hid (fun (W : World) (hW : Below w.heap.size w W) => (heldOMeetingS_any A3 x.ms.length c3 (k0 + cntL dfM x.ds + cntL cpM x.cs) x.ms W S (h3.keep (SameOn.of_below hW hS)) (fun b hb => Nat.lt_of_lt_of_le (hS b hb) hW.size) rfl m3 (by omega) (by omega)).mono fun e w' ⟨he, hb⟩ => (⟨he, hW.trans (Below.mono hb hW.size), hb⟩ : e = Ending.returned (.int .i64 (k0 + cntL dfM x.ds + cntL cpM x.cs + cntL mtM x.ms)) ∧ Below w.heap.size w w' ∧ Below W.heap.size W w'))
  have C4 := Lib.hid (fun (W : World) (hW : Below w.heap.size w W) => (heldOStringS_any A4 x.al.length c4 (k0 + cntL dfM x.ds + cntL cpM x.cs + cntL mtM x.ms) x.al W S (h4.keep (SameOn.of_below hW hS)) (fun b hb => Nat.lt_of_lt_of_le (hS b hb) hW.size) rfl m4 (by omega) (by omega)).mono fun e w' ⟨he, hb⟩ => (⟨he, hW.trans (Below.mono hb hW.size), hb⟩ : e = Ending.returned (.int .i64 (k0 + cntL dfM x.ds + cntL cpM x.cs + cntL mtM x.ms + cntL txtM x.al)) ∧ Below w.heap.size w w' ∧ Below W.heap.size W w'))
  have C5 := Lib.hid (fun (W : World) (hW : Below w.heap.size w W) => (heldOStringS_any A5 x.hd.length c5 (k0 + cntL dfM x.ds + cntL cpM x.cs + cntL mtM x.ms + cntL txtM x.al) x.hd W S (h5.keep (SameOn.of_below hW hS)) (fun b hb => Nat.lt_of_lt_of_le (hS b hb) hW.size) rfl m5 (by omega) (by omega)).mono fun e w' ⟨he, hb⟩ => (⟨he, hW.trans (Below.mono hb hW.size), hb⟩ : e = Ending.returned (.int .i64 (k0 + cntL dfM x.ds + cntL cpM x.cs + cntL mtM x.ms + cntL txtM x.al + cntL txtM x.hd)) ∧ Below w.heap.size w w' ∧ Below W.heap.size W w'))
  have n1 : ¬ (k0 + cntL dfM x.ds < 0) := by omega
  have n2 : ¬ (k0 + cntL dfM x.ds + cntL cpM x.cs < 0) := by omega
  have n3 : ¬ (k0 + cntL dfM x.ds + cntL cpM x.cs + cntL mtM x.ms < 0) := by omega
  have n4 : ¬ (k0 + cntL dfM x.ds + cntL cpM x.cs + cntL mtM x.ms + cntL txtM x.al < 0) := by omega
  have n5 : ¬ (k0 + cntL dfM x.ds + cntL cpM x.cs + cntL mtM x.ms + cntL txtM x.al + cntL txtM x.hd < 0) := by omega
  clear h1 h2 h3 h4 h5 m1 m2 m3 m4 m5 hS k2
  have HBX := Lib.hid (fun o : Obj => ((Below.refl w.heap.size w).alloc (Nat.le_refl _) o))
  go_enter Tryz.func21, Tryz.ntmps21
  go_wp2_with fail
  refine (C1.out _ (HBX.out _)).mono ?_
  rintro e w1q ⟨rfl, b2, b3⟩
  have hz1 : w.heap.size < w1q.heap.size := by have := b3.size; simp at this; omega
  have k1_1 : w1q.cell? ⟨w.heap.size, 1, none⟩ = some (.slice A2 x.cs.length c2) := (b3.cell (p := ⟨w.heap.size, 1, none⟩) (by simp)).trans (by simp [go_sem])
  have k1_2 : w1q.cell? ⟨w.heap.size, 2, none⟩ = some (.slice A3 x.ms.length c3) := (b3.cell (p := ⟨w.heap.size, 2, none⟩) (by simp)).trans (by simp [go_sem])
  have k1_3 : w1q.cell? ⟨w.heap.size, 3, none⟩ = some (.slice A4 x.al.length c4) := (b3.cell (p := ⟨w.heap.size, 3, none⟩) (by simp)).trans (by simp [go_sem])
  have k1_4 : w1q.cell? ⟨w.heap.size, 4, none⟩ = some (.slice A5 x.hd.length c5) := (b3.cell (p := ⟨w.heap.size, 4, none⟩) (by simp)).trans (by simp [go_sem])
  have B1 := Lib.hid b2
  clear b2 b3
  go_wp2_with fail
  refine (C2.out _ B1.out).mono ?_
  rintro e w2q ⟨rfl, b2, b3⟩
  have hz2 : w.heap.size < w2q.heap.size := Nat.lt_of_lt_of_le hz1 b3.size
  have k2_2 : w2q.cell? ⟨w.heap.size, 2, none⟩ = some (.slice A3 x.ms.length c3) := (b3.cell (p := ⟨w.heap.size, 2, none⟩) hz1).trans k1_2
  have k2_3 : w2q.cell? ⟨w.heap.size, 3, none⟩ = some (.slice A4 x.al.length c4) := (b3.cell (p := ⟨w.heap.size, 3, none⟩) hz1).trans k1_3
  have k2_4 : w2q.cell? ⟨w.heap.size, 4, none⟩ = some (.slice A5 x.hd.length c5) := (b3.cell (p := ⟨w.heap.size, 4, none⟩) hz1).trans k1_4
  have B2 := Lib.hid b2
  clear b2 b3 k1_1 k1_2 k1_3 k1_4
  go_wp2_with fail
  refine (C3.out _ B2.out).mono ?_
  rintro e w3q ⟨rfl, b2, b3⟩
  have hz3 : w.heap.size < w3q.heap.size := Nat.lt_of_lt_of_le hz2 b3.size
  have k3_3 : w3q.cell? ⟨w.heap.size, 3, none⟩ = some (.slice A4 x.al.length c4) := (b3.cell (p := ⟨w.heap.size, 3, none⟩) hz2).trans k2_3
  have k3_4 : w3q.cell? ⟨w.heap.size, 4, none⟩ = some (.slice A5 x.hd.length c5) := (b3.cell (p := ⟨w.heap.size, 4, none⟩) hz2).trans k2_4
  have B3 := Lib.hid b2
  clear b2 b3 k2_2 k2_3 k2_4
  go_wp2_with fail
  refine (C4.out _ B3.out).mono ?_
  rintro e w4q ⟨rfl, b2, b3⟩
  have hz4 : w.heap.size < w4q.heap.size := Nat.lt_of_lt_of_le hz3 b3.size
  have k4_4 : w4q.cell? ⟨w.heap.size, 4, none⟩ = some (.slice A5 x.hd.length c5) := (b3.cell (p := ⟨w.heap.size, 4, none⟩) hz3).trans k3_4
  have B4 := Lib.hid b2
  clear b2 b3 k3_3 k3_4
  go_wp2_with fail
  refine (C5.out _ B4.out).mono ?_
  rintro e w5q ⟨rfl, b2, b3⟩
  have hz5 : w.heap.size < w5q.heap.size := Nat.lt_of_lt_of_le hz4 b3.size
  have B5 := Lib.hid b2
  clear b2 b3 k4_4
  go_wp2
  go_ret
  exact ⟨rfl, B5.out⟩
theorem heldSyR {x : Sy} {cs : List Value} {w : World} {S : Nat → Prop} {k0 : Int} (h : syR.R w S (syM.md k0 x) cs) (hS : ∀ b, S b → b < w.heap.size) (k1 : 1 ≤ k0) (k2 : k0 + (syM.cnt x : Nat) ≤ 1000000000000) :
    Calls Tryz.prog 21 #[.agg cs.toArray, .int .i64 k0] w fun e w' => e = .returned (.int .i64 (k0 + syM.cnt x)) ∧ Below w.heap.size w w' := by
  obtain ⟨A1, c1, A2, c2, A3, c3, A4, c4, A5, c5, rfl, ⟨p1, q1, r1⟩, ⟨p2, q2, r2⟩, ⟨p3, q3, r3⟩, ⟨p4, q4, r4⟩, ⟨p5, q5, r5⟩⟩ := h
  have p1 : (mkL dfM (k0) x.ds).length ≤ c1 := p1
  have p2 : (mkL cpM (k0 + cntL dfM x.ds) x.cs).length ≤ c2 := p2
  have p3 : (mkL mtM (k0 + cntL dfM x.ds + cntL cpM x.cs) x.ms).length ≤ c3 := p3
  have p4 : (mkL txtM (k0 + cntL dfM x.ds + cntL cpM x.cs + cntL mtM x.ms) x.al).length ≤ c4 := p4
  have p5 : (mkL txtM (k0 + cntL dfM x.ds + cntL cpM x.cs + cntL mtM x.ms + cntL txtM x.al) x.hd).length ≤ c5 := p5
  rw [mkL_length] at p1 p2 p3 p4 p5
  have e : [Value.slice A1 ((syM.md k0 x).ds).length c1, Value.slice A2 ((syM.md k0 x).cs).length c2, Value.slice A3 ((syM.md k0 x).ms).length c3, Value.slice A4 ((syM.md k0 x).al).length c4, Value.slice A5 ((syM.md k0 x).hd).length c5] = [Value.slice A1 x.ds.length c1, Value.slice A2 x.cs.length c2, Value.slice A3 x.ms.length c3, Value.slice A4 x.al.length c4, Value.slice A5 x.hd.length c5] := by
    show [Value.slice A1 (mkL dfM (k0) x.ds).length c1, Value.slice A2 (mkL cpM (k0 + cntL dfM x.ds) x.cs).length c2, Value.slice A3 (mkL mtM (k0 + cntL dfM x.ds + cntL cpM x.cs) x.ms).length c3, Value.slice A4 (mkL txtM (k0 + cntL dfM x.ds + cntL cpM x.cs + cntL mtM x.ms) x.al).length c4, Value.slice A5 (mkL txtM (k0 + cntL dfM x.ds + cntL cpM x.cs + cntL mtM x.ms + cntL txtM x.al) x.hd).length c5] = _
    rw [mkL_length, mkL_length, mkL_length, mkL_length, mkL_length]
  rw [e]
  refine (heldOSystem_any x A1 A2 A3 A4 A5 c1 c2 c3 c4 c5 S k0 w r1 (by omega) r2 (by omega) r3 (by omega) r4 (by omega) r5 (by omega) hS k1 k2).mono ?_
  rintro e w' ⟨rfl, hb⟩
  exact ⟨congrArg (fun v => Ending.returned (.int .i64 v)) (by show _ = k0 + ((cntL dfM x.ds + cntL cpM x.cs + cntL mtM x.ms + cntL txtM x.al + cntL txtM x.hd : Nat) : Int); omega), hb⟩
end Go.Proofs.YtdgcpaeneafejaaGreatDoor
