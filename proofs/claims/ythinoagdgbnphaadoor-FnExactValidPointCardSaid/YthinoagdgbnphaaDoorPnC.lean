/- How the laws' own helpers answer on records: how much they hold, a copy, comparing. -/
import Derived.Test.YthinoagdgbnphaaDoorProg
import Derived.WalkKit
import Derived.ProofKit
import Derived.BigQuiet
import Derived.StillTailTactics
import Derived.OwnWalk
import Derived.Outline
import Derived.Test.YthinoagdgbnphaaDoorMem
import Derived.Test.YthinoagdgbnphaaDoorOwn
import Derived.Test.YthinoagdgbnphaaDoorTurn
import Derived.Test.YthinoagdgbnphaaDoorSRow
import Derived.Test.YthinoagdgbnphaaDoorDat
import Derived.Test.YthinoagdgbnphaaDoorPnD
namespace Go.Proofs.YthinoagdgbnphaaDoor
open Go.RowKit
set_option maxHeartbeats 1000000 in
theorem szDPoint_any (x : Pn) (A : Option Addr) (c : Nat) (left : Int) (w : World) (hlc : x.vs.length ≤ c) (hcm : c ≤ maxLen) (h2 : 0 ≤ left) (h3 : left ≤ 1048576) :
    Calls Tryd.prog 5 #[.agg #[.int .i64 x.d, .int .i64 x.pt, .slice A x.vs.length c], .int .i64 left] w (SzRet (okPn x) left w) := by
  have hbx : ∀ o : Obj, Below w.heap.size w (w.alloc o) := fun o => (Below.refl _ _).alloc (Nat.le_refl _) o
  have HBX := Lib.hid hbx
  clear hbx
  have C := Lib.hid (fun (W : World) (_ : Below w.heap.size w W) => szDInt64S_any A x.vs.length c x.vs (left) W rfl (by omega) (by omega) (by omega))
  clear hlc hcm
  go_enter Tryd.func5, Tryd.ntmps5
  go_wp2_with fail
  refine (C.out _ (HBX.out _)).mono ?_
  rintro e w2 ⟨q, rfl, hq, b2⟩
  have B2 := Lib.hid ((HBX.out _).trans (b2.mono (by simp)))
  clear b2
  rcases hq with hq | ⟨hq0, hq1, hok⟩
  · go_wp2
    go_ret
    exact SzRet.no B2.out
  · have hq2 : ¬ q < 0 := by omega
    have HOK := Lib.hid hok
    clear hok
    go_wp2
    go_ret
    exact SzRet.yes hq0 (by omega) HOK.out B2.out
set_option maxHeartbeats 16000000 in
theorem toDPoint_any (x : Pn) (A : Option Addr) (c : Nat) (w : World) (S : Nat → Prop) (hr : LRow intR w S A x.vs) (hS : ∀ b, S b → b < w.heap.size) (m : okList okAny x.vs) :
    Calls Tryd.prog 8 #[.agg #[.int .i64 x.d, .int .i64 x.pt, .slice A x.vs.length c]] w (MadeR pnR x w) := by
  have hm : x.vs.length ≤ maxLen := by have := m.1; unfold maxLen; omega
  have C := Lib.hid (fun (W : World) (hW : Below w.heap.size w W) => toDInt64S_any A x.vs.length c x.vs W S (hr.keep (SameOn.of_below hW hS)) (fun b hb => Nat.lt_of_lt_of_le (hS b hb) hW.size) rfl m)
  have HM := Lib.hid hm
  clear hr hm m
  go_enter Tryd.func8, Tryd.ntmps8
  go_wp2_with fail
  refine (C.out _ (by repeat (first | exact Below.refl _ _ | refine Below.setCell ?_ (by simp) _ | refine Below.alloc ?_ (by simp <;> omega) _))).mono ?_
  rintro e w2 ⟨rfl, hl, b2⟩
  obtain ⟨hcc, _⟩ := bcell b2
  have HL := Lib.hid hl
  have B2 := Lib.hid b2
  have hs2 := b2.size
  simp at hs2
  clear hl b2
  go_wp2
  refine bodyPost_ret (v := .agg #[.int .i64 x.d, .int .i64 x.pt, .slice (some ⟨_, 0, none⟩) x.vs.length x.vs.length]) (by simp [results, Tryd.results8, go_sem, hcc]; rfl) rfl ⟨[.int .i64 x.d, .int .i64 x.pt, .slice (some ⟨_, 0, none⟩) x.vs.length x.vs.length], rfl, ?_, ?_⟩
  · refine ⟨_, _, rfl, Nat.le_refl _, HM.out, LRow.more (LRow.keep (S := In (w.heap.size + 1 + 1 + 1) w2.heap.size) (by simpa using HL.out) ?_) ?_⟩
    · repeat (first | exact SameOn.refl _ _ | refine SameOn.setCell ?_ (by intro h; have := h.1; omega))
    · intro b hb
      exact ⟨by have := hb.1; omega, by have := hb.2; simpa [World.setCell] using this⟩
  · repeat (refine Below.setCell ?_ (by simp <;> omega) _)
    refine Below.trans ?_ (B2.out.mono (by simp <;> omega))
    repeat (first | exact Below.refl _ _ | refine Below.setCell ?_ (by simp) _ | refine Below.alloc ?_ (by simp <;> omega) _)
set_option maxHeartbeats 1000000 in
theorem eqDPoint_yes (x : Pn) (A1 A2 : Option Addr) (c1 c2 : Nat) (S1 S2 : Nat → Prop) (w : World) (hr1 : LRow intR w S1 A1 x.vs) (hr2 : LRow intR w S2 A2 x.vs) (hS1 : ∀ b, S1 b → b < w.heap.size) (hS2 : ∀ b, S2 b → b < w.heap.size) (m : okList okAny x.vs) :
    Calls Tryd.prog 11 #[.agg #[.int .i64 x.d, .int .i64 x.pt, .slice A1 x.vs.length c1], .agg #[.int .i64 x.d, .int .i64 x.pt, .slice A2 x.vs.length c2]] w fun e w' => e = .returned (.bool true) ∧ Below w.heap.size w w' := by
  have hne0 : (x.d != x.d) = false := by simp
  have hne1 : (x.pt != x.pt) = false := by simp
  have C := Lib.hid (fun (W : World) (hW : Below w.heap.size w W) => eqDInt64S_yes A1 A2 x.vs.length x.vs.length c1 c2 x.vs W S1 S2 (hr1.keep (SameOn.of_below hW hS1)) (hr2.keep (SameOn.of_below hW hS2)) (fun b hb => Nat.lt_of_lt_of_le (hS1 b hb) hW.size) (fun b hb => Nat.lt_of_lt_of_le (hS2 b hb) hW.size) rfl rfl m)
  clear hr1 hr2 m
  go_enter Tryd.func11, Tryd.ntmps11
  go_wp2_with fail
  refine (C.out _ (by repeat (first | exact Below.refl _ _ | refine Below.setCell ?_ (by simp) _ | refine Below.alloc ?_ (by simp <;> omega) _))).mono ?_
  rintro e w2 ⟨rfl, b2⟩
  have B2 := Lib.hid b2
  clear b2
  go_wp2
  go_ret
  refine ⟨rfl, Below.trans ?_ (B2.out.mono (by simp <;> omega))⟩
  repeat (first | exact Below.refl _ _ | refine Below.setCell ?_ (by simp) _ | refine Below.alloc ?_ (by simp <;> omega) _)
end Go.Proofs.YthinoagdgbnphaaDoor
