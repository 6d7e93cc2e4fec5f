/- The states ahead of all labels: the model. -/
import Derived.Test.YtbailpfjgjcbdaaGreatDoorAfH
namespace Go.Proofs.YtbailpfjgjcbdaaGreatDoor
open Go.RowKit
set_option linter.unusedVariables false
set_option linter.unusedSimpArgs false
theorem one_row {W : World} {g : Nat} {i : Int} (hg : g < W.heap.size) (z : W.cell? ⟨g, 0, none⟩ = some (.int .i64 i)) : LRow intR W (· < W.heap.size) (some ⟨g, 0, none⟩) [i] :=
  ⟨[.int .i64 i], fun _ => ⟨g, 0, rfl, hg, fun j v hj => by
    match j, hj with
    | 0, hj => injection hj with hj; subst hj; exact z⟩, rfl, fun j y hy => by
    match j, hy with
    | 0, hy => injection hy with hy; subst hy; rfl⟩
set_option maxRecDepth 100000 in
set_option maxHeartbeats 4000000 in
theorem l12First_any (x : Lt) (p : Nat) (A2 : Option Addr) (c2 N : Nat) (w : World) (S : Nat → Prop) (y0 : w.cell? ⟨p, 0, none⟩ = some (.int .i64 x.st)) (y1 : w.cell? ⟨p, 1, none⟩ = some (.int .i64 x.ini)) (y3 : w.cell? ⟨p, 3, none⟩ = some (.slice A2 x.es.length c2)) (h2 : LRow edR w S A2 x.es) (hS : ∀ b, S b → b < w.heap.size) (tv : ltB x = true) (hN : x.st = (N : Int)) :
    Calls Tryz.prog 68 #[.pointer (some ⟨p, 0, none⟩)] w fun e w' => ∃ A c, e = .returned (.slice A (cloL x [x.ini]).length c) ∧ OL intO 2 w' (In w.heap.size w'.heap.size) A (cloL x [x.ini]).length c (cloL x [x.ini]) ∧ Below w.heap.size w w' := by
  have hp := World.block_lt_of_cell? w _ y0
  obtain ⟨hst, hini, _, _, _, _⟩ := ltB_parts tv
  have hN40 : N ≤ 40 := by omega
  have HNN := Lib.hid (show x.st.toNat = N by omega)
  have HI := Lib.hid (show ∀ k ∈ [x.ini], 0 ≤ k ∧ k < (N : Int) from fun k hk => by rw [List.mem_singleton] at hk; subst hk; omega)
  have HB0 := Lib.hid (fun o : Obj => (Below.refl w.heap.size w).alloc (Nat.le_refl _) o)
  have CM := Lib.hid (fun (W : World) (hW : Below w.heap.size w W) (g lo : Nat) (hg : g < W.heap.size) (z : W.cell? ⟨g, 0, none⟩ = some (.int .i64 x.ini)) (hlo : W.heap.size = lo) => (show Calls Tryz.prog 31 #[.pointer (some ⟨p, 0, none⟩), .slice (some ⟨g, 0, none⟩) 1 1] W (fun e w' => e = .returned (.slice (some ⟨lo, 0, none⟩) N N) ∧ (∃ sb, MkS N [x.ini] sb ∧ MkRow w' lo lo N sb) ∧ Below lo W w') by subst hlo; exact l12Marks_any p (some ⟨g, 0, none⟩) 1 1 N x.st [x.ini] W (· < W.heap.size) ((hW.cell (p := ⟨p, 0, none⟩) hp).trans y0) hN hN40 (one_row hg z) rfl (by decide) (fun b hb => hb) HI.out))
  have CC := Lib.hid (fun (lo : Nat) (sb0 : List Bool) (W : World) (hW : Below w.heap.size w W) (hl0 : w.heap.size ≤ lo) (hlo : lo ≤ W.heap.size) (hM : GMid N (tauE x) [x.ini] sb0) (hO : MkRow W lo lo N sb0) => l12Close_any x p A2 c2 N lo lo [x.ini] sb0 W S ((hW.cell (p := ⟨p, 3, none⟩) hp).trans y3) (h2.keep (SameOn.of_below hW hS)) (fun b hb => Nat.lt_of_lt_of_le (hS b hb) hl0) (Nat.lt_of_lt_of_le hp hl0) hlo (Nat.le_refl _) tv hN hM hO)
  clear h2 hS tv hN hst hini y3 y0
  go_enter Tryz.func68, Tryz.ntmps68
  go_wp2_with fail
  refine (CM.out _ (HB0.out _) w.heap.size (w.heap.size + 1) (by simp) (by simp [go_sem]) (by simp)).mono ?_
  rintro e w4 ⟨rfl, ⟨sb, hmk, hrow⟩, hb4⟩
  have hlo4 : w.heap.size + 1 ≤ w4.heap.size := by have h := hb4.size; simp at h; omega
  have HB4 := Lib.hid ((HB0.out _).trans (hb4.mono (by omega)))
  have C4 := Lib.hid (CC.out (w.heap.size + 1) sb w4 HB4.out (by omega) hlo4 (hmk.mid HI.out) hrow)
  clear hb4 hmk hrow
  go_wp2_with fail
  refine (C4.out).mono ?_
  rintro e w5 ⟨⟨v, rfl⟩, ⟨sb2, hmid, hclo, hrow⟩, hb5⟩
  have HB5 := Lib.hid (HB4.out.trans (hb5.mono (by omega)))
  have HSL := Lib.hid (show selB sb2 N = cloL x [x.ini] by rw [← HNN.out] at hmid ⊢; exact gmid_all hmid hclo)
  have C5 := Lib.hid (l14List_any N (w.heap.size + 1) (w.heap.size + 1) sb2 w5 hN40 hmid.len hrow)
  have HS5 := Lib.hid HB5.out.size
  clear hb5 hmid hclo hrow C4
  rw [HSL.out] at C5
  go_wp2_with (go_at_call 33; refine (C5.out).mono ?_; rintro e w6 ⟨A, c, rfl, hO, hb6⟩; have HB6 := Lib.hid (HB5.out.trans (hb6.mono HB5.out.size)); have HO := Lib.hid (hO.more (S' := In w.heap.size w6.heap.size) (fun b hb => ⟨Nat.le_trans HS5.out hb.1, hb.2⟩)); clear hb6 hO)
  go_ret
  exact ⟨A, c, rfl, HO.out, HB6.out⟩
end Go.Proofs.YtbailpfjgjcbdaaGreatDoor
