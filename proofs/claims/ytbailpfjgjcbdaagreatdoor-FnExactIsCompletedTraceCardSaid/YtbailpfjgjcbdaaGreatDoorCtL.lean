/- The law of IsCompletedTrace, walked. -/
import Derived.Deep.RegionHeld3
import Derived.BigQuiet
import Derived.Outline
import Derived.Test.YtbailpfjgjcbdaaGreatDoorCtS
import Derived.Test.YtbailpfjgjcbdaaGreatDoorCtI
import Derived.Test.YtbailpfjgjcbdaaGreatDoorLtB
import Derived.Test.YtbailpfjgjcbdaaGreatDoorMrkI
namespace Go.Proofs.YtbailpfjgjcbdaaGreatDoor
open Go.RowKit
set_option maxRecDepth 100000 in
set_option maxHeartbeats 8000000 in
theorem lawIsCompletedTrace_any (x : Lt) (cs_x : List Value) (tr : List ByteArray) (B_tr : Option Addr) (n_tr d_tr : Nat) (w : World) (h_x : ltR.R w (· < w.heap.size) x cs_x) (h_tr : LRow txtR w (· < w.heap.size) B_tr tr) (l_tr : tr.length = n_tr) (m_tr : n_tr ≤ maxLen) (ht : TxtTabs w) :
    Calls Tryz.prog 5 #[.agg cs_x.toArray, .slice B_tr n_tr d_tr] w fun e w' => e = .returned (.bool true) ∧ Below w.heap.size w w' := by
  have HTB := Lib.hid ht
  have LT := Lib.hid (fun (W : World) (hW : Below w.heap.size w W) (b : Nat) (h : b < w.heap.size) => Nat.lt_of_lt_of_le h hW.size)
  have CZ_x := Lib.hid (fun (W : World) (hW : Below w.heap.size w W) (r : Int) (r0 : 0 ≤ r) (r1 : r ≤ 1048576) => szLtR (ltR.keep h_x (SameOn.of_below hW fun _ h => h)) (LT.out W hW) r0 r1)
  have CT_x := Lib.hid (fun (W : World) (hW : Below w.heap.size w W) (ok : okLt x) => toLtRO (ltR.keep h_x (SameOn.of_below hW fun _ h => h)) (LT.out W hW) ok)
  obtain ⟨A_x1, c_x1, A_x2, c_x2, rfl, _⟩ := h_x
  subst l_tr
  have CT_tr := Lib.hid (fun (W : World) (hW : Below w.heap.size w W) (ok : okList okTx tr) => (toOStringS_any B_tr tr.length d_tr tr W _ (h_tr.keep (SameOn.of_below hW fun _ h => h)) (LT.out W hW) rfl ok).mono fun e w' ⟨he, hO, hb⟩ => (⟨_, he, hO, hb⟩ : ∃ A, e = Ending.returned (.slice A tr.length tr.length) ∧ OL txtO 9 w' (In W.heap.size w'.heap.size) A tr.length tr.length tr ∧ Below W.heap.size W w'))
  have CZ_tr := Lib.hid (fun (W : World) (hW : Below w.heap.size w W) (r : Int) (r0 : 0 ≤ r) (r1 : r ≤ 1048576) => szDStringS_any B_tr tr.length d_tr tr r W _ (h_tr.keep (SameOn.of_below hW fun _ h => h)) (LT.out W hW) rfl m_tr r0 r1)
  clear h_tr m_tr
  have hne1 : (ctB x tr != ctB x tr) = false := by simp
  have hne2 : (afC x tr != afC x tr) = false := by simp
  clear ht
  go_enter Tryz.func5, Tryz.ntmps5
  go_wp2_with fail
  refine (CZ_x.out _ (by repeat (first | exact Below.refl _ _ | refine Below.alloc ?_ (by simp <;> omega) _)) _ (by omega) (by omega)).mono ?_
  rintro e v1 ⟨q_x, rfl, hq, b3⟩
  have b0 : ∀ o : Obj, Below w.heap.size w (w.alloc o) := fun o => (Below.refl _ _).alloc (Nat.le_refl _) o
  have BA := Lib.hid ((Bx.of4 (b := w.heap.size) (v0 := .int .i64 x.st) (v1 := .int .i64 x.ini) (v2 := .slice A_x1 x.ls.length c_x1) (v3 := .slice A_x2 x.es.length c_x2) (by simp <;> omega) (by simp [go_sem]) (by simp [go_sem]) (by simp [go_sem]) (by simp [go_sem])).next b3)
  have HB := Lib.hid ((b0 _).trans (b3.mono (by simp)))
  clear b0
  clear b3
  rcases hq with hq | ⟨hp_x, hl_x, hok⟩
  · go_wp2
    go_ret
    exact ⟨rfl, HB.out⟩
  have hn_x : ¬ q_x < 0 := by omega
  have K_x := Lib.hid hok
  have WT_x := Lib.hid (show wtLt x ≤ 1048576 by omega)
  have hl_x : q_x ≤ 1048576 := by omega
  clear hok CZ_x
  go_wp2_with fail
  refine (CZ_tr.out _ HB.out q_x hp_x (by omega)).mono ?_
  rintro e v2 ⟨q_tr, rfl, hq, b3⟩
  have HB := Lib.hid (HB.out.trans (b3.mono HB.out.size))
  have BA := Lib.hid (BA.out.next b3)
  clear b3
  rcases hq with hq | ⟨hp_tr, hl_tr, hok⟩
  · go_wp2
    go_ret
    exact ⟨rfl, HB.out⟩
  have hn_tr : ¬ q_tr < 0 := by omega
  have K_tr := Lib.hid hok
  have hz_tr := wL_z tr
  have WT_tr := Lib.hid (show tr.length ≤ 1048576 by omega)
  clear hok CZ_tr hz_tr
  obtain ⟨a0, a1, a2, a3⟩ := BA.out.four
  have ap := BA.out.1
  go_wp2_with fail
  refine (CT_x.out _ HB.out K_x.out).mono ?_
  rintro e v3 ⟨css, rfl, hO, b3⟩
  clear a0 a1 a2 a3 ap
  have O_BA_Hsx := Lib.hid BA.out.1
  have Hsxw := Lib.hid HB.out.size
  have Hsx := Lib.hid (hO)
  have HB := Lib.hid (HB.out.trans (b3.mono HB.out.size))
  have BA := Lib.hid (BA.out.next b3)
  have Hsxb := Lib.hid (Nat.le_refl v3.heap.size)
  clear b3 hO
  go_wp2_with fail
  refine (CT_tr.out _ HB.out K_tr.out).mono ?_
  rintro e v4 ⟨Astr, rfl, hO, b3⟩
  have O_BA_Hstr := Lib.hid BA.out.1
  have O_Hsx_Hstr := Hsxb
  have Hstrw := Lib.hid HB.out.size
  have Hstr := Lib.hid (hO)
  have HB := Lib.hid (HB.out.trans (b3.mono HB.out.size))
  have BA := Lib.hid (BA.out.next b3)
  have Hsx := Lib.hid (Owd.nb (G := ltO) Hsx.out b3 Hsxb.out)
  have Hsxb := Lib.hid (Nat.le_trans Hsxb.out b3.size)
  have Hstrb := Lib.hid (Nat.le_refl v4.heap.size)
  clear b3 hO
  go_wp2_with fail
  refine (specCt_any (ltO.rd Hsx.out) Hstr.out.lrow (fun b h => Nat.lt_of_lt_of_le h.2 Hsxb.out) (fun b h => Nat.lt_of_lt_of_le h.2 Hstrb.out) K_x.out K_tr.out).mono ?_
  rintro e v5 ⟨rfl, b3⟩
  have HB := Lib.hid (HB.out.trans (b3.mono HB.out.size))
  have BA := Lib.hid (BA.out.next b3)
  have Hsx := Lib.hid (Owd.nb (G := ltO) Hsx.out b3 Hsxb.out)
  have Hsxb := Lib.hid (Nat.le_trans Hsxb.out b3.size)
  have Hstr := Lib.hid (OL.nb Hstr.out b3 Hstrb.out)
  have Hstrb := Lib.hid (Nat.le_trans Hstrb.out b3.size)
  clear b3
  clear Hsx Hsxb Hsxw
  clear Hstr Hstrb Hstrw
  obtain ⟨a0, a1, a2, a3⟩ := BA.out.four
  have ap := BA.out.1
  go_wp2_with fail
  refine (CT_x.out _ HB.out K_x.out).mono ?_
  rintro e v6 ⟨cs0, rfl, hO, b3⟩
  clear a0 a1 a2 a3 ap
  obtain ⟨D_x1, d_x1, D_x2, d_x2, E_x, rfl, hE⟩ := hO
  have O_BA_Hxx := Lib.hid BA.out.1
  have Hxxw := Lib.hid HB.out.size
  have Hxx := Lib.hid ((show ltO.O v6 (In v5.heap.size v6.heap.size) x [.int .i64 x.st, .int .i64 x.ini, .slice D_x1 x.ls.length d_x1, .slice D_x2 x.es.length d_x2] from ⟨D_x1, d_x1, D_x2, d_x2, E_x, rfl, hE⟩))
  have HB := Lib.hid (HB.out.trans (b3.mono HB.out.size))
  have BA := Lib.hid (BA.out.next b3)
  have Hxxb := Lib.hid (Nat.le_refl v6.heap.size)
  clear b3 hE
  have b0 : Below v6.heap.size v6 (v6.alloc (.cells #[.int .i64 x.st, .int .i64 x.ini, .slice D_x1 x.ls.length d_x1, .slice D_x2 x.es.length d_x2] 32)) := (Below.refl _ _).alloc (Nat.le_refl _) _
  have bx0 : Bx v6.heap.size [.int .i64 x.st, .int .i64 x.ini, .slice D_x1 x.ls.length d_x1, .slice D_x2 x.es.length d_x2] (v6.alloc (.cells #[.int .i64 x.st, .int .i64 x.ini, .slice D_x1 x.ls.length d_x1, .slice D_x2 x.es.length d_x2] 32)) := Bx.of4 (by simp <;> omega) (by simp [go_sem]) (by simp [go_sem]) (by simp [go_sem]) (by simp [go_sem])
  go_wp2_with fail
  refine (CT_tr.out _ (HB.out.trans (b0.mono HB.out.size)) K_tr.out).mono ?_
  rintro e v7 ⟨Axtr, rfl, hO, b3⟩
  have b4 : Below v6.heap.size v6 v7 := b0.trans (b3.mono b0.size)
  have hO := hO.more (S' := In (v6.heap.size + 1) v7.heap.size) fun b h => ⟨by have := h.1; simpa using this, h.2⟩
  have BX := Lib.hid (bx0.next b3)
  have O_BA_Hxtr := Lib.hid (Nat.lt_succ_of_lt BA.out.1)
  have O_Hxx_Hxtr := Lib.hid (Nat.le_succ_of_le Hxxb.out)
  have O_BX_Hxtr := Lib.hid (Nat.lt_succ_self v6.heap.size)
  have O_Hxx_BX := Hxxb
  have Hxtrw := Lib.hid (Nat.le_succ_of_le HB.out.size)
  have Hxtr := Lib.hid hO
  have HB := Lib.hid (HB.out.trans (b4.mono HB.out.size))
  have BA := Lib.hid (BA.out.next b4)
  have Hxx := Lib.hid (Owd.nb (G := ltO) Hxx.out b4 Hxxb.out)
  have Hxxb := Lib.hid (Nat.le_trans Hxxb.out b4.size)
  have Hxtrb := Lib.hid (Nat.le_refl v7.heap.size)
  clear b3 b4 b0 bx0 hO
  obtain ⟨a0, a1, a2, a3⟩ := BX.out.four
  have ap := BX.out.1
  go_wp2_with fail
  refine (implCt_any (ltO.rd Hxx.out) Hxtr.out.lrow (fun b h => Nat.lt_of_lt_of_le h.2 Hxxb.out) (fun b h => Nat.lt_of_lt_of_le h.2 Hxtrb.out) K_x.out K_tr.out (HTB.out.below HB.out)).mono ?_
  rintro e v8 ⟨rfl, b3⟩
  clear a0 a1 a2 a3 ap
  have HB := Lib.hid (HB.out.trans (b3.mono HB.out.size))
  have BA := Lib.hid (BA.out.next b3)
  have Hxx := Lib.hid (Owd.nb (G := ltO) Hxx.out b3 Hxxb.out)
  have Hxxb := Lib.hid (Nat.le_trans Hxxb.out b3.size)
  have Hxtr := Lib.hid (OL.nb Hxtr.out b3 Hxtrb.out)
  have Hxtrb := Lib.hid (Nat.le_trans Hxtrb.out b3.size)
  have BX := Lib.hid (BX.out.next b3)
  clear b3
  have HS := Lib.hid (fun (W : World) (hW : Below v8.heap.size v8 W) => (⟨hW, (BX.out.next hW).four, (BA.out.next hW).four⟩ : Below v8.heap.size v8 W ∧ (W.cell? ⟨v6.heap.size, 0, none⟩ = some (.int .i64 x.st) ∧ W.cell? ⟨v6.heap.size, 1, none⟩ = some (.int .i64 x.ini) ∧ W.cell? ⟨v6.heap.size, 2, none⟩ = some (.slice D_x1 x.ls.length d_x1) ∧ W.cell? ⟨v6.heap.size, 3, none⟩ = some (.slice D_x2 x.es.length d_x2)) ∧ (W.cell? ⟨w.heap.size, 0, none⟩ = some (.int .i64 x.st) ∧ W.cell? ⟨w.heap.size, 1, none⟩ = some (.int .i64 x.ini) ∧ W.cell? ⟨w.heap.size, 2, none⟩ = some (.slice A_x1 x.ls.length c_x1) ∧ W.cell? ⟨w.heap.size, 3, none⟩ = some (.slice A_x2 x.es.length c_x2))))
  have HV := Lib.hid (Below.refl v8.heap.size v8)
  have HBO := Lib.hid (fun (W : World) (hW : Below v8.heap.size v8 W) => HB.out.trans (hW.mono HB.out.size))
  go_wp2
  go_region_held3 (fun W => Below v8.heap.size v8 W ∧ (W.cell? ⟨v6.heap.size, 0, none⟩ = some (.int .i64 x.st) ∧ W.cell? ⟨v6.heap.size, 1, none⟩ = some (.int .i64 x.ini) ∧ W.cell? ⟨v6.heap.size, 2, none⟩ = some (.slice D_x1 x.ls.length d_x1) ∧ W.cell? ⟨v6.heap.size, 3, none⟩ = some (.slice D_x2 x.es.length d_x2)) ∧ (W.cell? ⟨w.heap.size, 0, none⟩ = some (.int .i64 x.st) ∧ W.cell? ⟨w.heap.size, 1, none⟩ = some (.int .i64 x.ini) ∧ W.cell? ⟨w.heap.size, 2, none⟩ = some (.slice A_x1 x.ls.length c_x1) ∧ W.cell? ⟨w.heap.size, 3, none⟩ = some (.slice A_x2 x.es.length c_x2))) (exact HS.out _ (by first | exact HV.out.drew | exact HV.out)) (first
    | (go_at_call 9; (with_reducible refine (CT_x.out _ (by first | exact HBO.out _ HV.out.drew | exact HBO.out _ HV.out) K_x.out).mono ?_); rintro e v9 ⟨cs5, rfl, hR, b3⟩; have HV := Lib.hid (Below.trans (by first | exact HV.out | exact HV.out.drew) (b3.mono (by first | exact Nat.le_refl _ | exact HV.out.size))); have HR5 := Lib.hid (ltO.rd hR); clear hR b3)
    | (go_at_call 13; refine (eqLtR (Rec.nb (F := ltR) (ltO.rd Hxx.out) HV.out Hxxb.out) HR5.out (fun b h => Nat.lt_of_lt_of_le h.2 (Nat.le_trans Hxxb.out HV.out.size)) (fun b h => h.2) K_x.out).mono ?_; rintro e v10 ⟨rfl, b3⟩; have HV := Lib.hid (HV.out.trans (b3.mono HV.out.size)); clear b3))
  clear HS HBO HR5
  have HB := Lib.hid (HB.out.trans (HV.out.mono HB.out.size))
  have BA := Lib.hid (BA.out.next HV.out)
  have Hxx := Lib.hid (Owd.nb (G := ltO) Hxx.out HV.out Hxxb.out)
  have Hxxb := Lib.hid (Nat.le_trans Hxxb.out HV.out.size)
  have Hxtr := Lib.hid (OL.nb Hxtr.out HV.out Hxtrb.out)
  have Hxtrb := Lib.hid (Nat.le_trans Hxtrb.out HV.out.size)
  have BX := Lib.hid (BX.out.next HV.out)
  clear HV
  go_wp2_with fail
  refine (CT_tr.out _ HB.out K_tr.out).mono ?_
  rintro e v11 ⟨Aytr, rfl, hO, b3⟩
  have O_BA_Hytr := Lib.hid BA.out.1
  have O_Hxx_Hytr := Hxxb
  have O_Hxtr_Hytr := Hxtrb
  have O_BX_Hytr := Lib.hid BX.out.1
  have Hytrw := Lib.hid HB.out.size
  have Hytr := Lib.hid (hO)
  have HB := Lib.hid (HB.out.trans (b3.mono HB.out.size))
  have BA := Lib.hid (BA.out.next b3)
  have Hxx := Lib.hid (Owd.nb (G := ltO) Hxx.out b3 Hxxb.out)
  have Hxxb := Lib.hid (Nat.le_trans Hxxb.out b3.size)
  have Hxtr := Lib.hid (OL.nb Hxtr.out b3 Hxtrb.out)
  have Hxtrb := Lib.hid (Nat.le_trans Hxtrb.out b3.size)
  have BX := Lib.hid (BX.out.next b3)
  have Hytrb := Lib.hid (Nat.le_refl v11.heap.size)
  clear b3 hO
  go_wp2_with fail
  refine (eqDStringS_yes _ _ _ _ _ _ tr _ _ _ Hxtr.out.lrow Hytr.out.lrow (fun b h => Nat.lt_of_lt_of_le h.2 Hxtrb.out) (fun b h => Nat.lt_of_lt_of_le h.2 Hytrb.out) rfl rfl K_tr.out).mono ?_
  rintro e v12 ⟨rfl, b3⟩
  have HB := Lib.hid (HB.out.trans (b3.mono HB.out.size))
  have BA := Lib.hid (BA.out.next b3)
  have Hxx := Lib.hid (Owd.nb (G := ltO) Hxx.out b3 Hxxb.out)
  have Hxxb := Lib.hid (Nat.le_trans Hxxb.out b3.size)
  have Hxtr := Lib.hid (OL.nb Hxtr.out b3 Hxtrb.out)
  have Hxtrb := Lib.hid (Nat.le_trans Hxtrb.out b3.size)
  have BX := Lib.hid (BX.out.next b3)
  have Hytr := Lib.hid (OL.nb Hytr.out b3 Hytrb.out)
  have Hytrb := Lib.hid (Nat.le_trans Hytrb.out b3.size)
  clear b3
  clear Hytr Hytrb Hytrw
  go_wp2
  go_ret
  exact ⟨rfl, HB.out⟩
end Go.Proofs.YtbailpfjgjcbdaaGreatDoor
