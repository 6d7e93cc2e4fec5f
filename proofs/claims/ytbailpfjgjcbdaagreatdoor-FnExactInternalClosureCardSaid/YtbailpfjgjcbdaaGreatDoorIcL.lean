/- The law of InternalClosure, walked. -/
import Derived.Deep.RegionHeld3
import Derived.BigQuiet
import Derived.Outline
import Derived.Test.YtbailpfjgjcbdaaGreatDoorIcS
import Derived.Test.YtbailpfjgjcbdaaGreatDoorIcI
import Derived.Test.YtbailpfjgjcbdaaGreatDoorLtB
namespace Go.Proofs.YtbailpfjgjcbdaaGreatDoor
open Go.RowKit
set_option maxRecDepth 100000 in
set_option maxHeartbeats 8000000 in
theorem lawInternalClosure_any (x : Lt) (cs_x : List Value) (p : List Int) (B_p : Option Addr) (n_p d_p : Nat) (w : World) (h_x : ltR.R w (· < w.heap.size) x cs_x) (h_p : LRow intR w (· < w.heap.size) B_p p) (l_p : p.length = n_p) (m_p : n_p ≤ maxLen) (ht : TxtTabs w) :
    Calls Tryz.prog 3 #[.agg cs_x.toArray, .slice B_p n_p d_p] w fun e w' => e = .returned (.bool true) ∧ Below w.heap.size w w' := by
  have HTB := Lib.hid ht
  have LT := Lib.hid (fun (W : World) (hW : Below w.heap.size w W) (b : Nat) (h : b < w.heap.size) => Nat.lt_of_lt_of_le h hW.size)
  have CZ_x := Lib.hid (fun (W : World) (hW : Below w.heap.size w W) (r : Int) (r0 : 0 ≤ r) (r1 : r ≤ 1048576) => szLtR (ltR.keep h_x (SameOn.of_below hW fun _ h => h)) (LT.out W hW) r0 r1)
  have CT_x := Lib.hid (fun (W : World) (hW : Below w.heap.size w W) (ok : okLt x) => toLtRO (ltR.keep h_x (SameOn.of_below hW fun _ h => h)) (LT.out W hW) ok)
  obtain ⟨A_x1, c_x1, A_x2, c_x2, rfl, _⟩ := h_x
  subst l_p
  have CT_p := Lib.hid (fun (W : World) (hW : Below w.heap.size w W) (ok : okList okAny p) => (toOInt64S_any B_p p.length d_p p W _ (h_p.keep (SameOn.of_below hW fun _ h => h)) (LT.out W hW) rfl ok).mono fun e w' ⟨he, hO, hb⟩ => (⟨_, he, hO, hb⟩ : ∃ A, e = Ending.returned (.slice A p.length p.length) ∧ OL intO 2 w' (In W.heap.size w'.heap.size) A p.length p.length p ∧ Below W.heap.size W w'))
  clear h_p m_p
  have hne : (icC x p != icC x p) = false := by simp
  clear ht
  by_cases K_pn : (p.length : Int) > 1048576
  · go_enter Tryz.func3, Tryz.ntmps3
    go_wp2
    go_ret
    exact ⟨rfl, (by repeat (first | exact Below.refl _ _ | refine Below.alloc ?_ (by simp <;> omega) _))⟩
  have hn_p : ¬ (1048576 : Int) < (p.length : Int) := by omega
  have K_p := Lib.hid (show okList okAny p from ⟨by omega, fun _ _ => trivial⟩)
  have WT_p := Lib.hid (show p.length ≤ 1048576 by omega)
  clear K_pn
  go_enter Tryz.func3, Tryz.ntmps3
  go_wp2_with fail
  refine (CZ_x.out _ (by repeat (first | exact Below.refl _ _ | refine Below.alloc ?_ (by simp <;> omega) _)) _ (by omega) (by omega)).mono ?_
  rintro e v1 ⟨q_x, rfl, hq, b3⟩
  have b0 : ∀ o : Obj, Below w.heap.size w (w.alloc o) := fun o => (Below.refl _ _).alloc (Nat.le_refl _) o
  have BA := Lib.hid ((Bx.of4 (b := w.heap.size) (v0 := .int .i64 x.st) (v1 := .int .i64 x.ini) (v2 := .slice A_x1 x.ls.length c_x1) (v3 := .slice A_x2 x.es.length c_x2) (by simp <;> omega) (by simp [go_sem]) (by simp [go_sem]) (by simp [go_sem]) (by simp [go_sem])).next b3)
  have HB := Lib.hid ((b0 _).trans (b3.mono (by simp)))
  clear b0
  clear b3
  rcases hq with hq | ⟨hp_x, hl_x, hok⟩
  · go_wp2
    go_ret
    exact ⟨rfl, HB.out⟩
  have hn_x : ¬ q_x < 0 := by omega
  have K_x := Lib.hid hok
  have WT_x := Lib.hid (show wtLt x ≤ 1048576 by omega)
  have hl_x : q_x ≤ 1048576 := by omega
  clear hok CZ_x
  obtain ⟨a0, a1, a2, a3⟩ := BA.out.four
  have ap := BA.out.1
  go_wp2_with fail
  refine (CT_x.out _ HB.out K_x.out).mono ?_
  rintro e v2 ⟨css, rfl, hO, b3⟩
  clear a0 a1 a2 a3 ap
  have O_BA_Hsx := Lib.hid BA.out.1
  have Hsxw := Lib.hid HB.out.size
  have Hsx := Lib.hid (hO)
  have HB := Lib.hid (HB.out.trans (b3.mono HB.out.size))
  have BA := Lib.hid (BA.out.next b3)
  have Hsxb := Lib.hid (Nat.le_refl v2.heap.size)
  clear b3 hO
  go_wp2_with fail
  refine (CT_p.out _ HB.out K_p.out).mono ?_
  rintro e v3 ⟨Asp, rfl, hO, b3⟩
  have O_BA_Hsp := Lib.hid BA.out.1
  have O_Hsx_Hsp := Hsxb
  have Hspw := Lib.hid HB.out.size
  have Hsp := Lib.hid (hO)
  have HB := Lib.hid (HB.out.trans (b3.mono HB.out.size))
  have BA := Lib.hid (BA.out.next b3)
  have Hsx := Lib.hid (Owd.nb (G := ltO) Hsx.out b3 Hsxb.out)
  have Hsxb := Lib.hid (Nat.le_trans Hsxb.out b3.size)
  have Hspb := Lib.hid (Nat.le_refl v3.heap.size)
  clear b3 hO
  go_wp2_with fail
  refine (specIc_any (ltO.rd Hsx.out) Hsp.out.lrow (fun b h => Nat.lt_of_lt_of_le h.2 Hsxb.out) (fun b h => Nat.lt_of_lt_of_le h.2 Hspb.out) K_x.out K_p.out).mono ?_
  rintro e v4 ⟨Aw, cw, rfl, hO, b3⟩
  have O_BA_HW := Lib.hid BA.out.1
  have O_Hsx_HW := Hsxb
  have O_Hsp_HW := Hspb
  have HWw := Lib.hid HB.out.size
  have HW := Lib.hid (hO)
  have HB := Lib.hid (HB.out.trans (b3.mono HB.out.size))
  have BA := Lib.hid (BA.out.next b3)
  have Hsx := Lib.hid (Owd.nb (G := ltO) Hsx.out b3 Hsxb.out)
  have Hsxb := Lib.hid (Nat.le_trans Hsxb.out b3.size)
  have Hsp := Lib.hid (OL.nb Hsp.out b3 Hspb.out)
  have Hspb := Lib.hid (Nat.le_trans Hspb.out b3.size)
  have HWb := Lib.hid (Nat.le_refl v4.heap.size)
  clear b3 hO
  clear Hsx Hsxb Hsxw
  clear Hsp Hspb Hspw
  obtain ⟨a0, a1, a2, a3⟩ := BA.out.four
  have ap := BA.out.1
  go_wp2_with fail
  refine (CT_x.out _ HB.out K_x.out).mono ?_
  rintro e v5 ⟨cs0, rfl, hO, b3⟩
  clear a0 a1 a2 a3 ap
  obtain ⟨D_x1, d_x1, D_x2, d_x2, E_x, rfl, hE⟩ := hO
  have O_BA_Hxx := Lib.hid BA.out.1
  have O_HW_Hxx := HWb
  have Hxxw := Lib.hid HB.out.size
  have Hxx := Lib.hid ((show ltO.O v5 (In v4.heap.size v5.heap.size) x [.int .i64 x.st, .int .i64 x.ini, .slice D_x1 x.ls.length d_x1, .slice D_x2 x.es.length d_x2] from ⟨D_x1, d_x1, D_x2, d_x2, E_x, rfl, hE⟩))
  have HB := Lib.hid (HB.out.trans (b3.mono HB.out.size))
  have BA := Lib.hid (BA.out.next b3)
  have HW := Lib.hid (OL.nb HW.out b3 HWb.out)
  have HWb := Lib.hid (Nat.le_trans HWb.out b3.size)
  have Hxxb := Lib.hid (Nat.le_refl v5.heap.size)
  clear b3 hE
  have b0 : Below v5.heap.size v5 (v5.alloc (.cells #[.int .i64 x.st, .int .i64 x.ini, .slice D_x1 x.ls.length d_x1, .slice D_x2 x.es.length d_x2] 32)) := (Below.refl _ _).alloc (Nat.le_refl _) _
  have bx0 : Bx v5.heap.size [.int .i64 x.st, .int .i64 x.ini, .slice D_x1 x.ls.length d_x1, .slice D_x2 x.es.length d_x2] (v5.alloc (.cells #[.int .i64 x.st, .int .i64 x.ini, .slice D_x1 x.ls.length d_x1, .slice D_x2 x.es.length d_x2] 32)) := Bx.of4 (by simp <;> omega) (by simp [go_sem]) (by simp [go_sem]) (by simp [go_sem]) (by simp [go_sem])
  go_wp2_with fail
  refine (CT_p.out _ (HB.out.trans (b0.mono HB.out.size)) K_p.out).mono ?_
  rintro e v6 ⟨Axp, rfl, hO, b3⟩
  have b4 : Below v5.heap.size v5 v6 := b0.trans (b3.mono b0.size)
  have hO := hO.more (S' := In (v5.heap.size + 1) v6.heap.size) fun b h => ⟨by have := h.1; simpa using this, h.2⟩
  have BX := Lib.hid (bx0.next b3)
  have O_BA_Hxp := Lib.hid (Nat.lt_succ_of_lt BA.out.1)
  have O_HW_Hxp := Lib.hid (Nat.le_succ_of_le HWb.out)
  have O_Hxx_Hxp := Lib.hid (Nat.le_succ_of_le Hxxb.out)
  have O_BX_Hxp := Lib.hid (Nat.lt_succ_self v5.heap.size)
  have O_HW_BX := HWb
  have O_Hxx_BX := Hxxb
  have Hxpw := Lib.hid (Nat.le_succ_of_le HB.out.size)
  have Hxp := Lib.hid hO
  have HB := Lib.hid (HB.out.trans (b4.mono HB.out.size))
  have BA := Lib.hid (BA.out.next b4)
  have HW := Lib.hid (OL.nb HW.out b4 HWb.out)
  have HWb := Lib.hid (Nat.le_trans HWb.out b4.size)
  have Hxx := Lib.hid (Owd.nb (G := ltO) Hxx.out b4 Hxxb.out)
  have Hxxb := Lib.hid (Nat.le_trans Hxxb.out b4.size)
  have Hxpb := Lib.hid (Nat.le_refl v6.heap.size)
  clear b3 b4 b0 bx0 hO
  obtain ⟨a0, a1, a2, a3⟩ := BX.out.four
  have ap := BX.out.1
  go_wp2_with fail
  refine (implIc_any (ltO.rd Hxx.out) Hxp.out.lrow (fun b h => Nat.lt_of_lt_of_le h.2 Hxxb.out) (fun b h => Nat.lt_of_lt_of_le h.2 Hxpb.out) K_x.out K_p.out (HTB.out.below HB.out)).mono ?_
  rintro e v7 ⟨Ag, cg, rfl, hO, b3⟩
  clear a0 a1 a2 a3 ap
  have O_BA_HG := Lib.hid BA.out.1
  have O_HW_HG := HWb
  have O_Hxx_HG := Hxxb
  have O_Hxp_HG := Hxpb
  have O_BX_HG := Lib.hid BX.out.1
  have HGw := Lib.hid HB.out.size
  have HG := Lib.hid (hO)
  have HB := Lib.hid (HB.out.trans (b3.mono HB.out.size))
  have BA := Lib.hid (BA.out.next b3)
  have HW := Lib.hid (OL.nb HW.out b3 HWb.out)
  have HWb := Lib.hid (Nat.le_trans HWb.out b3.size)
  have Hxx := Lib.hid (Owd.nb (G := ltO) Hxx.out b3 Hxxb.out)
  have Hxxb := Lib.hid (Nat.le_trans Hxxb.out b3.size)
  have Hxp := Lib.hid (OL.nb Hxp.out b3 Hxpb.out)
  have Hxpb := Lib.hid (Nat.le_trans Hxpb.out b3.size)
  have BX := Lib.hid (BX.out.next b3)
  have HGb := Lib.hid (Nat.le_refl v7.heap.size)
  clear b3 hO
  have KR := Lib.hid (ok_icR x p)
  have WR := Lib.hid ((show cntL intM (icR x p) ≤ 100000000 from cnt_icR x p))
  go_wp2_with fail
  refine (eqDInt64S_yes _ _ _ _ _ _ (icR x p) _ _ _ HG.out.lrow HW.out.lrow (fun b h => Nat.lt_of_lt_of_le h.2 HGb.out) (fun b h => Nat.lt_of_lt_of_le h.2 HWb.out) rfl rfl KR.out).mono ?_
  rintro e v8 ⟨rfl, b3⟩
  have HB := Lib.hid (HB.out.trans (b3.mono HB.out.size))
  have BA := Lib.hid (BA.out.next b3)
  have HW := Lib.hid (OL.nb HW.out b3 HWb.out)
  have HWb := Lib.hid (Nat.le_trans HWb.out b3.size)
  have Hxx := Lib.hid (Owd.nb (G := ltO) Hxx.out b3 Hxxb.out)
  have Hxxb := Lib.hid (Nat.le_trans Hxxb.out b3.size)
  have Hxp := Lib.hid (OL.nb Hxp.out b3 Hxpb.out)
  have Hxpb := Lib.hid (Nat.le_trans Hxpb.out b3.size)
  have BX := Lib.hid (BX.out.next b3)
  have HG := Lib.hid (OL.nb HG.out b3 HGb.out)
  have HGb := Lib.hid (Nat.le_trans HGb.out b3.size)
  clear b3
  have HS := Lib.hid (fun (W : World) (hW : Below v8.heap.size v8 W) => (⟨hW, (BX.out.next hW).four, (BA.out.next hW).four⟩ : Below v8.heap.size v8 W ∧ (W.cell? ⟨v5.heap.size, 0, none⟩ = some (.int .i64 x.st) ∧ W.cell? ⟨v5.heap.size, 1, none⟩ = some (.int .i64 x.ini) ∧ W.cell? ⟨v5.heap.size, 2, none⟩ = some (.slice D_x1 x.ls.length d_x1) ∧ W.cell? ⟨v5.heap.size, 3, none⟩ = some (.slice D_x2 x.es.length d_x2)) ∧ (W.cell? ⟨w.heap.size, 0, none⟩ = some (.int .i64 x.st) ∧ W.cell? ⟨w.heap.size, 1, none⟩ = some (.int .i64 x.ini) ∧ W.cell? ⟨w.heap.size, 2, none⟩ = some (.slice A_x1 x.ls.length c_x1) ∧ W.cell? ⟨w.heap.size, 3, none⟩ = some (.slice A_x2 x.es.length c_x2))))
  have HV := Lib.hid (Below.refl v8.heap.size v8)
  have HBO := Lib.hid (fun (W : World) (hW : Below v8.heap.size v8 W) => HB.out.trans (hW.mono HB.out.size))
  go_wp2
  go_region_held3 (fun W => Below v8.heap.size v8 W ∧ (W.cell? ⟨v5.heap.size, 0, none⟩ = some (.int .i64 x.st) ∧ W.cell? ⟨v5.heap.size, 1, none⟩ = some (.int .i64 x.ini) ∧ W.cell? ⟨v5.heap.size, 2, none⟩ = some (.slice D_x1 x.ls.length d_x1) ∧ W.cell? ⟨v5.heap.size, 3, none⟩ = some (.slice D_x2 x.es.length d_x2)) ∧ (W.cell? ⟨w.heap.size, 0, none⟩ = some (.int .i64 x.st) ∧ W.cell? ⟨w.heap.size, 1, none⟩ = some (.int .i64 x.ini) ∧ W.cell? ⟨w.heap.size, 2, none⟩ = some (.slice A_x1 x.ls.length c_x1) ∧ W.cell? ⟨w.heap.size, 3, none⟩ = some (.slice A_x2 x.es.length c_x2))) (exact HS.out _ (by first | exact HV.out.drew | exact HV.out)) (first
    | (go_at_call 9; (with_reducible refine (CT_x.out _ (by first | exact HBO.out _ HV.out.drew | exact HBO.out _ HV.out) K_x.out).mono ?_); rintro e v9 ⟨cs5, rfl, hR, b3⟩; have HV := Lib.hid (Below.trans (by first | exact HV.out | exact HV.out.drew) (b3.mono (by first | exact Nat.le_refl _ | exact HV.out.size))); have HR5 := Lib.hid (ltO.rd hR); clear hR b3)
    | (go_at_call 13; refine (eqLtR (Rec.nb (F := ltR) (ltO.rd Hxx.out) HV.out Hxxb.out) HR5.out (fun b h => Nat.lt_of_lt_of_le h.2 (Nat.le_trans Hxxb.out HV.out.size)) (fun b h => h.2) K_x.out).mono ?_; rintro e v10 ⟨rfl, b3⟩; have HV := Lib.hid (HV.out.trans (b3.mono HV.out.size)); clear b3))
  clear HS HBO HR5
  have HB := Lib.hid (HB.out.trans (HV.out.mono HB.out.size))
  have BA := Lib.hid (BA.out.next HV.out)
  have HW := Lib.hid (OL.nb HW.out HV.out HWb.out)
  have HWb := Lib.hid (Nat.le_trans HWb.out HV.out.size)
  have Hxx := Lib.hid (Owd.nb (G := ltO) Hxx.out HV.out Hxxb.out)
  have Hxxb := Lib.hid (Nat.le_trans Hxxb.out HV.out.size)
  have Hxp := Lib.hid (OL.nb Hxp.out HV.out Hxpb.out)
  have Hxpb := Lib.hid (Nat.le_trans Hxpb.out HV.out.size)
  have BX := Lib.hid (BX.out.next HV.out)
  have HG := Lib.hid (OL.nb HG.out HV.out HGb.out)
  have HGb := Lib.hid (Nat.le_trans HGb.out HV.out.size)
  clear HV
  go_wp2_with fail
  refine (CT_p.out _ HB.out K_p.out).mono ?_
  rintro e v11 ⟨Ayp, rfl, hO, b3⟩
  have O_BA_Hyp := Lib.hid BA.out.1
  have O_HW_Hyp := HWb
  have O_Hxx_Hyp := Hxxb
  have O_Hxp_Hyp := Hxpb
  have O_BX_Hyp := Lib.hid BX.out.1
  have O_HG_Hyp := HGb
  have Hypw := Lib.hid HB.out.size
  have Hyp := Lib.hid (hO)
  have HB := Lib.hid (HB.out.trans (b3.mono HB.out.size))
  have BA := Lib.hid (BA.out.next b3)
  have HW := Lib.hid (OL.nb HW.out b3 HWb.out)
  have HWb := Lib.hid (Nat.le_trans HWb.out b3.size)
  have Hxx := Lib.hid (Owd.nb (G := ltO) Hxx.out b3 Hxxb.out)
  have Hxxb := Lib.hid (Nat.le_trans Hxxb.out b3.size)
  have Hxp := Lib.hid (OL.nb Hxp.out b3 Hxpb.out)
  have Hxpb := Lib.hid (Nat.le_trans Hxpb.out b3.size)
  have BX := Lib.hid (BX.out.next b3)
  have HG := Lib.hid (OL.nb HG.out b3 HGb.out)
  have HGb := Lib.hid (Nat.le_trans HGb.out b3.size)
  have Hypb := Lib.hid (Nat.le_refl v11.heap.size)
  clear b3 hO
  go_wp2_with fail
  refine (eqDInt64S_yes _ _ _ _ _ _ p _ _ _ Hxp.out.lrow Hyp.out.lrow (fun b h => Nat.lt_of_lt_of_le h.2 Hxpb.out) (fun b h => Nat.lt_of_lt_of_le h.2 Hypb.out) rfl rfl K_p.out).mono ?_
  rintro e v12 ⟨rfl, b3⟩
  have HB := Lib.hid (HB.out.trans (b3.mono HB.out.size))
  have BA := Lib.hid (BA.out.next b3)
  have HW := Lib.hid (OL.nb HW.out b3 HWb.out)
  have HWb := Lib.hid (Nat.le_trans HWb.out b3.size)
  have Hxx := Lib.hid (Owd.nb (G := ltO) Hxx.out b3 Hxxb.out)
  have Hxxb := Lib.hid (Nat.le_trans Hxxb.out b3.size)
  have Hxp := Lib.hid (OL.nb Hxp.out b3 Hxpb.out)
  have Hxpb := Lib.hid (Nat.le_trans Hxpb.out b3.size)
  have BX := Lib.hid (BX.out.next b3)
  have HG := Lib.hid (OL.nb HG.out b3 HGb.out)
  have HGb := Lib.hid (Nat.le_trans HGb.out b3.size)
  have Hyp := Lib.hid (OL.nb Hyp.out b3 Hypb.out)
  have Hypb := Lib.hid (Nat.le_trans Hypb.out b3.size)
  clear b3
  clear Hyp Hypb Hypw
  obtain ⟨a0, a1, a2, a3⟩ := BX.out.four
  have ap := BX.out.1
  go_wp2_with fail
  have hcnt := cnt_lt x
  have hwt := WT_x.out
  refine (markLtO (k0 := 1) Hxx.out (fun b h => Nat.lt_of_lt_of_le h.2 Hxxb.out) (by omega) (by omega)).mono ?_
  rintro e v13 ⟨rfl, hO, t3⟩
  clear a0 a1 a2 a3 ap
  clear hO
  have HB := Lib.hid (Below.nt HB.out t3 Hxxw.out)
  have BA := Lib.hid (Bx.nt BA.out t3 (Or.inl O_BA_Hxx.out))
  have HW := Lib.hid (OL.nt HW.out t3 (Or.inl O_HW_Hxx.out))
  have HWb := Lib.hid (Nat.le_trans HWb.out t3.size)
  have Hxxb := Lib.hid (Nat.le_trans Hxxb.out t3.size)
  have Hxp := Lib.hid (OL.nt Hxp.out t3 (Or.inr O_Hxx_Hxp.out))
  have Hxpb := Lib.hid (Nat.le_trans Hxpb.out t3.size)
  have BX := Lib.hid (Bx.nt BX.out t3 (Or.inr O_Hxx_BX.out))
  have HG := Lib.hid (OL.nt HG.out t3 (Or.inr O_Hxx_HG.out))
  have HGb := Lib.hid (Nat.le_trans HGb.out t3.size)
  clear t3
  clear Hxx BX
  go_wp2_with fail
  have hcl_p := cnt_int p
  have hwl_p := wL_z p
  have hlv_p := WT_p.out
  refine (markOInt64S_any Axp _ p.length (1 + ((ltM.cnt x : Nat) : Int)) p _ _ Hxp.out (by omega) (by omega)).mono ?_
  rintro e v14 ⟨rfl, hO, t3⟩
  clear hO
  have HB := Lib.hid (Below.nt HB.out t3 Hxpw.out)
  have BA := Lib.hid (Bx.nt BA.out t3 (Or.inl O_BA_Hxp.out))
  have HW := Lib.hid (OL.nt HW.out t3 (Or.inl O_HW_Hxp.out))
  have HWb := Lib.hid (Nat.le_trans HWb.out t3.size)
  have Hxpb := Lib.hid (Nat.le_trans Hxpb.out t3.size)
  have HG := Lib.hid (OL.nt HG.out t3 (Or.inr O_Hxp_HG.out))
  have HGb := Lib.hid (Nat.le_trans HGb.out t3.size)
  clear t3
  clear Hxp
  have hk : ¬ (1 + ((ltM.cnt x : Nat) : Int) + ((cntL intM p : Nat) : Int) < 0) := by omega
  clear hcnt hwt hcl_p hwl_p hlv_p
  go_wp2_with fail
  refine (eqDInt64S_yes _ _ _ _ _ _ (icR x p) _ _ _ HG.out.lrow HW.out.lrow (fun b h => Nat.lt_of_lt_of_le h.2 HGb.out) (fun b h => Nat.lt_of_lt_of_le h.2 HWb.out) rfl rfl KR.out).mono ?_
  rintro e v15 ⟨rfl, b3⟩
  have HB := Lib.hid (HB.out.trans (b3.mono HB.out.size))
  have BA := Lib.hid (BA.out.next b3)
  have HW := Lib.hid (OL.nb HW.out b3 HWb.out)
  have HWb := Lib.hid (Nat.le_trans HWb.out b3.size)
  have HG := Lib.hid (OL.nb HG.out b3 HGb.out)
  have HGb := Lib.hid (Nat.le_trans HGb.out b3.size)
  clear b3
  go_wp2_with fail
  have wr := WR.out
  refine (markOInt64S_any Ag _ cg 1 (icR x p) _ _ HG.out (by omega) (by omega)).mono ?_
  rintro e v16 ⟨rfl, hO, t3⟩
  have HB := Lib.hid (Below.nt HB.out t3 HGw.out)
  have BA := Lib.hid (Bx.nt BA.out t3 (Or.inl O_BA_HG.out))
  have HW := Lib.hid (OL.nt HW.out t3 (Or.inl O_HW_HG.out))
  have HWb := Lib.hid (Nat.le_trans HWb.out t3.size)
  have HGb := Lib.hid (Nat.le_trans HGb.out t3.size)
  have HG := Lib.hid hO
  clear t3 hO
  have hq0 : ¬ (1 + ((cntL intM (icR x p) : Nat) : Int) < 0) := by omega
  have hqm : ((1 + ((cntL intM (icR x p) : Nat) : Int)) != (1 + ((cntL intM (icR x p) : Nat) : Int))) = false := by simp
  have HL := Lib.hid (show (icR x p).length ≤ maxLen by have := KR.out.1; unfold maxLen; omega)
  go_wp2_with fail
  refine (heldOInt64S_any Ag _ cg 1 (icR x p) _ _ HG.out.lrow (fun b h => Nat.lt_of_lt_of_le h.2 HGb.out) rfl HL.out (by omega) (by omega)).mono ?_
  rintro e v17 ⟨rfl, b3⟩
  have HB := Lib.hid (HB.out.trans (b3.mono HB.out.size))
  have BA := Lib.hid (BA.out.next b3)
  have HW := Lib.hid (OL.nb HW.out b3 HWb.out)
  have HWb := Lib.hid (Nat.le_trans HWb.out b3.size)
  have HG := Lib.hid (OL.nb HG.out b3 HGb.out)
  have HGb := Lib.hid (Nat.le_trans HGb.out b3.size)
  clear b3
  obtain ⟨a0, a1, a2, a3⟩ := BA.out.four
  have ap := BA.out.1
  go_wp2_with fail
  refine (CT_x.out _ HB.out K_x.out).mono ?_
  rintro e v18 ⟨cst, rfl, hO, b3⟩
  clear a0 a1 a2 a3 ap
  have O_BA_Htx := Lib.hid BA.out.1
  have O_HW_Htx := HWb
  have O_HG_Htx := HGb
  have Htxw := Lib.hid HB.out.size
  have Htx := Lib.hid (hO)
  have HB := Lib.hid (HB.out.trans (b3.mono HB.out.size))
  have BA := Lib.hid (BA.out.next b3)
  have HW := Lib.hid (OL.nb HW.out b3 HWb.out)
  have HWb := Lib.hid (Nat.le_trans HWb.out b3.size)
  have HG := Lib.hid (OL.nb HG.out b3 HGb.out)
  have HGb := Lib.hid (Nat.le_trans HGb.out b3.size)
  have Htxb := Lib.hid (Nat.le_refl v18.heap.size)
  clear b3 hO
  go_wp2_with fail
  refine (CT_p.out _ HB.out K_p.out).mono ?_
  rintro e v19 ⟨Atp, rfl, hO, b3⟩
  have O_BA_Htp := Lib.hid BA.out.1
  have O_HW_Htp := HWb
  have O_HG_Htp := HGb
  have O_Htx_Htp := Htxb
  have Htpw := Lib.hid HB.out.size
  have Htp := Lib.hid (hO)
  have HB := Lib.hid (HB.out.trans (b3.mono HB.out.size))
  have BA := Lib.hid (BA.out.next b3)
  have HW := Lib.hid (OL.nb HW.out b3 HWb.out)
  have HWb := Lib.hid (Nat.le_trans HWb.out b3.size)
  have HG := Lib.hid (OL.nb HG.out b3 HGb.out)
  have HGb := Lib.hid (Nat.le_trans HGb.out b3.size)
  have Htx := Lib.hid (Owd.nb (G := ltO) Htx.out b3 Htxb.out)
  have Htxb := Lib.hid (Nat.le_trans Htxb.out b3.size)
  have Htpb := Lib.hid (Nat.le_refl v19.heap.size)
  clear b3 hO
  go_wp2_with fail
  refine (implIc_any (ltO.rd Htx.out) Htp.out.lrow (fun b h => Nat.lt_of_lt_of_le h.2 Htxb.out) (fun b h => Nat.lt_of_lt_of_le h.2 Htpb.out) K_x.out K_p.out (HTB.out.below HB.out)).mono ?_
  rintro e v20 ⟨Ah, ch, rfl, hO, b3⟩
  have O_BA_HH := Lib.hid BA.out.1
  have O_HW_HH := HWb
  have O_HG_HH := HGb
  have O_Htx_HH := Htxb
  have O_Htp_HH := Htpb
  have HHw := Lib.hid HB.out.size
  have HH := Lib.hid (hO)
  have HB := Lib.hid (HB.out.trans (b3.mono HB.out.size))
  have BA := Lib.hid (BA.out.next b3)
  have HW := Lib.hid (OL.nb HW.out b3 HWb.out)
  have HWb := Lib.hid (Nat.le_trans HWb.out b3.size)
  have HG := Lib.hid (OL.nb HG.out b3 HGb.out)
  have HGb := Lib.hid (Nat.le_trans HGb.out b3.size)
  have Htx := Lib.hid (Owd.nb (G := ltO) Htx.out b3 Htxb.out)
  have Htxb := Lib.hid (Nat.le_trans Htxb.out b3.size)
  have Htp := Lib.hid (OL.nb Htp.out b3 Htpb.out)
  have Htpb := Lib.hid (Nat.le_trans Htpb.out b3.size)
  have HHb := Lib.hid (Nat.le_refl v20.heap.size)
  clear b3 hO
  go_wp2_with fail
  refine (eqDInt64S_yes _ _ _ _ _ _ (icR x p) _ _ _ HH.out.lrow HW.out.lrow (fun b h => Nat.lt_of_lt_of_le h.2 HHb.out) (fun b h => Nat.lt_of_lt_of_le h.2 HWb.out) rfl rfl KR.out).mono ?_
  rintro e v21 ⟨rfl, b3⟩
  have HB := Lib.hid (HB.out.trans (b3.mono HB.out.size))
  have BA := Lib.hid (BA.out.next b3)
  have HW := Lib.hid (OL.nb HW.out b3 HWb.out)
  have HWb := Lib.hid (Nat.le_trans HWb.out b3.size)
  have HG := Lib.hid (OL.nb HG.out b3 HGb.out)
  have HGb := Lib.hid (Nat.le_trans HGb.out b3.size)
  have Htx := Lib.hid (Owd.nb (G := ltO) Htx.out b3 Htxb.out)
  have Htxb := Lib.hid (Nat.le_trans Htxb.out b3.size)
  have Htp := Lib.hid (OL.nb Htp.out b3 Htpb.out)
  have Htpb := Lib.hid (Nat.le_trans Htpb.out b3.size)
  have HH := Lib.hid (OL.nb HH.out b3 HHb.out)
  have HHb := Lib.hid (Nat.le_trans HHb.out b3.size)
  clear b3
  go_wp2_with fail
  refine (heldOInt64S_any Ag _ cg 1 (icR x p) _ _ HG.out.lrow (fun b h => Nat.lt_of_lt_of_le h.2 HGb.out) rfl HL.out (by omega) (by omega)).mono ?_
  rintro e v22 ⟨rfl, b3⟩
  have HB := Lib.hid (HB.out.trans (b3.mono HB.out.size))
  have BA := Lib.hid (BA.out.next b3)
  have HW := Lib.hid (OL.nb HW.out b3 HWb.out)
  have HWb := Lib.hid (Nat.le_trans HWb.out b3.size)
  have HG := Lib.hid (OL.nb HG.out b3 HGb.out)
  have HGb := Lib.hid (Nat.le_trans HGb.out b3.size)
  have Htx := Lib.hid (Owd.nb (G := ltO) Htx.out b3 Htxb.out)
  have Htxb := Lib.hid (Nat.le_trans Htxb.out b3.size)
  have Htp := Lib.hid (OL.nb Htp.out b3 Htpb.out)
  have Htpb := Lib.hid (Nat.le_trans Htpb.out b3.size)
  have HH := Lib.hid (OL.nb HH.out b3 HHb.out)
  have HHb := Lib.hid (Nat.le_trans HHb.out b3.size)
  clear b3
  go_wp2
  go_ret
  exact ⟨rfl, HB.out⟩
end Go.Proofs.YtbailpfjgjcbdaaGreatDoor
