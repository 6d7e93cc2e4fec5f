/- The law of ValidState, walked. -/
import Derived.Deep.RegionHeld3
import Derived.BigQuiet
import Derived.Outline
import Derived.Test.YtdgcpaeneafejaaGreatDoorStV
import Derived.Test.YtdgcpaeneafejaaGreatDoorLawR
import Derived.Test.YtdgcpaeneafejaaGreatDoorPnC
import Derived.Test.YtdgcpaeneafejaaGreatDoorSfLow
namespace Go.Proofs.YtdgcpaeneafejaaGreatDoor
open Go.RowKit
set_option maxRecDepth 100000 in
set_option maxHeartbeats 8000000 in
theorem lawValidState_any (x : Sy) (cs_x : List Value) (st : List Pn) (B_st : Option Addr) (n_st d_st : Nat) (w : World) (h_x : syR.R w (· < w.heap.size) x cs_x) (h_st : LRow pnR w (· < w.heap.size) B_st st) (l_st : st.length = n_st) (m_st : n_st ≤ maxLen) (ht : FormTab w) :
    Calls Tryz.prog 7 #[.agg cs_x.toArray, .slice B_st n_st d_st] w fun e w' => e = .returned (.bool true) ∧ Below w.heap.size w w' := by
  have HTB := Lib.hid ht
  have LT := Lib.hid (fun (W : World) (hW : Below w.heap.size w W) (b : Nat) (h : b < w.heap.size) => Nat.lt_of_lt_of_le h hW.size)
  have CZ_x := Lib.hid (fun (W : World) (hW : Below w.heap.size w W) (r : Int) (r0 : 0 ≤ r) (r1 : r ≤ 1048576) => szR (syR.keep h_x (SameOn.of_below hW fun _ h => h)) (LT.out W hW) r0 r1)
  have CT_x := Lib.hid (fun (W : World) (hW : Below w.heap.size w W) (ok : okSy x) => toRO (syR.keep h_x (SameOn.of_below hW fun _ h => h)) (LT.out W hW) ok)
  obtain ⟨A_x1, c_x1, A_x2, c_x2, A_x3, c_x3, A_x4, c_x4, A_x5, c_x5, rfl, _⟩ := h_x
  subst l_st
  have CZ_st := Lib.hid (fun (W : World) (hW : Below w.heap.size w W) (r : Int) (r0 : 0 ≤ r) (r1 : r ≤ 1048576) => szDPointS_any B_st st.length d_st st r W _ (h_st.keep (SameOn.of_below hW fun _ h => h)) (LT.out W hW) rfl m_st r0 r1)
  have CT_st := Lib.hid (fun (W : World) (hW : Below w.heap.size w W) (ok : okList okPn st) => (toOPointS_any B_st st.length d_st st W _ (h_st.keep (SameOn.of_below hW fun _ h => h)) (LT.out W hW) rfl ok).mono fun e w' ⟨he, hO, hb⟩ => (⟨_, he, hO, hb⟩ : ∃ A, e = Ending.returned (.slice A st.length st.length) ∧ OL pnO 106 w' (In W.heap.size w'.heap.size) A st.length st.length st ∧ Below W.heap.size W w'))
  clear h_st m_st
  have hne : (vstB x st != vstB x st) = false := by simp
  clear ht
  go_enter Tryz.func7, Tryz.ntmps7
  go_wp2_with fail
  refine (CZ_x.out _ (by repeat (first | exact Below.refl _ _ | refine Below.alloc ?_ (by simp <;> omega) _)) _ (by omega) (by omega)).mono ?_
  rintro e v1 ⟨q_x, rfl, hq, b3⟩
  have b0 : ∀ o : Obj, Below w.heap.size w (w.alloc o) := fun o => (Below.refl _ _).alloc (Nat.le_refl _) o
  have BA := Lib.hid ((Bx.of (b := w.heap.size) (v0 := .slice A_x1 x.ds.length c_x1) (v1 := .slice A_x2 x.cs.length c_x2) (v2 := .slice A_x3 x.ms.length c_x3) (v3 := .slice A_x4 x.al.length c_x4) (v4 := .slice A_x5 x.hd.length c_x5) (by simp <;> omega) (by simp [go_sem]) (by simp [go_sem]) (by simp [go_sem]) (by simp [go_sem]) (by simp [go_sem])).next b3)
  have HB := Lib.hid ((b0 _).trans (b3.mono (by simp)))
  clear b0
  clear b3
  rcases hq with hq | ⟨hp_x, hl_x, hok⟩
  · go_wp2
    go_ret
    exact ⟨rfl, HB.out⟩
  have hn_x : ¬ q_x < 0 := by omega
  have K_x := Lib.hid hok
  have WT_x := Lib.hid (show wtSy x ≤ 1048576 by omega)
  have hl_x : q_x ≤ 1048576 := by omega
  clear hok
  go_wp2_with fail
  refine (CZ_st.out _ HB.out _ hp_x hl_x).mono ?_
  rintro e v2 ⟨q_st, rfl, hq, b3⟩
  have HB := Lib.hid (HB.out.trans (b3.mono HB.out.size))
  have BA := Lib.hid (BA.out.next b3)
  clear b3
  rcases hq with hq | ⟨hp_st, hl_st, hok⟩
  · go_wp2
    go_ret
    exact ⟨rfl, HB.out⟩
  have hn_st : ¬ q_st < 0 := by omega
  have K_st := Lib.hid hok
  have WT_st := Lib.hid (show wL wtPn st ≤ 1048576 by omega)
  have hl_st : q_st ≤ 1048576 := by omega
  clear hok
  clear CZ_x CZ_st
  obtain ⟨a0, a1, a2, a3, a4⟩ := BA.out.five
  have ap := BA.out.1
  go_wp2_with fail
  refine (CT_x.out _ HB.out K_x.out).mono ?_
  rintro e v3 ⟨css, rfl, hO, b3⟩
  clear a0 a1 a2 a3 a4 ap
  have O_BA_Hsx := Lib.hid BA.out.1
  have Hsxw := Lib.hid HB.out.size
  have Hsx := Lib.hid (hO)
  have HB := Lib.hid (HB.out.trans (b3.mono HB.out.size))
  have BA := Lib.hid (BA.out.next b3)
  have Hsxb := Lib.hid (Nat.le_refl v3.heap.size)
  clear b3 hO
  go_wp2_with fail
  refine (CT_st.out _ HB.out K_st.out).mono ?_
  rintro e v4 ⟨Asst, rfl, hO, b3⟩
  have O_BA_Hsst := Lib.hid BA.out.1
  have O_Hsx_Hsst := Hsxb
  have Hsstw := Lib.hid HB.out.size
  have Hsst := Lib.hid (hO)
  have HB := Lib.hid (HB.out.trans (b3.mono HB.out.size))
  have BA := Lib.hid (BA.out.next b3)
  have Hsx := Lib.hid (Owd.nb (G := syO) Hsx.out b3 Hsxb.out)
  have Hsxb := Lib.hid (Nat.le_trans Hsxb.out b3.size)
  have Hsstb := Lib.hid (Nat.le_refl v4.heap.size)
  clear b3 hO
  go_wp2_with fail
  refine (sVStateR  (syO.rd Hsx.out) Hsst.out.lrow (fun b h => Nat.lt_of_lt_of_le h.2 Hsxb.out) (fun b h => Nat.lt_of_lt_of_le h.2 Hsstb.out) K_x.out K_st.out).mono ?_
  rintro e v5 ⟨rfl, b3⟩
  have HB := Lib.hid (HB.out.trans (b3.mono HB.out.size))
  have BA := Lib.hid (BA.out.next b3)
  have Hsx := Lib.hid (Owd.nb (G := syO) Hsx.out b3 Hsxb.out)
  have Hsxb := Lib.hid (Nat.le_trans Hsxb.out b3.size)
  have Hsst := Lib.hid (OL.nb Hsst.out b3 Hsstb.out)
  have Hsstb := Lib.hid (Nat.le_trans Hsstb.out b3.size)
  clear b3
  clear Hsx Hsxb Hsxw
  clear Hsst Hsstb Hsstw
  obtain ⟨a0, a1, a2, a3, a4⟩ := BA.out.five
  have ap := BA.out.1
  go_wp2_with fail
  refine (CT_x.out _ HB.out K_x.out).mono ?_
  rintro e v6 ⟨cs0, rfl, hO, b3⟩
  clear a0 a1 a2 a3 a4 ap
  obtain ⟨D_x1, d_x1, D_x2, d_x2, D_x3, d_x3, D_x4, d_x4, D_x5, d_x5, E_x, rfl, hE⟩ := hO
  have O_BA_Hxx := Lib.hid BA.out.1
  have Hxxw := Lib.hid HB.out.size
  have Hxx := Lib.hid ((show syO.O v6 (In v5.heap.size v6.heap.size) x [.slice D_x1 x.ds.length d_x1, .slice D_x2 x.cs.length d_x2, .slice D_x3 x.ms.length d_x3, .slice D_x4 x.al.length d_x4, .slice D_x5 x.hd.length d_x5] from ⟨D_x1, d_x1, D_x2, d_x2, D_x3, d_x3, D_x4, d_x4, D_x5, d_x5, E_x, rfl, hE⟩))
  have HB := Lib.hid (HB.out.trans (b3.mono HB.out.size))
  have BA := Lib.hid (BA.out.next b3)
  have Hxxb := Lib.hid (Nat.le_refl v6.heap.size)
  clear b3 hE
  have b0 : Below v6.heap.size v6 (v6.alloc (.cells #[.slice D_x1 x.ds.length d_x1, .slice D_x2 x.cs.length d_x2, .slice D_x3 x.ms.length d_x3, .slice D_x4 x.al.length d_x4, .slice D_x5 x.hd.length d_x5] 35)) := (Below.refl _ _).alloc (Nat.le_refl _) _
  have bx0 : Bx v6.heap.size [.slice D_x1 x.ds.length d_x1, .slice D_x2 x.cs.length d_x2, .slice D_x3 x.ms.length d_x3, .slice D_x4 x.al.length d_x4, .slice D_x5 x.hd.length d_x5] (v6.alloc (.cells #[.slice D_x1 x.ds.length d_x1, .slice D_x2 x.cs.length d_x2, .slice D_x3 x.ms.length d_x3, .slice D_x4 x.al.length d_x4, .slice D_x5 x.hd.length d_x5] 35)) := Bx.of (by simp <;> omega) (by simp [go_sem]) (by simp [go_sem]) (by simp [go_sem]) (by simp [go_sem]) (by simp [go_sem])
  go_wp2_with fail
  refine (CT_st.out _ (HB.out.trans (b0.mono HB.out.size)) K_st.out).mono ?_
  rintro e v7 ⟨Axst, rfl, hO, b3⟩
  have b4 : Below v6.heap.size v6 v7 := b0.trans (b3.mono b0.size)
  have hO := hO.more (S' := In v6.heap.size v7.heap.size) fun b h => ⟨Nat.le_trans b0.size h.1, h.2⟩
  have O_BA_Hxst := Lib.hid BA.out.1
  have O_Hxx_Hxst := Hxxb
  have Hxstw := Lib.hid HB.out.size
  have Hxst := Lib.hid (hO)
  have BX := Lib.hid (bx0.next b3)
  have HB := Lib.hid (HB.out.trans (b4.mono HB.out.size))
  have BA := Lib.hid (BA.out.next b4)
  have Hxx := Lib.hid (Owd.nb (G := syO) Hxx.out b4 Hxxb.out)
  have Hxxb := Lib.hid (Nat.le_trans Hxxb.out b4.size)
  have Hxstb := Lib.hid (Nat.le_refl v7.heap.size)
  clear b3 b4 b0 bx0 hO
  obtain ⟨a0, a1, a2, a3, a4⟩ := BX.out.five
  have ap := BX.out.1
  go_wp2_with fail
  refine (iVStateR  (syO.rd Hxx.out) Hxst.out.lrow (fun b h => Nat.lt_of_lt_of_le h.2 Hxxb.out) (fun b h => Nat.lt_of_lt_of_le h.2 Hxstb.out) K_x.out K_st.out (HTB.out.below HB.out)).mono ?_
  rintro e v8 ⟨rfl, b3⟩
  clear a0 a1 a2 a3 a4 ap
  have HB := Lib.hid (HB.out.trans (b3.mono HB.out.size))
  have BA := Lib.hid (BA.out.next b3)
  have Hxx := Lib.hid (Owd.nb (G := syO) Hxx.out b3 Hxxb.out)
  have Hxxb := Lib.hid (Nat.le_trans Hxxb.out b3.size)
  have Hxst := Lib.hid (OL.nb Hxst.out b3 Hxstb.out)
  have Hxstb := Lib.hid (Nat.le_trans Hxstb.out b3.size)
  have BX := Lib.hid (BX.out.next b3)
  clear b3
  have HS := Lib.hid (fun (W : World) (hW : Below v8.heap.size v8 W) => (⟨hW, (BX.out.next hW).five, (BA.out.next hW).five⟩ : Below v8.heap.size v8 W ∧ (W.cell? ⟨v6.heap.size, 0, none⟩ = some (.slice D_x1 x.ds.length d_x1) ∧ W.cell? ⟨v6.heap.size, 1, none⟩ = some (.slice D_x2 x.cs.length d_x2) ∧ W.cell? ⟨v6.heap.size, 2, none⟩ = some (.slice D_x3 x.ms.length d_x3) ∧ W.cell? ⟨v6.heap.size, 3, none⟩ = some (.slice D_x4 x.al.length d_x4) ∧ W.cell? ⟨v6.heap.size, 4, none⟩ = some (.slice D_x5 x.hd.length d_x5)) ∧ (W.cell? ⟨w.heap.size, 0, none⟩ = some (.slice A_x1 x.ds.length c_x1) ∧ W.cell? ⟨w.heap.size, 1, none⟩ = some (.slice A_x2 x.cs.length c_x2) ∧ W.cell? ⟨w.heap.size, 2, none⟩ = some (.slice A_x3 x.ms.length c_x3) ∧ W.cell? ⟨w.heap.size, 3, none⟩ = some (.slice A_x4 x.al.length c_x4) ∧ W.cell? ⟨w.heap.size, 4, none⟩ = some (.slice A_x5 x.hd.length c_x5))))
  have HV := Lib.hid (Below.refl v8.heap.size v8)
  have HBO := Lib.hid (fun (W : World) (hW : Below v8.heap.size v8 W) => HB.out.trans (hW.mono HB.out.size))
  go_wp2
  go_region_held3 (fun W => Below v8.heap.size v8 W ∧ (W.cell? ⟨v6.heap.size, 0, none⟩ = some (.slice D_x1 x.ds.length d_x1) ∧ W.cell? ⟨v6.heap.size, 1, none⟩ = some (.slice D_x2 x.cs.length d_x2) ∧ W.cell? ⟨v6.heap.size, 2, none⟩ = some (.slice D_x3 x.ms.length d_x3) ∧ W.cell? ⟨v6.heap.size, 3, none⟩ = some (.slice D_x4 x.al.length d_x4) ∧ W.cell? ⟨v6.heap.size, 4, none⟩ = some (.slice D_x5 x.hd.length d_x5)) ∧ (W.cell? ⟨w.heap.size, 0, none⟩ = some (.slice A_x1 x.ds.length c_x1) ∧ W.cell? ⟨w.heap.size, 1, none⟩ = some (.slice A_x2 x.cs.length c_x2) ∧ W.cell? ⟨w.heap.size, 2, none⟩ = some (.slice A_x3 x.ms.length c_x3) ∧ W.cell? ⟨w.heap.size, 3, none⟩ = some (.slice A_x4 x.al.length c_x4) ∧ W.cell? ⟨w.heap.size, 4, none⟩ = some (.slice A_x5 x.hd.length c_x5))) (exact HS.out _ (by first | exact HV.out.drew | exact HV.out)) (first
    | (go_at_call 11; (with_reducible refine (CT_x.out _ (by first | exact HBO.out _ HV.out.drew | exact HBO.out _ HV.out) K_x.out).mono ?_); rintro e v9 ⟨cs5, rfl, hR, b3⟩; have HV := Lib.hid (Below.trans (by first | exact HV.out | exact HV.out.drew) (b3.mono (by first | exact Nat.le_refl _ | exact HV.out.size))); have HR5 := Lib.hid (syO.rd hR); clear hR b3)
    | (go_at_call 13; refine (eqR (Rec.nb (F := syR) (syO.rd Hxx.out) HV.out Hxxb.out) HR5.out (fun b h => Nat.lt_of_lt_of_le h.2 (Nat.le_trans Hxxb.out HV.out.size)) (fun b h => h.2) K_x.out).mono ?_; rintro e v10 ⟨rfl, b3⟩; have HV := Lib.hid (HV.out.trans (b3.mono HV.out.size)); clear b3))
  clear HS HBO HR5
  have HB := Lib.hid (HB.out.trans (HV.out.mono HB.out.size))
  have BA := Lib.hid (BA.out.next HV.out)
  have Hxx := Lib.hid (Owd.nb (G := syO) Hxx.out HV.out Hxxb.out)
  have Hxxb := Lib.hid (Nat.le_trans Hxxb.out HV.out.size)
  have Hxst := Lib.hid (OL.nb Hxst.out HV.out Hxstb.out)
  have Hxstb := Lib.hid (Nat.le_trans Hxstb.out HV.out.size)
  have BX := Lib.hid (BX.out.next HV.out)
  clear HV
  go_wp2_with fail
  refine (CT_st.out _ HB.out K_st.out).mono ?_
  rintro e v11 ⟨Ayst, rfl, hO, b3⟩
  have O_BA_Hyst := Lib.hid BA.out.1
  have O_Hxx_Hyst := Hxxb
  have O_Hxst_Hyst := Hxstb
  have O_BX_Hyst := Lib.hid BX.out.1
  have Hystw := Lib.hid HB.out.size
  have Hyst := Lib.hid (hO)
  have HB := Lib.hid (HB.out.trans (b3.mono HB.out.size))
  have BA := Lib.hid (BA.out.next b3)
  have Hxx := Lib.hid (Owd.nb (G := syO) Hxx.out b3 Hxxb.out)
  have Hxxb := Lib.hid (Nat.le_trans Hxxb.out b3.size)
  have Hxst := Lib.hid (OL.nb Hxst.out b3 Hxstb.out)
  have Hxstb := Lib.hid (Nat.le_trans Hxstb.out b3.size)
  have BX := Lib.hid (BX.out.next b3)
  have Hystb := Lib.hid (Nat.le_refl v11.heap.size)
  clear b3 hO
  go_wp2_with fail
  refine (eqDPointS_yes _ _ _ _ _ _ st _ _ _ Hxst.out.lrow Hyst.out.lrow (fun b h => Nat.lt_of_lt_of_le h.2 Hxstb.out) (fun b h => Nat.lt_of_lt_of_le h.2 Hystb.out) rfl rfl K_st.out).mono ?_
  rintro e v12 ⟨rfl, b3⟩
  have HB := Lib.hid (HB.out.trans (b3.mono HB.out.size))
  have BA := Lib.hid (BA.out.next b3)
  have Hxx := Lib.hid (Owd.nb (G := syO) Hxx.out b3 Hxxb.out)
  have Hxxb := Lib.hid (Nat.le_trans Hxxb.out b3.size)
  have Hxst := Lib.hid (OL.nb Hxst.out b3 Hxstb.out)
  have Hxstb := Lib.hid (Nat.le_trans Hxstb.out b3.size)
  have BX := Lib.hid (BX.out.next b3)
  have Hyst := Lib.hid (OL.nb Hyst.out b3 Hystb.out)
  have Hystb := Lib.hid (Nat.le_trans Hystb.out b3.size)
  clear b3
  go_wp2
  go_ret
  exact ⟨rfl, HB.out⟩
end Go.Proofs.YtdgcpaeneafejaaGreatDoor
