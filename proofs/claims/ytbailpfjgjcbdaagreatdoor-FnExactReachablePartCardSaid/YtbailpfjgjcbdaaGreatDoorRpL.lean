/- The law of ReachablePart, walked. -/
import Derived.Deep.RegionHeld3
import Derived.BigQuiet
import Derived.Outline
import Derived.Test.YtbailpfjgjcbdaaGreatDoorRpS
import Derived.Test.YtbailpfjgjcbdaaGreatDoorRpI
import Derived.Test.YtbailpfjgjcbdaaGreatDoorLtB
namespace Go.Proofs.YtbailpfjgjcbdaaGreatDoor
open Go.RowKit
theorem ok_rpR {x : Lt} (ok : okLt x) : okLt (rpR x) := by
  rcases tv : ltB x with _ | _
  · rw [rpR_no tv]; exact ⟨⟨Nat.zero_le _, fun u h => by cases h⟩, ⟨Nat.zero_le _, fun u h => by cases h⟩⟩
  · rw [rpR_yes tv]; exact ⟨ok.1, ⟨Nat.le_trans (rpT_len x (rchL x) x.es.length) ok.2.1, fun _ _ => trivial⟩⟩
theorem wt_rpR (x : Lt) : wtLt (rpR x) ≤ wtLt x := by
  have hz := @wL_z ByteArray
  have hz2 := @wL_z Ed
  unfold wtLt
  rw [hz, hz2, hz, hz2]
  rcases tv : ltB x with _ | _
  · rw [rpR_no tv]; exact Nat.zero_le _
  · rw [rpR_yes tv]
    have h := rpT_len x (rchL x) x.es.length
    have h2 : (rpY x (rchL x)).es.length ≤ x.es.length := h
    have h3 : (rpY x (rchL x)).ls.length = x.ls.length := rfl
    omega
set_option maxRecDepth 100000 in
set_option maxHeartbeats 8000000 in
theorem lawReachablePart_any (x : Lt) (cs_x : List Value) (w : World) (h_x : ltR.R w (· < w.heap.size) x cs_x) (ht : TxtTabs w) :
    Calls Tryz.prog 6 #[.agg cs_x.toArray] w fun e w' => e = .returned (.bool true) ∧ Below w.heap.size w w' := by
  have HTB := Lib.hid ht
  have LT := Lib.hid (fun (W : World) (hW : Below w.heap.size w W) (b : Nat) (h : b < w.heap.size) => Nat.lt_of_lt_of_le h hW.size)
  have CZ_x := Lib.hid (fun (W : World) (hW : Below w.heap.size w W) (r : Int) (r0 : 0 ≤ r) (r1 : r ≤ 1048576) => szLtR (ltR.keep h_x (SameOn.of_below hW fun _ h => h)) (LT.out W hW) r0 r1)
  have CT_x := Lib.hid (fun (W : World) (hW : Below w.heap.size w W) (ok : okLt x) => toLtRO (ltR.keep h_x (SameOn.of_below hW fun _ h => h)) (LT.out W hW) ok)
  have CSP := Lib.hid (fun (W : World) (S : Nat → Prop) (cs : List Value) (h : ltR.R W S x cs) (hS : ∀ b, S b → b < W.heap.size) (ok : okLt x) => specRp_any h hS ok)
  have CIM := Lib.hid (fun (W : World) (S : Nat → Prop) (cs : List Value) (h : ltR.R W S x cs) (hS : ∀ b, S b → b < W.heap.size) (ok : okLt x) (ht : TxtTabs W) => implRp_any h hS ok ht)
  have CKR := Lib.hid (fun (ok : okLt x) => (ok_rpR ok : okLt (rpR x)))
  have CWR := Lib.hid (wt_rpR x)
  have KZ := Lib.hid (ok_rchR x)
  have WZ := Lib.hid (cnt_rchR x)
  generalize rpR x = rs at *
  generalize rchR x = zs at *
  generalize rchC x = rc at *
  obtain ⟨A_x1, c_x1, A_x2, c_x2, rfl, _⟩ := h_x
  have hne : (rc != rc) = false := by simp
  clear ht
  go_enter Tryz.func6, Tryz.ntmps6
  go_wp2_with fail
  refine (CZ_x.out _ (by repeat (first | exact Below.refl _ _ | refine Below.alloc ?_ (by simp <;> omega) _)) _ (by omega) (by omega)).mono ?_
  rintro e v1 ⟨q_x, rfl, hq, b3⟩
  have b0 : ∀ o : Obj, Below w.heap.size w (w.alloc o) := fun o => (Below.refl _ _).alloc (Nat.le_refl _) o
  have BA := Lib.hid ((Bx.of4 (b := w.heap.size) (v0 := .int .i64 x.st) (v1 := .int .i64 x.ini) (v2 := .slice A_x1 x.ls.length c_x1) (v3 := .slice A_x2 x.es.length c_x2) (by simp <;> omega) (by simp [go_sem]) (by simp [go_sem]) (by simp [go_sem]) (by simp [go_sem])).next b3)
  have HB := Lib.hid ((b0 _).trans (b3.mono (by simp)))
  clear b0
  clear b3
  rcases hq with hq | ⟨hp_x, hl_x, hok⟩
  · go_wp2
    go_ret
    exact ⟨rfl, HB.out⟩
  have hn_x : ¬ q_x < 0 := by omega
  have K_x := Lib.hid hok
  have WT_x := Lib.hid (show wtLt x ≤ 1048576 by omega)
  have KR := Lib.hid (CKR.out hok)
  have WR := Lib.hid (show wtLt rs ≤ 1048576 from Nat.le_trans CWR.out WT_x.out)
  have HL := Lib.hid (show zs.length ≤ maxLen by have := KZ.out.1; unfold maxLen; omega)
  clear hok CZ_x CKR CWR hp_x hl_x
  obtain ⟨a0, a1, a2, a3⟩ := BA.out.four
  have ap := BA.out.1
  go_wp2_with fail
  refine (CT_x.out _ HB.out K_x.out).mono ?_
  rintro e v2 ⟨css, rfl, hO, b3⟩
  clear a0 a1 a2 a3 ap
  have O_BA_Hs := Lib.hid (BA.out.1)
  have Hsw := Lib.hid (HB.out.size)
  have Hs := Lib.hid (hO)
  have HB := Lib.hid (HB.out.trans (b3.mono HB.out.size))
  have BA := Lib.hid (BA.out.next b3)
  have Hsb := Lib.hid (Nat.le_refl v2.heap.size)
  clear b3
  clear hO
  go_wp2_with fail
  refine (CSP.out _ _ _ (ltO.rd Hs.out) (fun b h => Nat.lt_of_lt_of_le h.2 Hsb.out) K_x.out).mono ?_
  rintro e v3 ⟨csHW, AHW, cHW, mid_HWl, rfl, hm1, hm2, hL, hO, b3⟩
  obtain ⟨W1, e1, W2, e2, E_w, rfl, hE⟩ := hO
  have O_BA_HWl := Lib.hid (BA.out.1)
  have O_Hs_HWl := Lib.hid (Hsb.out)
  have HWlw := Lib.hid (HB.out.size)
  have HWl := Lib.hid (hL)
  have O_BA_HW := Lib.hid ((Nat.lt_of_lt_of_le BA.out.1 hm1))
  have O_Hs_HW := Lib.hid ((Nat.le_trans Hsb.out hm1))
  have O_HWl_HW := Lib.hid (Nat.le_refl mid_HWl)
  have HWw := Lib.hid ((Nat.le_trans HB.out.size hm1))
  have HW := Lib.hid ((show ltO.O v3 (In mid_HWl v3.heap.size) rs [.int .i64 rs.st, .int .i64 rs.ini, .slice W1 rs.ls.length e1, .slice W2 rs.es.length e2] from ⟨W1, e1, W2, e2, E_w, rfl, hE⟩))
  have HB := Lib.hid (HB.out.trans (b3.mono HB.out.size))
  have BA := Lib.hid (BA.out.next b3)
  have Hs := Lib.hid (Owd.nb (G := ltO) Hs.out b3 Hsb.out)
  have Hsb := Lib.hid (Nat.le_trans Hsb.out b3.size)
  have HWlb := Lib.hid hm2
  have HWb := Lib.hid (Nat.le_refl v3.heap.size)
  clear b3
  clear hm1 hm2
  clear hE hL
  have b0 : Below v3.heap.size v3 (v3.alloc (.cells #[.int .i64 rs.st, .int .i64 rs.ini, .slice W1 rs.ls.length e1, .slice W2 rs.es.length e2] 32)) := (Below.refl _ _).alloc (Nat.le_refl _) _
  have bx0 : Bx v3.heap.size [.int .i64 rs.st, .int .i64 rs.ini, .slice W1 rs.ls.length e1, .slice W2 rs.es.length e2] (v3.alloc (.cells #[.int .i64 rs.st, .int .i64 rs.ini, .slice W1 rs.ls.length e1, .slice W2 rs.es.length e2] 32)) := Bx.of4 (by simp <;> omega) (by simp [go_sem]) (by simp [go_sem]) (by simp [go_sem]) (by simp [go_sem])
  obtain ⟨a0, a1, a2, a3⟩ := BA.out.four
  have ap := BA.out.1
  go_wp2_with fail
  refine (CT_x.out _ (HB.out.trans (b0.mono HB.out.size)) K_x.out).mono ?_
  rintro e v4 ⟨cs0, rfl, hO, b3⟩
  clear a0 a1 a2 a3 ap
  have hO := ltO.more (S' := In (v3.heap.size + 1) v4.heap.size) hO fun b h => ⟨by have := h.1; simpa using this, h.2⟩
  obtain ⟨D1, d1, D2, d2, E_x, rfl, hE⟩ := hO
  have b4 : Below v3.heap.size v3 v4 := b0.trans (b3.mono b0.size)
  have BW := Lib.hid (bx0.next b3)
  have O_BA_Hx := Lib.hid ((Nat.lt_succ_of_lt BA.out.1))
  have O_Hs_Hx := Lib.hid ((Nat.le_succ_of_le Hsb.out))
  have O_HWl_Hx := Lib.hid ((Nat.le_succ_of_le HWlb.out))
  have O_HW_Hx := Lib.hid ((Nat.le_succ_of_le HWb.out))
  have O_BW_Hx := Lib.hid ((Nat.lt_succ_self v3.heap.size))
  have Hxw := Lib.hid ((Nat.le_succ_of_le HB.out.size))
  have Hx := Lib.hid ((show ltO.O v4 (In (v3.heap.size + 1) v4.heap.size) x [.int .i64 x.st, .int .i64 x.ini, .slice D1 x.ls.length d1, .slice D2 x.es.length d2] from ⟨D1, d1, D2, d2, E_x, rfl, hE⟩))
  have O_Hs_BW := Hsb
  have O_HWl_BW := HWlb
  have O_HW_BW := HWb
  have HB := Lib.hid (HB.out.trans (b4.mono HB.out.size))
  have BA := Lib.hid (BA.out.next b4)
  have Hs := Lib.hid (Owd.nb (G := ltO) Hs.out b4 Hsb.out)
  have Hsb := Lib.hid (Nat.le_trans Hsb.out b4.size)
  have HWl := Lib.hid (OL.nb HWl.out b4 HWlb.out)
  have HWlb := Lib.hid (Nat.le_trans HWlb.out b4.size)
  have HW := Lib.hid (Owd.nb (G := ltO) HW.out b4 HWb.out)
  have HWb := Lib.hid (Nat.le_trans HWb.out b4.size)
  have Hxb := Lib.hid (Nat.le_refl v4.heap.size)
  clear b3 b4 b0 bx0
  clear hE
  have b0 : Below v4.heap.size v4 (v4.alloc (.cells #[.int .i64 x.st, .int .i64 x.ini, .slice D1 x.ls.length d1, .slice D2 x.es.length d2] 32)) := (Below.refl _ _).alloc (Nat.le_refl _) _
  have bx0 : Bx v4.heap.size [.int .i64 x.st, .int .i64 x.ini, .slice D1 x.ls.length d1, .slice D2 x.es.length d2] (v4.alloc (.cells #[.int .i64 x.st, .int .i64 x.ini, .slice D1 x.ls.length d1, .slice D2 x.es.length d2] 32)) := Bx.of4 (by simp <;> omega) (by simp [go_sem]) (by simp [go_sem]) (by simp [go_sem]) (by simp [go_sem])
  clear Hs Hsb Hsw
  go_wp2_with fail
  refine (CIM.out _ _ _ (Rec.nb (F := ltR) (ltO.rd Hx.out) b0 Hxb.out) (fun b h => Nat.lt_of_lt_of_le h.2 (Nat.le_trans Hxb.out b0.size)) K_x.out (HTB.out.below (HB.out.trans (b0.mono HB.out.size)))).mono ?_
  rintro e v5 ⟨csHG, AHG, cHG, mid_HGl, rfl, hm1, hm2, hL, hO, b3⟩
  have hm1 : (v4.heap.size + 1) ≤ mid_HGl := by simpa using hm1
  have hL := hL.more (S' := In (v4.heap.size + 1) mid_HGl) fun b h => ⟨by have := h.1; simpa using this, h.2⟩
  obtain ⟨G1, g1, G2, g2, E_g, rfl, hE⟩ := hO
  have b4 : Below v4.heap.size v4 v5 := b0.trans (b3.mono b0.size)
  have BX := Lib.hid (bx0.next b3)
  have O_BA_HGl := Lib.hid ((Nat.lt_succ_of_lt BA.out.1))
  have O_HWl_HGl := Lib.hid ((Nat.le_succ_of_le HWlb.out))
  have O_HW_HGl := Lib.hid ((Nat.le_succ_of_le HWb.out))
  have O_Hx_HGl := Lib.hid ((Nat.le_succ_of_le Hxb.out))
  have O_BW_HGl := Lib.hid ((Nat.lt_succ_of_lt BW.out.1))
  have O_BX_HGl := Lib.hid ((Nat.lt_succ_self v4.heap.size))
  have HGlw := Lib.hid ((Nat.le_succ_of_le HB.out.size))
  have HGl := Lib.hid (hL)
  have O_BA_HG := Lib.hid ((Nat.lt_of_lt_of_le (Nat.lt_succ_of_lt BA.out.1) hm1))
  have O_HWl_HG := Lib.hid ((Nat.le_trans (Nat.le_succ_of_le HWlb.out) hm1))
  have O_HW_HG := Lib.hid ((Nat.le_trans (Nat.le_succ_of_le HWb.out) hm1))
  have O_Hx_HG := Lib.hid ((Nat.le_trans (Nat.le_succ_of_le Hxb.out) hm1))
  have O_BW_HG := Lib.hid ((Nat.lt_of_lt_of_le (Nat.lt_succ_of_lt BW.out.1) hm1))
  have O_BX_HG := Lib.hid ((Nat.lt_of_lt_of_le (Nat.lt_succ_self v4.heap.size) hm1))
  have O_HGl_HG := Lib.hid (Nat.le_refl mid_HGl)
  have HGw := Lib.hid ((Nat.le_trans (Nat.le_succ_of_le HB.out.size) hm1))
  have HG := Lib.hid ((show ltO.O v5 (In mid_HGl v5.heap.size) rs [.int .i64 rs.st, .int .i64 rs.ini, .slice G1 rs.ls.length g1, .slice G2 rs.es.length g2] from ⟨G1, g1, G2, g2, E_g, rfl, hE⟩))
  have O_HWl_BX := HWlb
  have O_HW_BX := HWb
  have O_Hx_BX := Hxb
  have HB := Lib.hid (HB.out.trans (b4.mono HB.out.size))
  have BA := Lib.hid (BA.out.next b4)
  have HWl := Lib.hid (OL.nb HWl.out b4 HWlb.out)
  have HWlb := Lib.hid (Nat.le_trans HWlb.out b4.size)
  have HW := Lib.hid (Owd.nb (G := ltO) HW.out b4 HWb.out)
  have HWb := Lib.hid (Nat.le_trans HWb.out b4.size)
  have Hx := Lib.hid (Owd.nb (G := ltO) Hx.out b4 Hxb.out)
  have Hxb := Lib.hid (Nat.le_trans Hxb.out b4.size)
  have BW := Lib.hid (BW.out.next b4)
  have HGlb := Lib.hid hm2
  have HGb := Lib.hid (Nat.le_refl v5.heap.size)
  clear b3 b4 b0 bx0
  clear hm1 hm2
  clear hE hL
  have b0 : Below v5.heap.size v5 (v5.alloc (.cells #[.int .i64 rs.st, .int .i64 rs.ini, .slice G1 rs.ls.length g1, .slice G2 rs.es.length g2] 32)) := (Below.refl _ _).alloc (Nat.le_refl _) _
  have bx0 : Bx v5.heap.size [.int .i64 rs.st, .int .i64 rs.ini, .slice G1 rs.ls.length g1, .slice G2 rs.es.length g2] (v5.alloc (.cells #[.int .i64 rs.st, .int .i64 rs.ini, .slice G1 rs.ls.length g1, .slice G2 rs.es.length g2] 32)) := Bx.of4 (by simp <;> omega) (by simp [go_sem]) (by simp [go_sem]) (by simp [go_sem]) (by simp [go_sem])
  obtain ⟨a0, a1, a2, a3⟩ := BW.out.four
  have ap := BW.out.1
  go_wp2_with fail
  refine (eqLtR (Rec.nb (F := ltR) (ltO.rd HG.out) b0 HGb.out) (Rec.nb (F := ltR) (ltO.rd HW.out) b0 HWb.out) (fun b h => Nat.lt_of_lt_of_le h.2 (Nat.le_trans HGb.out b0.size)) (fun b h => Nat.lt_of_lt_of_le h.2 (Nat.le_trans HWb.out b0.size)) KR.out).mono ?_
  rintro e v6 ⟨rfl, b3⟩
  clear a0 a1 a2 a3 ap
  have b4 : Below v5.heap.size v5 v6 := b0.trans (b3.mono b0.size)
  have BG := Lib.hid (bx0.next b3)
  have O_HWl_BG := HWlb
  have O_HW_BG := HWb
  have O_Hx_BG := Hxb
  have O_HGl_BG := HGlb
  have O_HG_BG := HGb
  have HB := Lib.hid (HB.out.trans (b4.mono HB.out.size))
  have BA := Lib.hid (BA.out.next b4)
  have HWl := Lib.hid (OL.nb HWl.out b4 HWlb.out)
  have HWlb := Lib.hid (Nat.le_trans HWlb.out b4.size)
  have HW := Lib.hid (Owd.nb (G := ltO) HW.out b4 HWb.out)
  have HWb := Lib.hid (Nat.le_trans HWb.out b4.size)
  have Hx := Lib.hid (Owd.nb (G := ltO) Hx.out b4 Hxb.out)
  have Hxb := Lib.hid (Nat.le_trans Hxb.out b4.size)
  have BW := Lib.hid (BW.out.next b4)
  have HGl := Lib.hid (OL.nb HGl.out b4 HGlb.out)
  have HGlb := Lib.hid (Nat.le_trans HGlb.out b4.size)
  have HG := Lib.hid (Owd.nb (G := ltO) HG.out b4 HGb.out)
  have HGb := Lib.hid (Nat.le_trans HGb.out b4.size)
  have BX := Lib.hid (BX.out.next b4)
  clear b3 b4 b0 bx0
  go_wp2_with fail
  refine (eqDInt64S_yes _ _ _ _ _ _ zs _ _ _ HGl.out.lrow HWl.out.lrow (fun b h => Nat.lt_of_lt_of_le h.2 HGlb.out) (fun b h => Nat.lt_of_lt_of_le h.2 HWlb.out) rfl rfl KZ.out).mono ?_
  rintro e v7 ⟨rfl, b3⟩
  have HB := Lib.hid (HB.out.trans (b3.mono HB.out.size))
  have BA := Lib.hid (BA.out.next b3)
  have HWl := Lib.hid (OL.nb HWl.out b3 HWlb.out)
  have HWlb := Lib.hid (Nat.le_trans HWlb.out b3.size)
  have HW := Lib.hid (Owd.nb (G := ltO) HW.out b3 HWb.out)
  have HWb := Lib.hid (Nat.le_trans HWb.out b3.size)
  have Hx := Lib.hid (Owd.nb (G := ltO) Hx.out b3 Hxb.out)
  have Hxb := Lib.hid (Nat.le_trans Hxb.out b3.size)
  have BW := Lib.hid (BW.out.next b3)
  have HGl := Lib.hid (OL.nb HGl.out b3 HGlb.out)
  have HGlb := Lib.hid (Nat.le_trans HGlb.out b3.size)
  have HG := Lib.hid (Owd.nb (G := ltO) HG.out b3 HGb.out)
  have HGb := Lib.hid (Nat.le_trans HGb.out b3.size)
  have BX := Lib.hid (BX.out.next b3)
  have BG := Lib.hid (BG.out.next b3)
  clear b3
  have HS := Lib.hid (fun (W : World) (hW : Below v7.heap.size v7 W) => (⟨hW, (BX.out.next hW).four, (BA.out.next hW).four⟩ : Below v7.heap.size v7 W ∧ (W.cell? ⟨v4.heap.size, 0, none⟩ = some (.int .i64 x.st) ∧ W.cell? ⟨v4.heap.size, 1, none⟩ = some (.int .i64 x.ini) ∧ W.cell? ⟨v4.heap.size, 2, none⟩ = some (.slice D1 x.ls.length d1) ∧ W.cell? ⟨v4.heap.size, 3, none⟩ = some (.slice D2 x.es.length d2)) ∧ (W.cell? ⟨w.heap.size, 0, none⟩ = some (.int .i64 x.st) ∧ W.cell? ⟨w.heap.size, 1, none⟩ = some (.int .i64 x.ini) ∧ W.cell? ⟨w.heap.size, 2, none⟩ = some (.slice A_x1 x.ls.length c_x1) ∧ W.cell? ⟨w.heap.size, 3, none⟩ = some (.slice A_x2 x.es.length c_x2))))
  have HV := Lib.hid (Below.refl v7.heap.size v7)
  have HBO := Lib.hid (fun (W : World) (hW : Below v7.heap.size v7 W) => HB.out.trans (hW.mono HB.out.size))
  go_wp2
  go_region_held3 (fun W => Below v7.heap.size v7 W ∧ (W.cell? ⟨v4.heap.size, 0, none⟩ = some (.int .i64 x.st) ∧ W.cell? ⟨v4.heap.size, 1, none⟩ = some (.int .i64 x.ini) ∧ W.cell? ⟨v4.heap.size, 2, none⟩ = some (.slice D1 x.ls.length d1) ∧ W.cell? ⟨v4.heap.size, 3, none⟩ = some (.slice D2 x.es.length d2)) ∧ (W.cell? ⟨w.heap.size, 0, none⟩ = some (.int .i64 x.st) ∧ W.cell? ⟨w.heap.size, 1, none⟩ = some (.int .i64 x.ini) ∧ W.cell? ⟨w.heap.size, 2, none⟩ = some (.slice A_x1 x.ls.length c_x1) ∧ W.cell? ⟨w.heap.size, 3, none⟩ = some (.slice A_x2 x.es.length c_x2))) (exact HS.out _ (by first | exact HV.out.drew | exact HV.out)) (first
    | (go_at_call 9; (with_reducible refine (CT_x.out _ (by first | exact HBO.out _ HV.out.drew | exact HBO.out _ HV.out) K_x.out).mono ?_); rintro e v8 ⟨cs5, rfl, hR, b3⟩; have HV := Lib.hid (Below.trans (by first | exact HV.out | exact HV.out.drew) (b3.mono (by first | exact Nat.le_refl _ | exact HV.out.size))); have HR5 := Lib.hid (ltO.rd hR); clear hR b3)
    | (go_at_call 13; refine (eqLtR (Rec.nb (F := ltR) (ltO.rd Hx.out) HV.out Hxb.out) HR5.out (fun b h => Nat.lt_of_lt_of_le h.2 (Nat.le_trans Hxb.out HV.out.size)) (fun b h => h.2) K_x.out).mono ?_; rintro e v9 ⟨rfl, b3⟩; have HV := Lib.hid (HV.out.trans (b3.mono HV.out.size)); clear b3))
  clear HS HBO HR5
  have HB := Lib.hid (HB.out.trans (HV.out.mono HB.out.size))
  have BA := Lib.hid (BA.out.next HV.out)
  have HWl := Lib.hid (OL.nb HWl.out HV.out HWlb.out)
  have HWlb := Lib.hid (Nat.le_trans HWlb.out HV.out.size)
  have HW := Lib.hid (Owd.nb (G := ltO) HW.out HV.out HWb.out)
  have HWb := Lib.hid (Nat.le_trans HWb.out HV.out.size)
  have Hx := Lib.hid (Owd.nb (G := ltO) Hx.out HV.out Hxb.out)
  have Hxb := Lib.hid (Nat.le_trans Hxb.out HV.out.size)
  have BW := Lib.hid (BW.out.next HV.out)
  have HGl := Lib.hid (OL.nb HGl.out HV.out HGlb.out)
  have HGlb := Lib.hid (Nat.le_trans HGlb.out HV.out.size)
  have HG := Lib.hid (Owd.nb (G := ltO) HG.out HV.out HGb.out)
  have HGb := Lib.hid (Nat.le_trans HGb.out HV.out.size)
  have BX := Lib.hid (BX.out.next HV.out)
  have BG := Lib.hid (BG.out.next HV.out)
  clear HV
  obtain ⟨a0, a1, a2, a3⟩ := BX.out.four
  have ap := BX.out.1
  go_wp2_with fail
  have hcnt := cnt_lt x
  have hwt := WT_x.out
  refine (markLtO (k0 := 1) Hx.out (fun b h => Nat.lt_of_lt_of_le h.2 Hxb.out) (by omega) (by omega)).mono ?_
  rintro e v10 ⟨rfl, hO, t3⟩
  clear a0 a1 a2 a3 ap
  have hk_Hx : ¬ (1 + ((ltM.cnt x : Nat) : Int) < 0) := by omega
  clear hcnt hwt
  have HB := Lib.hid (Below.nt HB.out t3 Hxw.out)
  have BA := Lib.hid (Bx.nt BA.out t3 (Or.inl O_BA_Hx.out))
  have HWl := Lib.hid (OL.nt HWl.out t3 (Or.inl O_HWl_Hx.out))
  have HWlb := Lib.hid (Nat.le_trans HWlb.out t3.size)
  have HW := Lib.hid (Owd.nt (G := ltO) HW.out t3 (Or.inl O_HW_Hx.out))
  have HWb := Lib.hid (Nat.le_trans HWb.out t3.size)
  have Hxb := Lib.hid (Nat.le_trans Hxb.out t3.size)
  have BW := Lib.hid (Bx.nt BW.out t3 (Or.inl O_BW_Hx.out))
  have HGl := Lib.hid (OL.nt HGl.out t3 (Or.inr O_Hx_HGl.out))
  have HGlb := Lib.hid (Nat.le_trans HGlb.out t3.size)
  have HG := Lib.hid (Owd.nt (G := ltO) HG.out t3 (Or.inr O_Hx_HG.out))
  have HGb := Lib.hid (Nat.le_trans HGb.out t3.size)
  have BX := Lib.hid (Bx.nt BX.out t3 (Or.inr O_Hx_BX.out))
  have BG := Lib.hid (Bx.nt BG.out t3 (Or.inr O_Hx_BG.out))
  have Hx := Lib.hid hO
  clear t3 hO
  clear Hx Hxb Hxw
  clear BX
  obtain ⟨a0, a1, a2, a3⟩ := BW.out.four
  have ap := BW.out.1
  obtain ⟨m0, m1, m2, m3⟩ := BG.out.four
  have mp := BG.out.1
  go_wp2_with fail
  refine (eqLtR (ltO.rd HG.out) (ltO.rd HW.out) (fun b h => Nat.lt_of_lt_of_le h.2 HGb.out) (fun b h => Nat.lt_of_lt_of_le h.2 HWb.out) KR.out).mono ?_
  rintro e v11 ⟨rfl, b3⟩
  clear a0 a1 a2 a3 ap
  clear m0 m1 m2 m3 mp
  have HB := Lib.hid (HB.out.trans (b3.mono HB.out.size))
  have BA := Lib.hid (BA.out.next b3)
  have HWl := Lib.hid (OL.nb HWl.out b3 HWlb.out)
  have HWlb := Lib.hid (Nat.le_trans HWlb.out b3.size)
  have HW := Lib.hid (Owd.nb (G := ltO) HW.out b3 HWb.out)
  have HWb := Lib.hid (Nat.le_trans HWb.out b3.size)
  have BW := Lib.hid (BW.out.next b3)
  have HGl := Lib.hid (OL.nb HGl.out b3 HGlb.out)
  have HGlb := Lib.hid (Nat.le_trans HGlb.out b3.size)
  have HG := Lib.hid (Owd.nb (G := ltO) HG.out b3 HGb.out)
  have HGb := Lib.hid (Nat.le_trans HGb.out b3.size)
  have BG := Lib.hid (BG.out.next b3)
  clear b3
  go_wp2_with fail
  refine (eqDInt64S_yes _ _ _ _ _ _ zs _ _ _ HGl.out.lrow HWl.out.lrow (fun b h => Nat.lt_of_lt_of_le h.2 HGlb.out) (fun b h => Nat.lt_of_lt_of_le h.2 HWlb.out) rfl rfl KZ.out).mono ?_
  rintro e v12 ⟨rfl, b3⟩
  have HB := Lib.hid (HB.out.trans (b3.mono HB.out.size))
  have BA := Lib.hid (BA.out.next b3)
  have HWl := Lib.hid (OL.nb HWl.out b3 HWlb.out)
  have HWlb := Lib.hid (Nat.le_trans HWlb.out b3.size)
  have HW := Lib.hid (Owd.nb (G := ltO) HW.out b3 HWb.out)
  have HWb := Lib.hid (Nat.le_trans HWb.out b3.size)
  have BW := Lib.hid (BW.out.next b3)
  have HGl := Lib.hid (OL.nb HGl.out b3 HGlb.out)
  have HGlb := Lib.hid (Nat.le_trans HGlb.out b3.size)
  have HG := Lib.hid (Owd.nb (G := ltO) HG.out b3 HGb.out)
  have HGb := Lib.hid (Nat.le_trans HGb.out b3.size)
  have BG := Lib.hid (BG.out.next b3)
  clear b3
  obtain ⟨a0, a1, a2, a3⟩ := BG.out.four
  have ap := BG.out.1
  go_wp2_with fail
  have hcnt := cnt_lt rs
  have hwt := WR.out
  refine (markLtO (k0 := 1) HG.out (fun b h => Nat.lt_of_lt_of_le h.2 HGb.out) (by omega) (by omega)).mono ?_
  rintro e v13 ⟨rfl, hO, t3⟩
  clear a0 a1 a2 a3 ap
  have hk_HG : ¬ (1 + ((ltM.cnt rs : Nat) : Int) < 0) := by omega
  clear hcnt hwt
  have HB := Lib.hid (Below.nt HB.out t3 HGw.out)
  have BA := Lib.hid (Bx.nt BA.out t3 (Or.inl O_BA_HG.out))
  have HWl := Lib.hid (OL.nt HWl.out t3 (Or.inl O_HWl_HG.out))
  have HWlb := Lib.hid (Nat.le_trans HWlb.out t3.size)
  have HW := Lib.hid (Owd.nt (G := ltO) HW.out t3 (Or.inl O_HW_HG.out))
  have HWb := Lib.hid (Nat.le_trans HWb.out t3.size)
  have BW := Lib.hid (Bx.nt BW.out t3 (Or.inl O_BW_HG.out))
  have HGl := Lib.hid (OL.nt HGl.out t3 (Or.inl O_HGl_HG.out))
  have HGlb := Lib.hid (Nat.le_trans HGlb.out t3.size)
  have HGb := Lib.hid (Nat.le_trans HGb.out t3.size)
  have BG := Lib.hid (Bx.nt BG.out t3 (Or.inr O_HG_BG.out))
  have HG := Lib.hid hO
  clear t3 hO
  go_wp2_with fail
  have hcnt := cnt_lt rs
  have hwt := WR.out
  have wr := WZ.out
  refine (markOInt64S_any AHG _ cHG (1 + ((ltM.cnt rs : Nat) : Int)) zs _ _ HGl.out (by omega) (by omega)).mono ?_
  rintro e v14 ⟨rfl, hO, t3⟩
  clear hcnt hwt wr
  have HB := Lib.hid (Below.nt HB.out t3 HGlw.out)
  have BA := Lib.hid (Bx.nt BA.out t3 (Or.inl O_BA_HGl.out))
  have HWl := Lib.hid (OL.nt HWl.out t3 (Or.inl O_HWl_HGl.out))
  have HWlb := Lib.hid (Nat.le_trans HWlb.out t3.size)
  have HW := Lib.hid (Owd.nt (G := ltO) HW.out t3 (Or.inl O_HW_HGl.out))
  have HWb := Lib.hid (Nat.le_trans HWb.out t3.size)
  have BW := Lib.hid (Bx.nt BW.out t3 (Or.inl O_BW_HGl.out))
  have HGlb := Lib.hid (Nat.le_trans HGlb.out t3.size)
  have HG := Lib.hid (Owd.nt (G := ltO) HG.out t3 (Or.inr O_HGl_HG.out))
  have HGb := Lib.hid (Nat.le_trans HGb.out t3.size)
  have BG := Lib.hid (Bx.nt BG.out t3 (Or.inr O_HGl_BG.out))
  have HGl := Lib.hid hO
  clear t3 hO
  have hq0 : ¬ (1 + ((ltM.cnt rs : Nat) : Int) + ((cntL intM zs : Nat) : Int) < 0) := by omega
  have hqm : ((1 + ((ltM.cnt rs : Nat) : Int) + ((cntL intM zs : Nat) : Int)) != (1 + ((ltM.cnt rs : Nat) : Int) + ((cntL intM zs : Nat) : Int))) = false := by simp
  obtain ⟨a0, a1, a2, a3⟩ := BG.out.four
  have ap := BG.out.1
  go_wp2_with fail
  have hcnt := cnt_lt rs
  have hwt := WR.out
  refine (heldLtR (k0 := 1) (ltO.rd HG.out) (fun b h => Nat.lt_of_lt_of_le h.2 HGb.out) (by omega) (by omega)).mono ?_
  rintro e v15 ⟨rfl, b3⟩
  clear a0 a1 a2 a3 ap
  clear hcnt hwt
  have HB := Lib.hid (HB.out.trans (b3.mono HB.out.size))
  have BA := Lib.hid (BA.out.next b3)
  have HWl := Lib.hid (OL.nb HWl.out b3 HWlb.out)
  have HWlb := Lib.hid (Nat.le_trans HWlb.out b3.size)
  have HW := Lib.hid (Owd.nb (G := ltO) HW.out b3 HWb.out)
  have HWb := Lib.hid (Nat.le_trans HWb.out b3.size)
  have BW := Lib.hid (BW.out.next b3)
  have HGl := Lib.hid (OL.nb HGl.out b3 HGlb.out)
  have HGlb := Lib.hid (Nat.le_trans HGlb.out b3.size)
  have HG := Lib.hid (Owd.nb (G := ltO) HG.out b3 HGb.out)
  have HGb := Lib.hid (Nat.le_trans HGb.out b3.size)
  have BG := Lib.hid (BG.out.next b3)
  clear b3
  go_wp2_with fail
  have hcnt := cnt_lt rs
  have hwt := WR.out
  have wr := WZ.out
  refine (heldOInt64S_any AHG _ cHG (1 + ((ltM.cnt rs : Nat) : Int)) zs _ _ HGl.out.lrow (fun b h => Nat.lt_of_lt_of_le h.2 HGlb.out) rfl HL.out (by omega) (by omega)).mono ?_
  rintro e v16 ⟨rfl, b3⟩
  clear hcnt hwt wr
  have HB := Lib.hid (HB.out.trans (b3.mono HB.out.size))
  have BA := Lib.hid (BA.out.next b3)
  have HWl := Lib.hid (OL.nb HWl.out b3 HWlb.out)
  have HWlb := Lib.hid (Nat.le_trans HWlb.out b3.size)
  have HW := Lib.hid (Owd.nb (G := ltO) HW.out b3 HWb.out)
  have HWb := Lib.hid (Nat.le_trans HWb.out b3.size)
  have BW := Lib.hid (BW.out.next b3)
  have HGl := Lib.hid (OL.nb HGl.out b3 HGlb.out)
  have HGlb := Lib.hid (Nat.le_trans HGlb.out b3.size)
  have HG := Lib.hid (Owd.nb (G := ltO) HG.out b3 HGb.out)
  have HGb := Lib.hid (Nat.le_trans HGb.out b3.size)
  have BG := Lib.hid (BG.out.next b3)
  clear b3
  obtain ⟨a0, a1, a2, a3⟩ := BA.out.four
  have ap := BA.out.1
  go_wp2_with fail
  refine (CT_x.out _ HB.out K_x.out).mono ?_
  rintro e v17 ⟨cst, rfl, hO, b3⟩
  clear a0 a1 a2 a3 ap
  have O_BA_Ht := Lib.hid (BA.out.1)
  have O_HWl_Ht := Lib.hid (HWlb.out)
  have O_HW_Ht := Lib.hid (HWb.out)
  have O_BW_Ht := Lib.hid (BW.out.1)
  have O_HGl_Ht := Lib.hid (HGlb.out)
  have O_HG_Ht := Lib.hid (HGb.out)
  have O_BG_Ht := Lib.hid (BG.out.1)
  have Htw := Lib.hid (HB.out.size)
  have Ht := Lib.hid (hO)
  have HB := Lib.hid (HB.out.trans (b3.mono HB.out.size))
  have BA := Lib.hid (BA.out.next b3)
  have HWl := Lib.hid (OL.nb HWl.out b3 HWlb.out)
  have HWlb := Lib.hid (Nat.le_trans HWlb.out b3.size)
  have HW := Lib.hid (Owd.nb (G := ltO) HW.out b3 HWb.out)
  have HWb := Lib.hid (Nat.le_trans HWb.out b3.size)
  have BW := Lib.hid (BW.out.next b3)
  have HGl := Lib.hid (OL.nb HGl.out b3 HGlb.out)
  have HGlb := Lib.hid (Nat.le_trans HGlb.out b3.size)
  have HG := Lib.hid (Owd.nb (G := ltO) HG.out b3 HGb.out)
  have HGb := Lib.hid (Nat.le_trans HGb.out b3.size)
  have BG := Lib.hid (BG.out.next b3)
  have Htb := Lib.hid (Nat.le_refl v17.heap.size)
  clear b3
  clear hO
  go_wp2_with fail
  refine (CIM.out _ _ _ (ltO.rd Ht.out) (fun b h => Nat.lt_of_lt_of_le h.2 Htb.out) K_x.out (HTB.out.below HB.out)).mono ?_
  rintro e v18 ⟨csHH, AHH, cHH, mid_HHl, rfl, hm1, hm2, hL, hO, b3⟩
  obtain ⟨H1, h1, H2, h2, E_h, rfl, hE⟩ := hO
  have O_BA_HHl := Lib.hid (BA.out.1)
  have O_HWl_HHl := Lib.hid (HWlb.out)
  have O_HW_HHl := Lib.hid (HWb.out)
  have O_BW_HHl := Lib.hid (BW.out.1)
  have O_HGl_HHl := Lib.hid (HGlb.out)
  have O_HG_HHl := Lib.hid (HGb.out)
  have O_BG_HHl := Lib.hid (BG.out.1)
  have O_Ht_HHl := Lib.hid (Htb.out)
  have HHlw := Lib.hid (HB.out.size)
  have HHl := Lib.hid (hL)
  have O_BA_HH := Lib.hid ((Nat.lt_of_lt_of_le BA.out.1 hm1))
  have O_HWl_HH := Lib.hid ((Nat.le_trans HWlb.out hm1))
  have O_HW_HH := Lib.hid ((Nat.le_trans HWb.out hm1))
  have O_BW_HH := Lib.hid ((Nat.lt_of_lt_of_le BW.out.1 hm1))
  have O_HGl_HH := Lib.hid ((Nat.le_trans HGlb.out hm1))
  have O_HG_HH := Lib.hid ((Nat.le_trans HGb.out hm1))
  have O_BG_HH := Lib.hid ((Nat.lt_of_lt_of_le BG.out.1 hm1))
  have O_Ht_HH := Lib.hid ((Nat.le_trans Htb.out hm1))
  have O_HHl_HH := Lib.hid (Nat.le_refl mid_HHl)
  have HHw := Lib.hid ((Nat.le_trans HB.out.size hm1))
  have HH := Lib.hid ((show ltO.O v18 (In mid_HHl v18.heap.size) rs [.int .i64 rs.st, .int .i64 rs.ini, .slice H1 rs.ls.length h1, .slice H2 rs.es.length h2] from ⟨H1, h1, H2, h2, E_h, rfl, hE⟩))
  have HB := Lib.hid (HB.out.trans (b3.mono HB.out.size))
  have BA := Lib.hid (BA.out.next b3)
  have HWl := Lib.hid (OL.nb HWl.out b3 HWlb.out)
  have HWlb := Lib.hid (Nat.le_trans HWlb.out b3.size)
  have HW := Lib.hid (Owd.nb (G := ltO) HW.out b3 HWb.out)
  have HWb := Lib.hid (Nat.le_trans HWb.out b3.size)
  have BW := Lib.hid (BW.out.next b3)
  have HGl := Lib.hid (OL.nb HGl.out b3 HGlb.out)
  have HGlb := Lib.hid (Nat.le_trans HGlb.out b3.size)
  have HG := Lib.hid (Owd.nb (G := ltO) HG.out b3 HGb.out)
  have HGb := Lib.hid (Nat.le_trans HGb.out b3.size)
  have BG := Lib.hid (BG.out.next b3)
  have Ht := Lib.hid (Owd.nb (G := ltO) Ht.out b3 Htb.out)
  have Htb := Lib.hid (Nat.le_trans Htb.out b3.size)
  have HHlb := Lib.hid hm2
  have HHb := Lib.hid (Nat.le_refl v18.heap.size)
  clear b3
  clear hm1 hm2
  clear hE hL
  have b0 : Below v18.heap.size v18 (v18.alloc (.cells #[.int .i64 rs.st, .int .i64 rs.ini, .slice H1 rs.ls.length h1, .slice H2 rs.es.length h2] 32)) := (Below.refl _ _).alloc (Nat.le_refl _) _
  have bx0 : Bx v18.heap.size [.int .i64 rs.st, .int .i64 rs.ini, .slice H1 rs.ls.length h1, .slice H2 rs.es.length h2] (v18.alloc (.cells #[.int .i64 rs.st, .int .i64 rs.ini, .slice H1 rs.ls.length h1, .slice H2 rs.es.length h2] 32)) := Bx.of4 (by simp <;> omega) (by simp [go_sem]) (by simp [go_sem]) (by simp [go_sem]) (by simp [go_sem])
  clear Ht Htb Htw
  obtain ⟨a0, a1, a2, a3⟩ := BW.out.four
  have ap := BW.out.1
  go_wp2_with fail
  refine (eqLtR (Rec.nb (F := ltR) (ltO.rd HH.out) b0 HHb.out) (Rec.nb (F := ltR) (ltO.rd HW.out) b0 HWb.out) (fun b h => Nat.lt_of_lt_of_le h.2 (Nat.le_trans HHb.out b0.size)) (fun b h => Nat.lt_of_lt_of_le h.2 (Nat.le_trans HWb.out b0.size)) KR.out).mono ?_
  rintro e v19 ⟨rfl, b3⟩
  clear a0 a1 a2 a3 ap
  have b4 : Below v18.heap.size v18 v19 := b0.trans (b3.mono b0.size)
  have BH := Lib.hid (bx0.next b3)
  have O_HWl_BH := HWlb
  have O_HW_BH := HWb
  have O_HGl_BH := HGlb
  have O_HG_BH := HGb
  have O_HHl_BH := HHlb
  have O_HH_BH := HHb
  have HB := Lib.hid (HB.out.trans (b4.mono HB.out.size))
  have BA := Lib.hid (BA.out.next b4)
  have HWl := Lib.hid (OL.nb HWl.out b4 HWlb.out)
  have HWlb := Lib.hid (Nat.le_trans HWlb.out b4.size)
  have HW := Lib.hid (Owd.nb (G := ltO) HW.out b4 HWb.out)
  have HWb := Lib.hid (Nat.le_trans HWb.out b4.size)
  have BW := Lib.hid (BW.out.next b4)
  have HGl := Lib.hid (OL.nb HGl.out b4 HGlb.out)
  have HGlb := Lib.hid (Nat.le_trans HGlb.out b4.size)
  have HG := Lib.hid (Owd.nb (G := ltO) HG.out b4 HGb.out)
  have HGb := Lib.hid (Nat.le_trans HGb.out b4.size)
  have BG := Lib.hid (BG.out.next b4)
  have HHl := Lib.hid (OL.nb HHl.out b4 HHlb.out)
  have HHlb := Lib.hid (Nat.le_trans HHlb.out b4.size)
  have HH := Lib.hid (Owd.nb (G := ltO) HH.out b4 HHb.out)
  have HHb := Lib.hid (Nat.le_trans HHb.out b4.size)
  clear b3 b4 b0 bx0
  go_wp2_with fail
  refine (eqDInt64S_yes _ _ _ _ _ _ zs _ _ _ HHl.out.lrow HWl.out.lrow (fun b h => Nat.lt_of_lt_of_le h.2 HHlb.out) (fun b h => Nat.lt_of_lt_of_le h.2 HWlb.out) rfl rfl KZ.out).mono ?_
  rintro e v20 ⟨rfl, b3⟩
  have HB := Lib.hid (HB.out.trans (b3.mono HB.out.size))
  have BA := Lib.hid (BA.out.next b3)
  have HWl := Lib.hid (OL.nb HWl.out b3 HWlb.out)
  have HWlb := Lib.hid (Nat.le_trans HWlb.out b3.size)
  have HW := Lib.hid (Owd.nb (G := ltO) HW.out b3 HWb.out)
  have HWb := Lib.hid (Nat.le_trans HWb.out b3.size)
  have BW := Lib.hid (BW.out.next b3)
  have HGl := Lib.hid (OL.nb HGl.out b3 HGlb.out)
  have HGlb := Lib.hid (Nat.le_trans HGlb.out b3.size)
  have HG := Lib.hid (Owd.nb (G := ltO) HG.out b3 HGb.out)
  have HGb := Lib.hid (Nat.le_trans HGb.out b3.size)
  have BG := Lib.hid (BG.out.next b3)
  have HHl := Lib.hid (OL.nb HHl.out b3 HHlb.out)
  have HHlb := Lib.hid (Nat.le_trans HHlb.out b3.size)
  have HH := Lib.hid (Owd.nb (G := ltO) HH.out b3 HHb.out)
  have HHb := Lib.hid (Nat.le_trans HHb.out b3.size)
  have BH := Lib.hid (BH.out.next b3)
  clear b3
  obtain ⟨a0, a1, a2, a3⟩ := BG.out.four
  have ap := BG.out.1
  go_wp2_with fail
  have hcnt := cnt_lt rs
  have hwt := WR.out
  refine (heldLtR (k0 := 1) (ltO.rd HG.out) (fun b h => Nat.lt_of_lt_of_le h.2 HGb.out) (by omega) (by omega)).mono ?_
  rintro e v21 ⟨rfl, b3⟩
  clear a0 a1 a2 a3 ap
  clear hcnt hwt
  have HB := Lib.hid (HB.out.trans (b3.mono HB.out.size))
  have BA := Lib.hid (BA.out.next b3)
  have HWl := Lib.hid (OL.nb HWl.out b3 HWlb.out)
  have HWlb := Lib.hid (Nat.le_trans HWlb.out b3.size)
  have HW := Lib.hid (Owd.nb (G := ltO) HW.out b3 HWb.out)
  have HWb := Lib.hid (Nat.le_trans HWb.out b3.size)
  have BW := Lib.hid (BW.out.next b3)
  have HGl := Lib.hid (OL.nb HGl.out b3 HGlb.out)
  have HGlb := Lib.hid (Nat.le_trans HGlb.out b3.size)
  have HG := Lib.hid (Owd.nb (G := ltO) HG.out b3 HGb.out)
  have HGb := Lib.hid (Nat.le_trans HGb.out b3.size)
  have BG := Lib.hid (BG.out.next b3)
  have HHl := Lib.hid (OL.nb HHl.out b3 HHlb.out)
  have HHlb := Lib.hid (Nat.le_trans HHlb.out b3.size)
  have HH := Lib.hid (Owd.nb (G := ltO) HH.out b3 HHb.out)
  have HHb := Lib.hid (Nat.le_trans HHb.out b3.size)
  have BH := Lib.hid (BH.out.next b3)
  clear b3
  go_wp2_with fail
  have hcnt := cnt_lt rs
  have hwt := WR.out
  have wr := WZ.out
  refine (heldOInt64S_any AHG _ cHG (1 + ((ltM.cnt rs : Nat) : Int)) zs _ _ HGl.out.lrow (fun b h => Nat.lt_of_lt_of_le h.2 HGlb.out) rfl HL.out (by omega) (by omega)).mono ?_
  rintro e v22 ⟨rfl, b3⟩
  clear hcnt hwt wr
  have HB := Lib.hid (HB.out.trans (b3.mono HB.out.size))
  have BA := Lib.hid (BA.out.next b3)
  have HWl := Lib.hid (OL.nb HWl.out b3 HWlb.out)
  have HWlb := Lib.hid (Nat.le_trans HWlb.out b3.size)
  have HW := Lib.hid (Owd.nb (G := ltO) HW.out b3 HWb.out)
  have HWb := Lib.hid (Nat.le_trans HWb.out b3.size)
  have BW := Lib.hid (BW.out.next b3)
  have HGl := Lib.hid (OL.nb HGl.out b3 HGlb.out)
  have HGlb := Lib.hid (Nat.le_trans HGlb.out b3.size)
  have HG := Lib.hid (Owd.nb (G := ltO) HG.out b3 HGb.out)
  have HGb := Lib.hid (Nat.le_trans HGb.out b3.size)
  have BG := Lib.hid (BG.out.next b3)
  have HHl := Lib.hid (OL.nb HHl.out b3 HHlb.out)
  have HHlb := Lib.hid (Nat.le_trans HHlb.out b3.size)
  have HH := Lib.hid (Owd.nb (G := ltO) HH.out b3 HHb.out)
  have HHb := Lib.hid (Nat.le_trans HHb.out b3.size)
  have BH := Lib.hid (BH.out.next b3)
  clear b3
  go_wp2
  go_ret
  exact ⟨rfl, HB.out⟩
end Go.Proofs.YtbailpfjgjcbdaaGreatDoor
