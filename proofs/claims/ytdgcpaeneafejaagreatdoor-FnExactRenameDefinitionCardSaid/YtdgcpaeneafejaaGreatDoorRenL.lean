/- The law of RenameDefinition, walked. -/
import Derived.Deep.RegionHeld3
import Derived.BigQuiet
import Derived.Outline
import Derived.Test.YtdgcpaeneafejaaGreatDoorRen
import Derived.Test.YtdgcpaeneafejaaGreatDoorLawR
import Derived.Test.YtdgcpaeneafejaaGreatDoorMrkS
import Derived.Test.YtdgcpaeneafejaaGreatDoorRnK
namespace Go.Proofs.YtdgcpaeneafejaaGreatDoor
open Go.RowKit
set_option maxRecDepth 100000 in
set_option maxHeartbeats 8000000 in
theorem lawRenameDefinition_any (x : Sy) (cs_x : List Value) (k : Int) (t : ByteArray) (w : World) (h_x : syR.R w (· < w.heap.size) x cs_x) (z_t : t.size ≤ maxLen) (ht : FormTab w) :
    Calls Tryz.prog 6 #[.agg cs_x.toArray, .int .i64 k, .string t] w fun e w' => e = .returned (.bool true) ∧ Below w.heap.size w w' := by
  have HTB := Lib.hid ht
  have LT := Lib.hid (fun (W : World) (hW : Below w.heap.size w W) (b : Nat) (h : b < w.heap.size) => Nat.lt_of_lt_of_le h hW.size)
  have CZ_x := Lib.hid (fun (W : World) (hW : Below w.heap.size w W) (r : Int) (r0 : 0 ≤ r) (r1 : r ≤ 1048576) => szR (syR.keep h_x (SameOn.of_below hW fun _ h => h)) (LT.out W hW) r0 r1)
  have CT_x := Lib.hid (fun (W : World) (hW : Below w.heap.size w W) (ok : okSy x) => toRO (syR.keep h_x (SameOn.of_below hW fun _ h => h)) (LT.out W hW) ok)
  have CSP := Lib.hid (fun (W : World) (S : Nat → Prop) (cs : List Value) (h : syR.R W S x cs) (hS : ∀ b, S b → b < W.heap.size) (ok : okSy x) => sRenR k t z_t h hS ok)
  have CIM := Lib.hid (fun (W : World) (S : Nat → Prop) (cs : List Value) (h : syR.R W S x cs) (hS : ∀ b, S b → b < W.heap.size) (ok : okSy x) (ht : FormTab W) => iRenR k t z_t h hS ok ht)
  have CKR := Lib.hid (fun (ok : okSy x) (h_t : t.size ≤ 1048576) => (ok_rn ok h_t : okSy (rnS x k t)))
  have CWR := Lib.hid (wt_rn x k t)
  generalize rnS x k t = rs at *
  generalize rnC x k t = rc at *
  clear z_t
  obtain ⟨A_x1, c_x1, A_x2, c_x2, A_x3, c_x3, A_x4, c_x4, A_x5, c_x5, rfl, _⟩ := h_x
  have hne : (rc != rc) = false := by simp
  clear ht
  go_enter Tryz.func6, Tryz.ntmps6
  by_cases hl_t : 1048576 < t.size
  · have hp_t : (1048576 : Int) < (t.size : Int) := by omega
    go_wp2
    go_ret
    exact ⟨rfl, by repeat (first | exact Below.refl _ _ | refine Below.alloc ?_ (by simp <;> omega) _)⟩
  have hn_t : ¬ (1048576 : Int) < (t.size : Int) := by omega
  have hs_t := Lib.hid (show t.size ≤ 1048576 by omega)
  clear hl_t
  go_wp2_with fail
  refine (CZ_x.out _ (by repeat (first | exact Below.refl _ _ | refine Below.alloc ?_ (by simp <;> omega) _)) _ (by omega) (by omega)).mono ?_
  rintro e v1 ⟨q_x, rfl, hq, b3⟩
  have b0 : ∀ o : Obj, Below w.heap.size w (w.alloc o) := fun o => (Below.refl _ _).alloc (Nat.le_refl _) o
  have BA := Lib.hid ((Bx.of (b := w.heap.size) (v0 := .slice A_x1 x.ds.length c_x1) (v1 := .slice A_x2 x.cs.length c_x2) (v2 := .slice A_x3 x.ms.length c_x3) (v3 := .slice A_x4 x.al.length c_x4) (v4 := .slice A_x5 x.hd.length c_x5) (by simp <;> omega) (by simp [go_sem]) (by simp [go_sem]) (by simp [go_sem]) (by simp [go_sem]) (by simp [go_sem])).next b3)
  have HB := Lib.hid ((b0 _).trans (b3.mono (by simp)))
  clear b0
  clear b3
  rcases hq with hq | ⟨hp_x, hl_x, hok⟩
  · go_wp2
    go_ret
    exact ⟨rfl, HB.out⟩
  have hn_x : ¬ q_x < 0 := by omega
  have K_x := Lib.hid hok
  have WT_x := Lib.hid (show wtSy x ≤ 1048576 by omega)
  have KR := Lib.hid (CKR.out hok hs_t.out)
  have WR := Lib.hid (show wtSy rs ≤ 1048576 from Nat.le_trans CWR.out WT_x.out)
  clear hok CZ_x CKR CWR hp_x hl_x hs_t
  obtain ⟨a0, a1, a2, a3, a4⟩ := BA.out.five
  have ap := BA.out.1
  go_wp2_with fail
  refine (CT_x.out _ HB.out K_x.out).mono ?_
  rintro e v2 ⟨css, rfl, hO, b3⟩
  clear a0 a1 a2 a3 a4 ap
  have O_BA_Hs := Lib.hid BA.out.1
  have Hsw := Lib.hid HB.out.size
  have Hs := Lib.hid (hO)
  have HB := Lib.hid (HB.out.trans (b3.mono HB.out.size))
  have BA := Lib.hid (BA.out.next b3)
  have Hsb := Lib.hid (Nat.le_refl v2.heap.size)
  clear b3
  clear hO
  go_wp2_with fail
  refine (CSP.out _ _ _ (syO.rd Hs.out) (fun b h => Nat.lt_of_lt_of_le h.2 Hsb.out) K_x.out).mono ?_
  rintro e v3 ⟨csHW, rfl, hO, b3⟩
  obtain ⟨W1, e1, W2, e2, W3, e3, W4, e4, W5, e5, E_w, rfl, hE⟩ := hO
  have O_BA_HW := Lib.hid BA.out.1
  have O_Hs_HW := Hsb
  have HWw := Lib.hid HB.out.size
  have HW := Lib.hid ((show syO.O v3 (In v2.heap.size v3.heap.size) rs [.slice W1 rs.ds.length e1, .slice W2 rs.cs.length e2, .slice W3 rs.ms.length e3, .slice W4 rs.al.length e4, .slice W5 rs.hd.length e5] from ⟨W1, e1, W2, e2, W3, e3, W4, e4, W5, e5, E_w, rfl, hE⟩))
  have HB := Lib.hid (HB.out.trans (b3.mono HB.out.size))
  have BA := Lib.hid (BA.out.next b3)
  have Hs := Lib.hid (Owd.nb (G := syO) Hs.out b3 Hsb.out)
  have Hsb := Lib.hid (Nat.le_trans Hsb.out b3.size)
  have HWb := Lib.hid (Nat.le_refl v3.heap.size)
  clear b3
  clear hE
  have b0 : Below v3.heap.size v3 (v3.alloc (.cells #[.slice W1 rs.ds.length e1, .slice W2 rs.cs.length e2, .slice W3 rs.ms.length e3, .slice W4 rs.al.length e4, .slice W5 rs.hd.length e5] 35)) := (Below.refl _ _).alloc (Nat.le_refl _) _
  have bx0 : Bx v3.heap.size [.slice W1 rs.ds.length e1, .slice W2 rs.cs.length e2, .slice W3 rs.ms.length e3, .slice W4 rs.al.length e4, .slice W5 rs.hd.length e5] (v3.alloc (.cells #[.slice W1 rs.ds.length e1, .slice W2 rs.cs.length e2, .slice W3 rs.ms.length e3, .slice W4 rs.al.length e4, .slice W5 rs.hd.length e5] 35)) := Bx.of (by simp <;> omega) (by simp [go_sem]) (by simp [go_sem]) (by simp [go_sem]) (by simp [go_sem]) (by simp [go_sem])
  obtain ⟨a0, a1, a2, a3, a4⟩ := BA.out.five
  have ap := BA.out.1
  go_wp2_with fail
  refine (CT_x.out _ (HB.out.trans (b0.mono HB.out.size)) K_x.out).mono ?_
  rintro e v4 ⟨cs0, rfl, hO, b3⟩
  clear a0 a1 a2 a3 a4 ap
  have hO := syO.more (S' := In (v3.heap.size + 1) v4.heap.size) hO fun b h => ⟨by have := h.1; simpa using this, h.2⟩
  obtain ⟨D1, d1, D2, d2, D3, d3, D4, d4, D5, d5, E_x, rfl, hE⟩ := hO
  have b4 : Below v3.heap.size v3 v4 := b0.trans (b3.mono b0.size)
  have BW := Lib.hid (bx0.next b3)
  have O_BA_Hx := Lib.hid (Nat.lt_succ_of_lt BA.out.1)
  have O_Hs_Hx := Lib.hid (Nat.le_succ_of_le Hsb.out)
  have O_HW_Hx := Lib.hid (Nat.le_succ_of_le HWb.out)
  have O_BW_Hx := Lib.hid (Nat.lt_succ_self v3.heap.size)
  have Hxw := Lib.hid (Nat.le_succ_of_le HB.out.size)
  have Hx := Lib.hid ((show syO.O v4 (In (v3.heap.size + 1) v4.heap.size) x [.slice D1 x.ds.length d1, .slice D2 x.cs.length d2, .slice D3 x.ms.length d3, .slice D4 x.al.length d4, .slice D5 x.hd.length d5] from ⟨D1, d1, D2, d2, D3, d3, D4, d4, D5, d5, E_x, rfl, hE⟩))
  have O_Hs_BW := Hsb
  have O_HW_BW := HWb
  have HB := Lib.hid (HB.out.trans (b4.mono HB.out.size))
  have BA := Lib.hid (BA.out.next b4)
  have Hs := Lib.hid (Owd.nb (G := syO) Hs.out b4 Hsb.out)
  have Hsb := Lib.hid (Nat.le_trans Hsb.out b4.size)
  have HW := Lib.hid (Owd.nb (G := syO) HW.out b4 HWb.out)
  have HWb := Lib.hid (Nat.le_trans HWb.out b4.size)
  have Hxb := Lib.hid (Nat.le_refl v4.heap.size)
  clear b3 b4 b0 bx0
  clear hE
  have b0 : Below v4.heap.size v4 (v4.alloc (.cells #[.slice D1 x.ds.length d1, .slice D2 x.cs.length d2, .slice D3 x.ms.length d3, .slice D4 x.al.length d4, .slice D5 x.hd.length d5] 35)) := (Below.refl _ _).alloc (Nat.le_refl _) _
  have bx0 : Bx v4.heap.size [.slice D1 x.ds.length d1, .slice D2 x.cs.length d2, .slice D3 x.ms.length d3, .slice D4 x.al.length d4, .slice D5 x.hd.length d5] (v4.alloc (.cells #[.slice D1 x.ds.length d1, .slice D2 x.cs.length d2, .slice D3 x.ms.length d3, .slice D4 x.al.length d4, .slice D5 x.hd.length d5] 35)) := Bx.of (by simp <;> omega) (by simp [go_sem]) (by simp [go_sem]) (by simp [go_sem]) (by simp [go_sem]) (by simp [go_sem])
  clear Hs Hsb Hsw
  go_wp2_with fail
  refine (CIM.out _ _ _ (Rec.nb (F := syR) (syO.rd Hx.out) b0 Hxb.out) (fun b h => Nat.lt_of_lt_of_le h.2 (Nat.le_trans Hxb.out b0.size)) K_x.out (HTB.out.below (HB.out.trans (b0.mono HB.out.size)))).mono ?_
  rintro e v5 ⟨csHG, rfl, hO, b3⟩
  have hO := syO.more (S' := In (v4.heap.size + 1) v5.heap.size) hO fun b h => ⟨by have := h.1; simpa using this, h.2⟩
  obtain ⟨G1, g1, G2, g2, G3, g3, G4, g4, G5, g5, E_g, rfl, hE⟩ := hO
  have b4 : Below v4.heap.size v4 v5 := b0.trans (b3.mono b0.size)
  have BX := Lib.hid (bx0.next b3)
  have O_BA_HG := Lib.hid (Nat.lt_succ_of_lt BA.out.1)
  have O_HW_HG := Lib.hid (Nat.le_succ_of_le HWb.out)
  have O_Hx_HG := Lib.hid (Nat.le_succ_of_le Hxb.out)
  have O_BW_HG := Lib.hid (Nat.lt_succ_of_lt BW.out.1)
  have O_BX_HG := Lib.hid (Nat.lt_succ_self v4.heap.size)
  have HGw := Lib.hid (Nat.le_succ_of_le HB.out.size)
  have HG := Lib.hid ((show syO.O v5 (In (v4.heap.size + 1) v5.heap.size) rs [.slice G1 rs.ds.length g1, .slice G2 rs.cs.length g2, .slice G3 rs.ms.length g3, .slice G4 rs.al.length g4, .slice G5 rs.hd.length g5] from ⟨G1, g1, G2, g2, G3, g3, G4, g4, G5, g5, E_g, rfl, hE⟩))
  have O_HW_BX := HWb
  have O_Hx_BX := Hxb
  have HB := Lib.hid (HB.out.trans (b4.mono HB.out.size))
  have BA := Lib.hid (BA.out.next b4)
  have HW := Lib.hid (Owd.nb (G := syO) HW.out b4 HWb.out)
  have HWb := Lib.hid (Nat.le_trans HWb.out b4.size)
  have Hx := Lib.hid (Owd.nb (G := syO) Hx.out b4 Hxb.out)
  have Hxb := Lib.hid (Nat.le_trans Hxb.out b4.size)
  have BW := Lib.hid (BW.out.next b4)
  have HGb := Lib.hid (Nat.le_refl v5.heap.size)
  clear b3 b4 b0 bx0
  clear hE
  have b0 : Below v5.heap.size v5 (v5.alloc (.cells #[.slice G1 rs.ds.length g1, .slice G2 rs.cs.length g2, .slice G3 rs.ms.length g3, .slice G4 rs.al.length g4, .slice G5 rs.hd.length g5] 35)) := (Below.refl _ _).alloc (Nat.le_refl _) _
  have bx0 : Bx v5.heap.size [.slice G1 rs.ds.length g1, .slice G2 rs.cs.length g2, .slice G3 rs.ms.length g3, .slice G4 rs.al.length g4, .slice G5 rs.hd.length g5] (v5.alloc (.cells #[.slice G1 rs.ds.length g1, .slice G2 rs.cs.length g2, .slice G3 rs.ms.length g3, .slice G4 rs.al.length g4, .slice G5 rs.hd.length g5] 35)) := Bx.of (by simp <;> omega) (by simp [go_sem]) (by simp [go_sem]) (by simp [go_sem]) (by simp [go_sem]) (by simp [go_sem])
  obtain ⟨a0, a1, a2, a3, a4⟩ := BW.out.five
  have ap := BW.out.1
  go_wp2_with fail
  refine (eqR (Rec.nb (F := syR) (syO.rd HG.out) b0 HGb.out) (Rec.nb (F := syR) (syO.rd HW.out) b0 HWb.out) (fun b h => Nat.lt_of_lt_of_le h.2 (Nat.le_trans HGb.out b0.size)) (fun b h => Nat.lt_of_lt_of_le h.2 (Nat.le_trans HWb.out b0.size)) KR.out).mono ?_
  rintro e v6 ⟨rfl, b3⟩
  clear a0 a1 a2 a3 a4 ap
  have b4 : Below v5.heap.size v5 v6 := b0.trans (b3.mono b0.size)
  have BG := Lib.hid (bx0.next b3)
  have O_HW_BG := HWb
  have O_Hx_BG := Hxb
  have O_HG_BG := HGb
  have HB := Lib.hid (HB.out.trans (b4.mono HB.out.size))
  have BA := Lib.hid (BA.out.next b4)
  have HW := Lib.hid (Owd.nb (G := syO) HW.out b4 HWb.out)
  have HWb := Lib.hid (Nat.le_trans HWb.out b4.size)
  have Hx := Lib.hid (Owd.nb (G := syO) Hx.out b4 Hxb.out)
  have Hxb := Lib.hid (Nat.le_trans Hxb.out b4.size)
  have BW := Lib.hid (BW.out.next b4)
  have HG := Lib.hid (Owd.nb (G := syO) HG.out b4 HGb.out)
  have HGb := Lib.hid (Nat.le_trans HGb.out b4.size)
  have BX := Lib.hid (BX.out.next b4)
  clear b3 b4 b0 bx0
  have HS := Lib.hid (fun (W : World) (hW : Below v6.heap.size v6 W) => (⟨hW, (BX.out.next hW).five, (BA.out.next hW).five⟩ : Below v6.heap.size v6 W ∧ (W.cell? ⟨v4.heap.size, 0, none⟩ = some (.slice D1 x.ds.length d1) ∧ W.cell? ⟨v4.heap.size, 1, none⟩ = some (.slice D2 x.cs.length d2) ∧ W.cell? ⟨v4.heap.size, 2, none⟩ = some (.slice D3 x.ms.length d3) ∧ W.cell? ⟨v4.heap.size, 3, none⟩ = some (.slice D4 x.al.length d4) ∧ W.cell? ⟨v4.heap.size, 4, none⟩ = some (.slice D5 x.hd.length d5)) ∧ (W.cell? ⟨w.heap.size, 0, none⟩ = some (.slice A_x1 x.ds.length c_x1) ∧ W.cell? ⟨w.heap.size, 1, none⟩ = some (.slice A_x2 x.cs.length c_x2) ∧ W.cell? ⟨w.heap.size, 2, none⟩ = some (.slice A_x3 x.ms.length c_x3) ∧ W.cell? ⟨w.heap.size, 3, none⟩ = some (.slice A_x4 x.al.length c_x4) ∧ W.cell? ⟨w.heap.size, 4, none⟩ = some (.slice A_x5 x.hd.length c_x5))))
  have HV := Lib.hid (Below.refl v6.heap.size v6)
  have HBO := Lib.hid (fun (W : World) (hW : Below v6.heap.size v6 W) => HB.out.trans (hW.mono HB.out.size))
  go_wp2
  go_region_held3 (fun W => Below v6.heap.size v6 W ∧ (W.cell? ⟨v4.heap.size, 0, none⟩ = some (.slice D1 x.ds.length d1) ∧ W.cell? ⟨v4.heap.size, 1, none⟩ = some (.slice D2 x.cs.length d2) ∧ W.cell? ⟨v4.heap.size, 2, none⟩ = some (.slice D3 x.ms.length d3) ∧ W.cell? ⟨v4.heap.size, 3, none⟩ = some (.slice D4 x.al.length d4) ∧ W.cell? ⟨v4.heap.size, 4, none⟩ = some (.slice D5 x.hd.length d5)) ∧ (W.cell? ⟨w.heap.size, 0, none⟩ = some (.slice A_x1 x.ds.length c_x1) ∧ W.cell? ⟨w.heap.size, 1, none⟩ = some (.slice A_x2 x.cs.length c_x2) ∧ W.cell? ⟨w.heap.size, 2, none⟩ = some (.slice A_x3 x.ms.length c_x3) ∧ W.cell? ⟨w.heap.size, 3, none⟩ = some (.slice A_x4 x.al.length c_x4) ∧ W.cell? ⟨w.heap.size, 4, none⟩ = some (.slice A_x5 x.hd.length c_x5))) (exact HS.out _ (by first | exact HV.out.drew | exact HV.out)) (first
    | (go_at_call 11; (with_reducible refine (CT_x.out _ (by first | exact HBO.out _ HV.out.drew | exact HBO.out _ HV.out) K_x.out).mono ?_); rintro e v7 ⟨cs5, rfl, hR, b3⟩; have HV := Lib.hid (Below.trans (by first | exact HV.out | exact HV.out.drew) (b3.mono (by first | exact Nat.le_refl _ | exact HV.out.size))); have HR5 := Lib.hid (syO.rd hR); clear hR b3)
    | (go_at_call 13; refine (eqR (Rec.nb (F := syR) (syO.rd Hx.out) HV.out Hxb.out) HR5.out (fun b h => Nat.lt_of_lt_of_le h.2 (Nat.le_trans Hxb.out HV.out.size)) (fun b h => h.2) K_x.out).mono ?_; rintro e v8 ⟨rfl, b3⟩; have HV := Lib.hid (HV.out.trans (b3.mono HV.out.size)); clear b3))
  clear HS HBO HR5
  have HB := Lib.hid (HB.out.trans (HV.out.mono HB.out.size))
  have BA := Lib.hid (BA.out.next HV.out)
  have HW := Lib.hid (Owd.nb (G := syO) HW.out HV.out HWb.out)
  have HWb := Lib.hid (Nat.le_trans HWb.out HV.out.size)
  have Hx := Lib.hid (Owd.nb (G := syO) Hx.out HV.out Hxb.out)
  have Hxb := Lib.hid (Nat.le_trans Hxb.out HV.out.size)
  have BW := Lib.hid (BW.out.next HV.out)
  have HG := Lib.hid (Owd.nb (G := syO) HG.out HV.out HGb.out)
  have HGb := Lib.hid (Nat.le_trans HGb.out HV.out.size)
  have BX := Lib.hid (BX.out.next HV.out)
  have BG := Lib.hid (BG.out.next HV.out)
  clear HV
  obtain ⟨a0, a1, a2, a3, a4⟩ := BX.out.five
  have ap := BX.out.1
  go_wp2_with fail
  have hcnt := cnt_sy x
  have hwt := WT_x.out
  refine (markSyO (k0 := 1) Hx.out (fun b h => Nat.lt_of_lt_of_le h.2 Hxb.out) (by omega) (by omega)).mono ?_
  rintro e v9 ⟨rfl, hO, t3⟩
  clear a0 a1 a2 a3 a4 ap
  have hk_Hx : ¬ (1 + ((syM.cnt x : Nat) : Int) < 0) := by omega
  clear hcnt hwt
  have HB := Lib.hid (Below.nt HB.out t3 Hxw.out)
  have BA := Lib.hid (Bx.nt BA.out t3 (Or.inl O_BA_Hx.out))
  have HW := Lib.hid (Owd.nt (G := syO) HW.out t3 (Or.inl O_HW_Hx.out))
  have HWb := Lib.hid (Nat.le_trans HWb.out t3.size)
  have Hxb := Lib.hid (Nat.le_trans Hxb.out t3.size)
  have BW := Lib.hid (Bx.nt BW.out t3 (Or.inl O_BW_Hx.out))
  have HG := Lib.hid (Owd.nt (G := syO) HG.out t3 (Or.inr O_Hx_HG.out))
  have HGb := Lib.hid (Nat.le_trans HGb.out t3.size)
  have BX := Lib.hid (Bx.nt BX.out t3 (Or.inr O_Hx_BX.out))
  have BG := Lib.hid (Bx.nt BG.out t3 (Or.inr O_Hx_BG.out))
  have Hx := Lib.hid hO
  clear t3 hO
  clear Hx Hxb Hxw
  clear BX
  obtain ⟨a0, a1, a2, a3, a4⟩ := BW.out.five
  have ap := BW.out.1
  obtain ⟨m0, m1, m2, m3, m4⟩ := BG.out.five
  have mp := BG.out.1
  go_wp2_with fail
  refine (eqR (syO.rd HG.out) (syO.rd HW.out) (fun b h => Nat.lt_of_lt_of_le h.2 HGb.out) (fun b h => Nat.lt_of_lt_of_le h.2 HWb.out) KR.out).mono ?_
  rintro e v10 ⟨rfl, b3⟩
  clear a0 a1 a2 a3 a4 ap
  clear m0 m1 m2 m3 m4 mp
  have HB := Lib.hid (HB.out.trans (b3.mono HB.out.size))
  have BA := Lib.hid (BA.out.next b3)
  have HW := Lib.hid (Owd.nb (G := syO) HW.out b3 HWb.out)
  have HWb := Lib.hid (Nat.le_trans HWb.out b3.size)
  have BW := Lib.hid (BW.out.next b3)
  have HG := Lib.hid (Owd.nb (G := syO) HG.out b3 HGb.out)
  have HGb := Lib.hid (Nat.le_trans HGb.out b3.size)
  have BG := Lib.hid (BG.out.next b3)
  clear b3
  obtain ⟨a0, a1, a2, a3, a4⟩ := BG.out.five
  have ap := BG.out.1
  go_wp2_with fail
  have hcnt := cnt_sy rs
  have hwt := WR.out
  refine (markSyO (k0 := 1) HG.out (fun b h => Nat.lt_of_lt_of_le h.2 HGb.out) (by omega) (by omega)).mono ?_
  rintro e v11 ⟨rfl, hO, t3⟩
  clear a0 a1 a2 a3 a4 ap
  have hk_HG : ¬ (1 + ((syM.cnt rs : Nat) : Int) < 0) := by omega
  clear hcnt hwt
  have HB := Lib.hid (Below.nt HB.out t3 HGw.out)
  have BA := Lib.hid (Bx.nt BA.out t3 (Or.inl O_BA_HG.out))
  have HW := Lib.hid (Owd.nt (G := syO) HW.out t3 (Or.inl O_HW_HG.out))
  have HWb := Lib.hid (Nat.le_trans HWb.out t3.size)
  have BW := Lib.hid (Bx.nt BW.out t3 (Or.inl O_BW_HG.out))
  have HGb := Lib.hid (Nat.le_trans HGb.out t3.size)
  have BG := Lib.hid (Bx.nt BG.out t3 (Or.inr O_HG_BG.out))
  have HG := Lib.hid hO
  clear t3 hO
  have hqm : ((1 + ((syM.cnt rs : Nat) : Int)) != (1 + ((syM.cnt rs : Nat) : Int))) = false := by simp
  obtain ⟨a0, a1, a2, a3, a4⟩ := BG.out.five
  have ap := BG.out.1
  go_wp2_with fail
  have hcnt := cnt_sy rs
  have hwt := WR.out
  refine (heldSyR (k0 := 1) (syO.rd HG.out) (fun b h => Nat.lt_of_lt_of_le h.2 HGb.out) (by omega) (by omega)).mono ?_
  rintro e v12 ⟨rfl, b3⟩
  clear a0 a1 a2 a3 a4 ap
  clear hcnt hwt
  have HB := Lib.hid (HB.out.trans (b3.mono HB.out.size))
  have BA := Lib.hid (BA.out.next b3)
  have HW := Lib.hid (Owd.nb (G := syO) HW.out b3 HWb.out)
  have HWb := Lib.hid (Nat.le_trans HWb.out b3.size)
  have BW := Lib.hid (BW.out.next b3)
  have HG := Lib.hid (Owd.nb (G := syO) HG.out b3 HGb.out)
  have HGb := Lib.hid (Nat.le_trans HGb.out b3.size)
  have BG := Lib.hid (BG.out.next b3)
  clear b3
  obtain ⟨a0, a1, a2, a3, a4⟩ := BA.out.five
  have ap := BA.out.1
  go_wp2_with fail
  refine (CT_x.out _ HB.out K_x.out).mono ?_
  rintro e v13 ⟨cst, rfl, hO, b3⟩
  clear a0 a1 a2 a3 a4 ap
  have O_BA_Ht := Lib.hid BA.out.1
  have O_HW_Ht := HWb
  have O_BW_Ht := Lib.hid BW.out.1
  have O_HG_Ht := HGb
  have O_BG_Ht := Lib.hid BG.out.1
  have Htw := Lib.hid HB.out.size
  have Ht := Lib.hid (hO)
  have HB := Lib.hid (HB.out.trans (b3.mono HB.out.size))
  have BA := Lib.hid (BA.out.next b3)
  have HW := Lib.hid (Owd.nb (G := syO) HW.out b3 HWb.out)
  have HWb := Lib.hid (Nat.le_trans HWb.out b3.size)
  have BW := Lib.hid (BW.out.next b3)
  have HG := Lib.hid (Owd.nb (G := syO) HG.out b3 HGb.out)
  have HGb := Lib.hid (Nat.le_trans HGb.out b3.size)
  have BG := Lib.hid (BG.out.next b3)
  have Htb := Lib.hid (Nat.le_refl v13.heap.size)
  clear b3
  clear hO
  go_wp2_with fail
  refine (CIM.out _ _ _ (syO.rd Ht.out) (fun b h => Nat.lt_of_lt_of_le h.2 Htb.out) K_x.out (HTB.out.below HB.out)).mono ?_
  rintro e v14 ⟨csHH, rfl, hO, b3⟩
  obtain ⟨H1, h1, H2, h2, H3, h3, H4, h4, H5, h5, E_h, rfl, hE⟩ := hO
  have O_BA_HH := Lib.hid BA.out.1
  have O_HW_HH := HWb
  have O_BW_HH := Lib.hid BW.out.1
  have O_HG_HH := HGb
  have O_BG_HH := Lib.hid BG.out.1
  have O_Ht_HH := Htb
  have HHw := Lib.hid HB.out.size
  have HH := Lib.hid ((show syO.O v14 (In v13.heap.size v14.heap.size) rs [.slice H1 rs.ds.length h1, .slice H2 rs.cs.length h2, .slice H3 rs.ms.length h3, .slice H4 rs.al.length h4, .slice H5 rs.hd.length h5] from ⟨H1, h1, H2, h2, H3, h3, H4, h4, H5, h5, E_h, rfl, hE⟩))
  have HB := Lib.hid (HB.out.trans (b3.mono HB.out.size))
  have BA := Lib.hid (BA.out.next b3)
  have HW := Lib.hid (Owd.nb (G := syO) HW.out b3 HWb.out)
  have HWb := Lib.hid (Nat.le_trans HWb.out b3.size)
  have BW := Lib.hid (BW.out.next b3)
  have HG := Lib.hid (Owd.nb (G := syO) HG.out b3 HGb.out)
  have HGb := Lib.hid (Nat.le_trans HGb.out b3.size)
  have BG := Lib.hid (BG.out.next b3)
  have Ht := Lib.hid (Owd.nb (G := syO) Ht.out b3 Htb.out)
  have Htb := Lib.hid (Nat.le_trans Htb.out b3.size)
  have HHb := Lib.hid (Nat.le_refl v14.heap.size)
  clear b3
  clear hE
  have b0 : Below v14.heap.size v14 (v14.alloc (.cells #[.slice H1 rs.ds.length h1, .slice H2 rs.cs.length h2, .slice H3 rs.ms.length h3, .slice H4 rs.al.length h4, .slice H5 rs.hd.length h5] 35)) := (Below.refl _ _).alloc (Nat.le_refl _) _
  have bx0 : Bx v14.heap.size [.slice H1 rs.ds.length h1, .slice H2 rs.cs.length h2, .slice H3 rs.ms.length h3, .slice H4 rs.al.length h4, .slice H5 rs.hd.length h5] (v14.alloc (.cells #[.slice H1 rs.ds.length h1, .slice H2 rs.cs.length h2, .slice H3 rs.ms.length h3, .slice H4 rs.al.length h4, .slice H5 rs.hd.length h5] 35)) := Bx.of (by simp <;> omega) (by simp [go_sem]) (by simp [go_sem]) (by simp [go_sem]) (by simp [go_sem]) (by simp [go_sem])
  clear Ht Htb Htw
  obtain ⟨a0, a1, a2, a3, a4⟩ := BW.out.five
  have ap := BW.out.1
  go_wp2_with fail
  refine (eqR (Rec.nb (F := syR) (syO.rd HH.out) b0 HHb.out) (Rec.nb (F := syR) (syO.rd HW.out) b0 HWb.out) (fun b h => Nat.lt_of_lt_of_le h.2 (Nat.le_trans HHb.out b0.size)) (fun b h => Nat.lt_of_lt_of_le h.2 (Nat.le_trans HWb.out b0.size)) KR.out).mono ?_
  rintro e v15 ⟨rfl, b3⟩
  clear a0 a1 a2 a3 a4 ap
  have b4 : Below v14.heap.size v14 v15 := b0.trans (b3.mono b0.size)
  have BH := Lib.hid (bx0.next b3)
  have O_HW_BH := HWb
  have O_HG_BH := HGb
  have O_HH_BH := HHb
  have HB := Lib.hid (HB.out.trans (b4.mono HB.out.size))
  have BA := Lib.hid (BA.out.next b4)
  have HW := Lib.hid (Owd.nb (G := syO) HW.out b4 HWb.out)
  have HWb := Lib.hid (Nat.le_trans HWb.out b4.size)
  have BW := Lib.hid (BW.out.next b4)
  have HG := Lib.hid (Owd.nb (G := syO) HG.out b4 HGb.out)
  have HGb := Lib.hid (Nat.le_trans HGb.out b4.size)
  have BG := Lib.hid (BG.out.next b4)
  have HH := Lib.hid (Owd.nb (G := syO) HH.out b4 HHb.out)
  have HHb := Lib.hid (Nat.le_trans HHb.out b4.size)
  clear b3 b4 b0 bx0
  obtain ⟨a0, a1, a2, a3, a4⟩ := BG.out.five
  have ap := BG.out.1
  go_wp2_with fail
  have hcnt := cnt_sy rs
  have hwt := WR.out
  refine (heldSyR (k0 := 1) (syO.rd HG.out) (fun b h => Nat.lt_of_lt_of_le h.2 HGb.out) (by omega) (by omega)).mono ?_
  rintro e v16 ⟨rfl, b3⟩
  clear a0 a1 a2 a3 a4 ap
  clear hcnt hwt
  have HB := Lib.hid (HB.out.trans (b3.mono HB.out.size))
  have BA := Lib.hid (BA.out.next b3)
  have HW := Lib.hid (Owd.nb (G := syO) HW.out b3 HWb.out)
  have HWb := Lib.hid (Nat.le_trans HWb.out b3.size)
  have BW := Lib.hid (BW.out.next b3)
  have HG := Lib.hid (Owd.nb (G := syO) HG.out b3 HGb.out)
  have HGb := Lib.hid (Nat.le_trans HGb.out b3.size)
  have BG := Lib.hid (BG.out.next b3)
  have HH := Lib.hid (Owd.nb (G := syO) HH.out b3 HHb.out)
  have HHb := Lib.hid (Nat.le_trans HHb.out b3.size)
  have BH := Lib.hid (BH.out.next b3)
  clear b3
  go_wp2
  go_ret
  exact ⟨rfl, HB.out⟩
end Go.Proofs.YtdgcpaeneafejaaGreatDoor
