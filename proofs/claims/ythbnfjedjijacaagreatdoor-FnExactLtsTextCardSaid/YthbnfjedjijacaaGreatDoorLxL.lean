/- The law of LtsText, walked. -/
import Derived.Deep.RegionHeld3
import Derived.BigQuiet
import Derived.Outline
import Derived.Test.YthbnfjedjijacaaGreatDoorLxS
import Derived.Test.YthbnfjedjijacaaGreatDoorLxK
import Derived.Test.YthbnfjedjijacaaGreatDoorLtK
import Derived.Test.YthbnfjedjijacaaGreatDoorLawB
namespace Go.Proofs.YthbnfjedjijacaaGreatDoor
open Go.RowKit
set_option maxRecDepth 100000 in
set_option maxHeartbeats 8000000 in
theorem lawLtsText_any (x : Lt) (cs_x : List Value) (w : World) (h_x : ltR.R w (· < w.heap.size) x cs_x) (ht : TxtTabs w) :
    Calls Tryz.prog 3 #[.agg cs_x.toArray] w fun e w' => e = .returned (.bool true) ∧ Below w.heap.size w w' := by
  have HTB := Lib.hid ht
  have LT := Lib.hid (fun (W : World) (hW : Below w.heap.size w W) (b : Nat) (h : b < w.heap.size) => Nat.lt_of_lt_of_le h hW.size)
  have CZ_x := Lib.hid (fun (W : World) (hW : Below w.heap.size w W) (r : Int) (r0 : 0 ≤ r) (r1 : r ≤ 1048576) => szLtR (ltR.keep h_x (SameOn.of_below hW fun _ h => h)) (LT.out W hW) r0 r1)
  have CT_x := Lib.hid (fun (W : World) (hW : Below w.heap.size w W) (ok : okLt x) => toLtRO (ltR.keep h_x (SameOn.of_below hW fun _ h => h)) (LT.out W hW) ok)
  obtain ⟨A_x1, c_x1, A_x2, c_x2, rfl, _⟩ := h_x
  have hq : ((ltx x).toList == (ltx x).toList) = true := by simp
  clear ht
  go_enter Tryz.func3, Tryz.ntmps3
  go_wp2_with fail
  refine (CZ_x.out _ (by repeat (first | exact Below.refl _ _ | refine Below.alloc ?_ (by simp <;> omega) _)) _ (by omega) (by omega)).mono ?_
  rintro e v1 ⟨q_x, rfl, hq, b3⟩
  have b0 : ∀ o : Obj, Below w.heap.size w (w.alloc o) := fun o => (Below.refl _ _).alloc (Nat.le_refl _) o
  have BA := Lib.hid ((Bx.of4 (b := w.heap.size) (v0 := .int .i64 x.st) (v1 := .int .i64 x.ini) (v2 := .slice A_x1 x.ls.length c_x1) (v3 := .slice A_x2 x.es.length c_x2) (by simp <;> omega) (by simp [go_sem]) (by simp [go_sem]) (by simp [go_sem]) (by simp [go_sem])).next b3)
  have HB := Lib.hid ((b0 _).trans (b3.mono (by simp)))
  clear b0
  clear b3
  rcases hq with hq | ⟨hp_x, hl_x, hok⟩
  · go_wp2
    go_ret
    exact ⟨rfl, HB.out⟩
  have hn_x : ¬ q_x < 0 := by omega
  have K_x := Lib.hid hok
  have WT_x := Lib.hid (show wtLt x ≤ 1048576 by omega)
  have hl_x : q_x ≤ 1048576 := by omega
  clear hok CZ_x
  obtain ⟨a0, a1, a2, a3⟩ := BA.out.four
  have ap := BA.out.1
  go_wp2_with fail
  refine (CT_x.out _ HB.out K_x.out).mono ?_
  rintro e v2 ⟨css, rfl, hO, b3⟩
  clear a0 a1 a2 a3 ap
  have O_BA_Hsx := Lib.hid BA.out.1
  have Hsxw := Lib.hid HB.out.size
  have Hsx := Lib.hid (hO)
  have HB := Lib.hid (HB.out.trans (b3.mono HB.out.size))
  have BA := Lib.hid (BA.out.next b3)
  have Hsxb := Lib.hid (Nat.le_refl v2.heap.size)
  clear b3 hO
  go_wp2_with fail
  refine (specLtx_any (ltO.rd Hsx.out) (fun b h => Nat.lt_of_lt_of_le h.2 Hsxb.out) K_x.out).mono ?_
  rintro e v3 ⟨rfl, b3⟩
  have HB := Lib.hid (HB.out.trans (b3.mono HB.out.size))
  have BA := Lib.hid (BA.out.next b3)
  have Hsx := Lib.hid (Owd.nb (G := ltO) Hsx.out b3 Hsxb.out)
  have Hsxb := Lib.hid (Nat.le_trans Hsxb.out b3.size)
  clear b3
  clear Hsx Hsxb Hsxw
  obtain ⟨a0, a1, a2, a3⟩ := BA.out.four
  have ap := BA.out.1
  go_wp2_with fail
  refine (CT_x.out _ HB.out K_x.out).mono ?_
  rintro e v4 ⟨cs0, rfl, hO, b3⟩
  clear a0 a1 a2 a3 ap
  obtain ⟨D_x1, d_x1, D_x2, d_x2, E_x, rfl, hE⟩ := hO
  have O_BA_Hxx := Lib.hid BA.out.1
  have Hxxw := Lib.hid HB.out.size
  have Hxx := Lib.hid ((show ltO.O v4 (In v3.heap.size v4.heap.size) x [.int .i64 x.st, .int .i64 x.ini, .slice D_x1 x.ls.length d_x1, .slice D_x2 x.es.length d_x2] from ⟨D_x1, d_x1, D_x2, d_x2, E_x, rfl, hE⟩))
  have HB := Lib.hid (HB.out.trans (b3.mono HB.out.size))
  have BA := Lib.hid (BA.out.next b3)
  have Hxxb := Lib.hid (Nat.le_refl v4.heap.size)
  clear b3 hE
  have b0 : Below v4.heap.size v4 (v4.alloc (.cells #[.int .i64 x.st, .int .i64 x.ini, .slice D_x1 x.ls.length d_x1, .slice D_x2 x.es.length d_x2] 30)) := (Below.refl _ _).alloc (Nat.le_refl _) _
  have bx0 : Bx v4.heap.size [.int .i64 x.st, .int .i64 x.ini, .slice D_x1 x.ls.length d_x1, .slice D_x2 x.es.length d_x2] (v4.alloc (.cells #[.int .i64 x.st, .int .i64 x.ini, .slice D_x1 x.ls.length d_x1, .slice D_x2 x.es.length d_x2] 30)) := Bx.of4 (by simp <;> omega) (by simp [go_sem]) (by simp [go_sem]) (by simp [go_sem]) (by simp [go_sem])
  go_wp2_with fail
  refine (implLtx_any (ltR.keep (ltO.rd Hxx.out) (SameOn.of_below b0 fun b h => Nat.lt_of_lt_of_le h.2 Hxxb.out)) (fun b h => Nat.lt_of_lt_of_le h.2 (Nat.le_trans Hxxb.out b0.size)) K_x.out (HTB.out.below (HB.out.trans (b0.mono HB.out.size)))).mono ?_
  rintro e v5 ⟨rfl, b3⟩
  have b4 : Below v4.heap.size v4 v5 := b0.trans (b3.mono b0.size)
  have BX := Lib.hid (bx0.next b3)
  have O_Hxx_BX := Hxxb
  have HB := Lib.hid (HB.out.trans (b4.mono HB.out.size))
  have BA := Lib.hid (BA.out.next b4)
  have Hxx := Lib.hid (Owd.nb (G := ltO) Hxx.out b4 Hxxb.out)
  have Hxxb := Lib.hid (Nat.le_trans Hxxb.out b4.size)
  clear b3 b4 b0 bx0
  have HS := Lib.hid (fun (W : World) (hW : Below v5.heap.size v5 W) => (⟨hW, (BX.out.next hW).four, (BA.out.next hW).four⟩ : Below v5.heap.size v5 W ∧ (W.cell? ⟨v4.heap.size, 0, none⟩ = some (.int .i64 x.st) ∧ W.cell? ⟨v4.heap.size, 1, none⟩ = some (.int .i64 x.ini) ∧ W.cell? ⟨v4.heap.size, 2, none⟩ = some (.slice D_x1 x.ls.length d_x1) ∧ W.cell? ⟨v4.heap.size, 3, none⟩ = some (.slice D_x2 x.es.length d_x2)) ∧ (W.cell? ⟨w.heap.size, 0, none⟩ = some (.int .i64 x.st) ∧ W.cell? ⟨w.heap.size, 1, none⟩ = some (.int .i64 x.ini) ∧ W.cell? ⟨w.heap.size, 2, none⟩ = some (.slice A_x1 x.ls.length c_x1) ∧ W.cell? ⟨w.heap.size, 3, none⟩ = some (.slice A_x2 x.es.length c_x2))))
  have HV := Lib.hid (Below.refl v5.heap.size v5)
  have HBO := Lib.hid (fun (W : World) (hW : Below v5.heap.size v5 W) => HB.out.trans (hW.mono HB.out.size))
  go_wp2
  go_region_held3 (fun W => Below v5.heap.size v5 W ∧ (W.cell? ⟨v4.heap.size, 0, none⟩ = some (.int .i64 x.st) ∧ W.cell? ⟨v4.heap.size, 1, none⟩ = some (.int .i64 x.ini) ∧ W.cell? ⟨v4.heap.size, 2, none⟩ = some (.slice D_x1 x.ls.length d_x1) ∧ W.cell? ⟨v4.heap.size, 3, none⟩ = some (.slice D_x2 x.es.length d_x2)) ∧ (W.cell? ⟨w.heap.size, 0, none⟩ = some (.int .i64 x.st) ∧ W.cell? ⟨w.heap.size, 1, none⟩ = some (.int .i64 x.ini) ∧ W.cell? ⟨w.heap.size, 2, none⟩ = some (.slice A_x1 x.ls.length c_x1) ∧ W.cell? ⟨w.heap.size, 3, none⟩ = some (.slice A_x2 x.es.length c_x2))) (exact HS.out _ (by first | exact HV.out.drew | exact HV.out)) (first
    | (go_at_call 11; (with_reducible refine (CT_x.out _ (by first | exact HBO.out _ HV.out.drew | exact HBO.out _ HV.out) K_x.out).mono ?_); rintro e v6 ⟨cs5, rfl, hR, b3⟩; have HV := Lib.hid (Below.trans (by first | exact HV.out | exact HV.out.drew) (b3.mono (by first | exact Nat.le_refl _ | exact HV.out.size))); have HR5 := Lib.hid (ltO.rd hR); clear hR b3)
    | (go_at_call 13; refine (eqLtR (Rec.nb (F := ltR) (ltO.rd Hxx.out) HV.out Hxxb.out) HR5.out (fun b h => Nat.lt_of_lt_of_le h.2 (Nat.le_trans Hxxb.out HV.out.size)) (fun b h => h.2) K_x.out).mono ?_; rintro e v7 ⟨rfl, b3⟩; have HV := Lib.hid (HV.out.trans (b3.mono HV.out.size)); clear b3))
  clear HS HBO HR5
  have HB := Lib.hid (HB.out.trans (HV.out.mono HB.out.size))
  have BA := Lib.hid (BA.out.next HV.out)
  have Hxx := Lib.hid (Owd.nb (G := ltO) Hxx.out HV.out Hxxb.out)
  have Hxxb := Lib.hid (Nat.le_trans Hxxb.out HV.out.size)
  have BX := Lib.hid (BX.out.next HV.out)
  clear HV
  go_wp2
  go_ret
  exact ⟨rfl, HB.out⟩
end Go.Proofs.YthbnfjedjijacaaGreatDoor
