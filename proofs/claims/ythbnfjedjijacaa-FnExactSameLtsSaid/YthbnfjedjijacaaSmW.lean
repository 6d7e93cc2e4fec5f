/- The law of SameLts, walked. -/
import Derived.Deep.RegionHeld3
import Derived.Test.YthbnfjedjijacaaSmI
import Derived.Test.YthbnfjedjijacaaLtK
namespace Go.Proofs.Ythbnfjedjijacaa
open Go.RowKit
set_option maxRecDepth 100000 in
set_option maxHeartbeats 8000000 in
theorem law_any (x y : Lt) (cs ds : List Value) (w : World) (hx : ltR.R w (· < w.heap.size) x cs) (hy : ltR.R w (· < w.heap.size) y ds) :
    Calls Try.prog 3 #[.agg cs.toArray, .agg ds.toArray] w fun e w' => e = .returned (.bool true) ∧ Below w.heap.size w w' := by
  have HX := Lib.hid hx
  have HY := Lib.hid hy
  obtain ⟨A3, c3, A4, c4, rfl, hs1⟩ := hx
  obtain ⟨B3, d3, B4, d4, rfl, hs2⟩ := hy
  have CZ1 := Lib.hid (fun (W : World) (hW0 : Below w.heap.size w W) (r : Int) (r0 : 0 ≤ r) (r1 : r ≤ 1048576) => (Calls.mono (szLtR (left := r) (ltR.keep HX.out (SameOn.of_below hW0 fun b h => h)) (fun b h => Nat.lt_of_lt_of_le h hW0.size) r0 r1) (fun e w' ⟨q, he, hq, hb⟩ => (⟨q, he, hq, hW0.trans (Below.mono hb hW0.size), hb⟩ : ∃ q : Int, e = Ending.returned (.int .i64 q) ∧ (q < 0 ∨ (0 ≤ q ∧ q + (wtLt x : Nat) ≤ r ∧ okLt x)) ∧ Below w.heap.size w w' ∧ Below W.heap.size W w'))))
  have CZ2 := Lib.hid (fun (W : World) (hW0 : Below w.heap.size w W) (r : Int) (r0 : 0 ≤ r) (r1 : r ≤ 1048576) => (Calls.mono (szLtR (left := r) (ltR.keep HY.out (SameOn.of_below hW0 fun b h => h)) (fun b h => Nat.lt_of_lt_of_le h hW0.size) r0 r1) (fun e w' ⟨q, he, hq, hb⟩ => (⟨q, he, hq, hW0.trans (Below.mono hb hW0.size), hb⟩ : ∃ q : Int, e = Ending.returned (.int .i64 q) ∧ (q < 0 ∨ (0 ≤ q ∧ q + (wtLt y : Nat) ≤ r ∧ okLt y)) ∧ Below w.heap.size w w' ∧ Below W.heap.size W w'))))
  have CT1 := Lib.hid (fun (W : World) (hW0 : Below w.heap.size w W) (ok : okLt x) => (Calls.mono (toLtRO (ltR.keep HX.out (SameOn.of_below hW0 fun b h => h)) (fun b h => Nat.lt_of_lt_of_le h hW0.size) ok) (fun e w' ⟨cs, he, hR, hb⟩ => (⟨cs, he, Rec.wide (ltO.rd hR) hW0.size, hW0.trans (Below.mono hb hW0.size), hb⟩ : ∃ cs : List Value, e = Ending.returned (.agg cs.toArray) ∧ ltR.R w' (In w.heap.size w'.heap.size) x cs ∧ Below w.heap.size w w' ∧ Below W.heap.size W w'))))
  have CT2 := Lib.hid (fun (W : World) (hW0 : Below w.heap.size w W) (ok : okLt y) => (Calls.mono (toLtRO (ltR.keep HY.out (SameOn.of_below hW0 fun b h => h)) (fun b h => Nat.lt_of_lt_of_le h hW0.size) ok) (fun e w' ⟨cs, he, hR, hb⟩ => (⟨cs, he, Rec.wide (ltO.rd hR) hW0.size, hW0.trans (Below.mono hb hW0.size), hb⟩ : ∃ cs : List Value, e = Ending.returned (.agg cs.toArray) ∧ ltR.R w' (In w.heap.size w'.heap.size) y cs ∧ Below w.heap.size w w' ∧ Below W.heap.size W w'))))
  have hne : (ltE x y != ltE x y) = false := by simp
  clear HX HY hs1 hs2
  go_enter Try.func3, Try.ntmps3
  go_wp2_with fail
  refine (CZ1.out _ (by repeat (first | exact Below.refl _ _ | refine Below.setCell ?_ (by simp) _ | refine Below.alloc ?_ (by simp <;> omega) _)) _ (by omega) (by omega)).mono ?_
  rintro e v1 ⟨q1, rfl, hq, b2, b3⟩
  have BA := Lib.hid ((Bx.of4 (b := w.heap.size) (v0 := .int .i64 x.st) (v1 := .int .i64 x.ini) (v2 := .slice A3 x.ls.length c3) (v3 := .slice A4 x.es.length c4) (by simp <;> omega) (by simp [go_sem]) (by simp [go_sem]) (by simp [go_sem]) (by simp [go_sem])).next b3)
  have BB := Lib.hid ((Bx.of4 (b := w.heap.size + 1) (v0 := .int .i64 y.st) (v1 := .int .i64 y.ini) (v2 := .slice B3 y.ls.length d3) (v3 := .slice B4 y.es.length d4) (by simp <;> omega) (by simp [go_sem]) (by simp [go_sem]) (by simp [go_sem]) (by simp [go_sem])).next b3)
  have HB := Lib.hid b2
  clear b2 b3
  rcases hq with hq | ⟨hp1, hl1, hok⟩
  · go_wp2
    go_ret
    exact ⟨rfl, HB.out⟩
  have hn1 : ¬ q1 < 0 := by omega
  have OX := Lib.hid hok
  clear hok
  obtain ⟨k0, k1, k2, k3⟩ := BB.out.four
  go_wp2_with fail
  refine (CZ2.out _ HB.out _ hp1 (by omega)).mono ?_
  rintro e v2 ⟨q2, rfl, hq, b2, b3⟩
  clear k0 k1 k2 k3 HB
  have BA := Lib.hid (BA.out.next b3)
  have BB := Lib.hid (BB.out.next b3)
  have HB := Lib.hid b2
  clear b2 b3
  rcases hq with hq | ⟨hp2, hl2, hok⟩
  · go_wp2
    go_ret
    exact ⟨rfl, HB.out⟩
  have hn2 : ¬ q2 < 0 := by omega
  have OY := Lib.hid hok
  clear hok
  obtain ⟨a0, a1, a2, a3⟩ := BA.out.four
  obtain ⟨k0, k1, k2, k3⟩ := BB.out.four
  go_wp2_with fail
  have HS := Lib.hid (fun (W : World) (hW : Below v2.heap.size v2 W) => (⟨hW, (BA.out.next hW).four, (BB.out.next hW).four⟩ : Below v2.heap.size v2 W ∧ (W.cell? ⟨w.heap.size, 0, none⟩ = some (.int .i64 x.st) ∧ W.cell? ⟨w.heap.size, 1, none⟩ = some (.int .i64 x.ini) ∧ W.cell? ⟨w.heap.size, 2, none⟩ = some (.slice A3 x.ls.length c3) ∧ W.cell? ⟨w.heap.size, 3, none⟩ = some (.slice A4 x.es.length c4)) ∧ (W.cell? ⟨w.heap.size + 1, 0, none⟩ = some (.int .i64 y.st) ∧ W.cell? ⟨w.heap.size + 1, 1, none⟩ = some (.int .i64 y.ini) ∧ W.cell? ⟨w.heap.size + 1, 2, none⟩ = some (.slice B3 y.ls.length d3) ∧ W.cell? ⟨w.heap.size + 1, 3, none⟩ = some (.slice B4 y.es.length d4))))
  have HV := Lib.hid (Below.refl v2.heap.size v2)
  have HB2 := HB
  clear a0 a1 a2 a3 k0 k1 k2 k3
  go_region_held3 (fun W => Below v2.heap.size v2 W ∧ (W.cell? ⟨w.heap.size, 0, none⟩ = some (.int .i64 x.st) ∧ W.cell? ⟨w.heap.size, 1, none⟩ = some (.int .i64 x.ini) ∧ W.cell? ⟨w.heap.size, 2, none⟩ = some (.slice A3 x.ls.length c3) ∧ W.cell? ⟨w.heap.size, 3, none⟩ = some (.slice A4 x.es.length c4)) ∧ (W.cell? ⟨w.heap.size + 1, 0, none⟩ = some (.int .i64 y.st) ∧ W.cell? ⟨w.heap.size + 1, 1, none⟩ = some (.int .i64 y.ini) ∧ W.cell? ⟨w.heap.size + 1, 2, none⟩ = some (.slice B3 y.ls.length d3) ∧ W.cell? ⟨w.heap.size + 1, 3, none⟩ = some (.slice B4 y.es.length d4))) (exact HS.out _ (by first | exact HV.out.drew | exact HV.out)) (first
    | (go_at_call 6; (with_reducible refine (CT1.out _ (by first | exact HB.out | exact HB.out.drew) OX.out).mono ?_); rintro e vq ⟨cs1, rfl, hR, b2, b3⟩; have HV := Lib.hid (Below.trans (by first | exact HV.out | exact HV.out.drew) (b3.mono (by first | exact Nat.le_refl _ | exact HV.out.size))); have HR1 := Lib.hid hR; have HB := Lib.hid b2; clear hR b2 b3)
    | (go_at_call 6; (with_reducible refine (CT2.out _ (by first | exact HB.out | exact HB.out.drew) OY.out).mono ?_); rintro e vq2 ⟨cs2, rfl, hR, b2, b3⟩; have HV := Lib.hid (HV.out.trans (b3.mono HV.out.size)); have HR1 := Lib.hid (Rec.next HR1.out b3); have HR2 := Lib.hid hR; have HB := Lib.hid b2; clear hR b2 b3)
    | (go_at_call 5; refine (specSm HR1.out HR2.out (fun b h => h.2) (fun b h => h.2)).mono ?_; rintro e vq3 ⟨rfl, b3⟩; have HV := Lib.hid (HV.out.trans (b3.mono HV.out.size)); clear b3))
  have HBW := Lib.hid (HB2.out.trans (HV.out.mono HB2.out.size))
  have BA := Lib.hid (BA.out.next HV.out)
  have BB := Lib.hid (BB.out.next HV.out)
  clear HS HV HR1 HR2 HB HB2
  obtain ⟨a0, a1, a2, a3⟩ := BA.out.four
  go_wp2_with fail
  refine (CT1.out _ HBW.out OX.out).mono ?_
  rintro e v4 ⟨cs3, rfl, hR, b2, b3⟩
  have HR0 := Lib.hid hR
  obtain ⟨E3, e3, E4, e4, rfl, hsh⟩ := hR
  have BA := Lib.hid (BA.out.next b3)
  have BB := Lib.hid (BB.out.next b3)
  have HB := Lib.hid b2
  have hz4 := b2.size
  clear hsh b2 b3 a0 a1 a2 a3 HBW
  obtain ⟨k0, k1, k2, k3⟩ := BB.out.four
  have hw4 : w.heap.size + 1 < v4.heap.size := BB.out.1
  go_wp2_with fail
  refine (CT2.out _ (HB.out.trans (Below.mono (show Below v4.heap.size v4 _ from (by repeat (first | exact Below.refl _ _ | refine Below.setCell ?_ (by simp) _ | refine Below.alloc ?_ (by simp <;> omega) _))) hz4)) OY.out).mono ?_
  rintro e v5 ⟨cs4, rfl, hR, b2, b3⟩
  have b4 : Below v4.heap.size v4 v5 := Below.trans (by repeat (first | exact Below.refl _ _ | refine Below.setCell ?_ (by simp) _ | refine Below.alloc ?_ (by simp <;> omega) _)) (b3.mono (by simp <;> omega))
  have HR1 := Lib.hid hR
  obtain ⟨G3, g3, G4, g4, rfl, hsh⟩ := hR
  have BX := Lib.hid ((Bx.of4 (b := v4.heap.size) (v0 := .int .i64 x.st) (v1 := .int .i64 x.ini) (v2 := .slice E3 x.ls.length e3) (v3 := .slice E4 x.es.length e4) (by simp <;> omega) (by simp [go_sem]) (by simp [go_sem]) (by simp [go_sem]) (by simp [go_sem])).next b3)
  have HR0 := Lib.hid (Rec.next HR0.out b4)
  have BA := Lib.hid (BA.out.next b4)
  have BB := Lib.hid (BB.out.next b4)
  have HB := Lib.hid b2
  have hz5 := b2.size
  clear hsh b2 b3 b4 k0 k1 k2 k3
  obtain ⟨z0, z1, z2, z3⟩ := BX.out.four
  have hw5 : v4.heap.size < v5.heap.size := BX.out.1
  go_wp2_with fail
  refine (implSm (Rec.next HR0.out (by repeat (first | exact Below.refl _ _ | refine Below.setCell ?_ (by simp) _ | refine Below.alloc ?_ (by simp <;> omega) _))) (Rec.next HR1.out (by repeat (first | exact Below.refl _ _ | refine Below.setCell ?_ (by simp) _ | refine Below.alloc ?_ (by simp <;> omega) _))) (fun b h => h.2) (fun b h => h.2)).mono ?_
  rintro e v6 ⟨rfl, b3⟩
  have b4 : Below v5.heap.size v5 v6 := Below.trans (by repeat (first | exact Below.refl _ _ | refine Below.setCell ?_ (by simp) _ | refine Below.alloc ?_ (by simp <;> omega) _)) (b3.mono (by simp <;> omega))
  have BY := Lib.hid ((Bx.of4 (b := v5.heap.size) (v0 := .int .i64 y.st) (v1 := .int .i64 y.ini) (v2 := .slice G3 y.ls.length g3) (v3 := .slice G4 y.es.length g4) (by simp <;> omega) (by simp [go_sem]) (by simp [go_sem]) (by simp [go_sem]) (by simp [go_sem])).next b3)
  have BX := Lib.hid (BX.out.next b4)
  have HR0 := Lib.hid (Rec.next HR0.out b4)
  have HR1 := Lib.hid (Rec.next HR1.out b4)
  have BA := Lib.hid (BA.out.next b4)
  have BB := Lib.hid (BB.out.next b4)
  have HB2 := Lib.hid (HB.out.trans (b4.mono HB.out.size))
  clear b3 b4 z0 z1 z2 z3 HB
  go_wp2_with fail
  have HS := Lib.hid (fun (W : World) (hW : Below v6.heap.size v6 W) => (⟨hW, (BX.out.next hW).four, (BA.out.next hW).four⟩ : Below v6.heap.size v6 W ∧ (W.cell? ⟨v4.heap.size, 0, none⟩ = some (.int .i64 x.st) ∧ W.cell? ⟨v4.heap.size, 1, none⟩ = some (.int .i64 x.ini) ∧ W.cell? ⟨v4.heap.size, 2, none⟩ = some (.slice E3 x.ls.length e3) ∧ W.cell? ⟨v4.heap.size, 3, none⟩ = some (.slice E4 x.es.length e4)) ∧ (W.cell? ⟨w.heap.size, 0, none⟩ = some (.int .i64 x.st) ∧ W.cell? ⟨w.heap.size, 1, none⟩ = some (.int .i64 x.ini) ∧ W.cell? ⟨w.heap.size, 2, none⟩ = some (.slice A3 x.ls.length c3) ∧ W.cell? ⟨w.heap.size, 3, none⟩ = some (.slice A4 x.es.length c4))))
  have HV := Lib.hid (Below.refl v6.heap.size v6)
  have HB := HB2
  go_region_held3 (fun W => Below v6.heap.size v6 W ∧ (W.cell? ⟨v4.heap.size, 0, none⟩ = some (.int .i64 x.st) ∧ W.cell? ⟨v4.heap.size, 1, none⟩ = some (.int .i64 x.ini) ∧ W.cell? ⟨v4.heap.size, 2, none⟩ = some (.slice E3 x.ls.length e3) ∧ W.cell? ⟨v4.heap.size, 3, none⟩ = some (.slice E4 x.es.length e4)) ∧ (W.cell? ⟨w.heap.size, 0, none⟩ = some (.int .i64 x.st) ∧ W.cell? ⟨w.heap.size, 1, none⟩ = some (.int .i64 x.ini) ∧ W.cell? ⟨w.heap.size, 2, none⟩ = some (.slice A3 x.ls.length c3) ∧ W.cell? ⟨w.heap.size, 3, none⟩ = some (.slice A4 x.es.length c4))) (exact HS.out _ (by first | exact HV.out.drew | exact HV.out)) (first
    | (go_at_call 6; (with_reducible refine (CT1.out _ (by first | exact HB.out | exact HB.out.drew) OX.out).mono ?_); rintro e v7a ⟨cs5, rfl, hR, b2, b3⟩; have HV := Lib.hid (Below.trans (by first | exact HV.out | exact HV.out.drew) (b3.mono (by first | exact Nat.le_refl _ | exact HV.out.size))); have HR5 := Lib.hid hR; have HB := Lib.hid b2; clear hR b2 b3)
    | (go_at_call 8; refine (eqLtR (Rec.next HR0.out HV.out) HR5.out (fun b h => h.2) (fun b h => h.2) OX.out).mono ?_; rintro e v7b ⟨rfl, b3⟩; have HV := Lib.hid (HV.out.trans (b3.mono HV.out.size)); clear b3))
  have HB2 := Lib.hid (HB2.out.trans (HV.out.mono HB2.out.size))
  clear HB HS HR5
  have BY := Lib.hid (BY.out.next HV.out)
  have BB := Lib.hid (BB.out.next HV.out)
  have HR1 := Lib.hid (Rec.next HR1.out HV.out)
  clear HV BX BA HR0
  go_wp2_with fail
  have HS := Lib.hid (fun (W : World) (hW : Below v7b.heap.size v7b W) => (⟨hW, (BY.out.next hW).four, (BB.out.next hW).four⟩ : Below v7b.heap.size v7b W ∧ (W.cell? ⟨v5.heap.size, 0, none⟩ = some (.int .i64 y.st) ∧ W.cell? ⟨v5.heap.size, 1, none⟩ = some (.int .i64 y.ini) ∧ W.cell? ⟨v5.heap.size, 2, none⟩ = some (.slice G3 y.ls.length g3) ∧ W.cell? ⟨v5.heap.size, 3, none⟩ = some (.slice G4 y.es.length g4)) ∧ (W.cell? ⟨w.heap.size + 1, 0, none⟩ = some (.int .i64 y.st) ∧ W.cell? ⟨w.heap.size + 1, 1, none⟩ = some (.int .i64 y.ini) ∧ W.cell? ⟨w.heap.size + 1, 2, none⟩ = some (.slice B3 y.ls.length d3) ∧ W.cell? ⟨w.heap.size + 1, 3, none⟩ = some (.slice B4 y.es.length d4))))
  have HV := Lib.hid (Below.refl v7b.heap.size v7b)
  have HB := HB2
  go_region_held3 (fun W => Below v7b.heap.size v7b W ∧ (W.cell? ⟨v5.heap.size, 0, none⟩ = some (.int .i64 y.st) ∧ W.cell? ⟨v5.heap.size, 1, none⟩ = some (.int .i64 y.ini) ∧ W.cell? ⟨v5.heap.size, 2, none⟩ = some (.slice G3 y.ls.length g3) ∧ W.cell? ⟨v5.heap.size, 3, none⟩ = some (.slice G4 y.es.length g4)) ∧ (W.cell? ⟨w.heap.size + 1, 0, none⟩ = some (.int .i64 y.st) ∧ W.cell? ⟨w.heap.size + 1, 1, none⟩ = some (.int .i64 y.ini) ∧ W.cell? ⟨w.heap.size + 1, 2, none⟩ = some (.slice B3 y.ls.length d3) ∧ W.cell? ⟨w.heap.size + 1, 3, none⟩ = some (.slice B4 y.es.length d4))) (exact HS.out _ (by first | exact HV.out.drew | exact HV.out)) (first
    | (go_at_call 6; (with_reducible refine (CT2.out _ (by first | exact HB.out | exact HB.out.drew) OY.out).mono ?_); rintro e v8a ⟨cs5, rfl, hR, b2, b3⟩; have HV := Lib.hid (Below.trans (by first | exact HV.out | exact HV.out.drew) (b3.mono (by first | exact Nat.le_refl _ | exact HV.out.size))); have HR5 := Lib.hid hR; have HB := Lib.hid b2; clear hR b2 b3)
    | (go_at_call 8; refine (eqLtR (Rec.next HR1.out HV.out) HR5.out (fun b h => h.2) (fun b h => h.2) OY.out).mono ?_; rintro e v8b ⟨rfl, b3⟩; have HV := Lib.hid (HV.out.trans (b3.mono HV.out.size)); clear b3))
  have HB2 := Lib.hid (HB2.out.trans (HV.out.mono HB2.out.size))
  clear HB HS HR5
  go_wp2
  go_ret
  exact ⟨rfl, HB2.out⟩
end Go.Proofs.Ythbnfjedjijacaa
