/- The law of MeetingOf, walked. -/
import Derived.Deep.RegionHeld3
import Derived.Test.YtdgcpaeneafejaaGreatDoorMtV
namespace Go.Proofs.YtdgcpaeneafejaaGreatDoor
open Go.RowKit
theorem sMtR {x : Sy} {cs : List Value} {w : World} {S : Nat → Prop} (a b : ByteArray) (h : syR.R w S x cs) (hS : ∀ b, S b → b < w.heap.size) (ok : okSy x) :
    Calls Tryz.prog 10 #[.agg cs.toArray, .string a, .string b] w fun e w' => e = .returned (.tuple #[.string (mrS x a b), .int .i64 (mrC x a b)]) ∧ Below w.heap.size w w' := by
  obtain ⟨A1, c1, A2, c2, A3, c3, A4, c4, A5, c5, rfl, ⟨p1, q1, r1⟩, ⟨p2, q2, r2⟩, ⟨p3, q3, r3⟩, ⟨p4, q4, r4⟩, ⟨p5, q5, r5⟩⟩ := h
  exact specMeetingOf_any x a b A1 A2 A3 A4 A5 c1 c2 c3 c4 c5 w S r1 r2 r3 r4 r5 hS ok
theorem iMtR {x : Sy} {cs : List Value} {w : World} {S : Nat → Prop} (a b : ByteArray) (h : syR.R w S x cs) (hS : ∀ b, S b → b < w.heap.size) (ok : okSy x) (ht : FormTab w) :
    Calls Tryz.prog 12 #[.agg cs.toArray, .string a, .string b] w fun e w' => e = .returned (.tuple #[.string (mrS x a b), .int .i64 (mrC x a b)]) ∧ Below w.heap.size w w' := by
  obtain ⟨A1, c1, A2, c2, A3, c3, A4, c4, A5, c5, rfl, ⟨p1, q1, r1⟩, ⟨p2, q2, r2⟩, ⟨p3, q3, r3⟩, ⟨p4, q4, r4⟩, ⟨p5, q5, r5⟩⟩ := h
  exact implMeetingOf_any x a b A1 A2 A3 A4 A5 c1 c2 c3 c4 c5 w S r1 r2 r3 r4 r5 hS ok ht
set_option maxRecDepth 100000 in
set_option maxHeartbeats 8000000 in
theorem lawMeetingOf_any (x : Sy) (a b : ByteArray) (cs : List Value) (w : World) (hx : syR.R w (· < w.heap.size) x cs) (ht : FormTab w) :
    Calls Tryz.prog 3 #[.agg cs.toArray, .string a, .string b] w fun e w' => e = .returned (.bool true) ∧ Below w.heap.size w w' := by
  have HX := Lib.hid hx
  have HT := Lib.hid ht
  obtain ⟨A1, c1, A2, c2, A3, c3, A4, c4, A5, c5, rfl, hs1⟩ := hx
  have CZ1 := Lib.hid (fun (W : World) (hW0 : Below w.heap.size w W) (r : Int) (r0 : 0 ≤ r) (r1 : r ≤ 1048576) => (Calls.mono (szR (left := r) (syR.keep HX.out (SameOn.of_below hW0 fun b h => h)) (fun b h => Nat.lt_of_lt_of_le h hW0.size) r0 r1) (fun e w' ⟨q, he, hq, hb⟩ => (⟨q, he, hq, hW0.trans (Below.mono hb hW0.size), hb⟩ : ∃ q : Int, e = Ending.returned (.int .i64 q) ∧ (q < 0 ∨ (0 ≤ q ∧ q + (wtSy x : Nat) ≤ r ∧ okSy x)) ∧ Below w.heap.size w w' ∧ Below W.heap.size W w'))))
  have CT1 := Lib.hid (fun (W : World) (hW0 : Below w.heap.size w W) (ok : okSy x) => (Calls.mono (toR (syR.keep HX.out (SameOn.of_below hW0 fun b h => h)) (fun b h => Nat.lt_of_lt_of_le h hW0.size) ok) (fun e w' ⟨cs, he, hR, hb⟩ => (⟨cs, he, Rec.wide hR hW0.size, hW0.trans (Below.mono hb hW0.size), hb⟩ : ∃ cs : List Value, e = Ending.returned (.agg cs.toArray) ∧ syR.R w' (In w.heap.size w'.heap.size) x cs ∧ Below w.heap.size w w' ∧ Below W.heap.size W w'))))
  have hne : (mrC x a b != mrC x a b) = false := by simp
  clear HX hs1 ht
  by_cases ha : (1048576 : Int) < (a.size : Int)
  · go_enter Tryz.func3, Tryz.ntmps3
    go_wp2
    go_ret
    exact ⟨rfl, (by repeat (first | exact Below.refl _ _ | refine Below.setCell ?_ (by simp) _ | refine Below.alloc ?_ (by simp <;> omega) _))⟩
  by_cases hb : (1048576 : Int) < (b.size : Int)
  · go_enter Tryz.func3, Tryz.ntmps3
    go_wp2
    go_ret
    exact ⟨rfl, (by repeat (first | exact Below.refl _ _ | refine Below.setCell ?_ (by simp) _ | refine Below.alloc ?_ (by simp <;> omega) _))⟩
  go_enter Tryz.func3, Tryz.ntmps3
  go_wp2_with fail
  refine (CZ1.out _ (by repeat (first | exact Below.refl _ _ | refine Below.setCell ?_ (by simp) _ | refine Below.alloc ?_ (by simp <;> omega) _)) _ (by omega) (by omega)).mono ?_
  rintro e v1 ⟨q1, rfl, hq, b2, b3⟩
  have BA := Lib.hid ((Bx.of (b := w.heap.size) (v0 := .slice A1 x.ds.length c1) (v1 := .slice A2 x.cs.length c2) (v2 := .slice A3 x.ms.length c3) (v3 := .slice A4 x.al.length c4) (v4 := .slice A5 x.hd.length c5) (by simp <;> omega) (by simp [go_sem]) (by simp [go_sem]) (by simp [go_sem]) (by simp [go_sem]) (by simp [go_sem])).next b3)
  have HB := Lib.hid b2
  clear b2 b3 ha hb
  rcases hq with hq | ⟨hp1, hl1, hok⟩
  · go_wp2
    go_ret
    exact ⟨rfl, HB.out⟩
  have hn1 : ¬ q1 < 0 := by omega
  have OX := Lib.hid hok
  clear hok
  obtain ⟨a0, a1, a2, a3, a4⟩ := BA.out.five
  go_wp2_with fail
  refine (CT1.out _ HB.out OX.out).mono ?_
  rintro e v2 ⟨cs1, rfl, hR, b2, b3⟩
  have HR1 := Lib.hid hR
  have BA := Lib.hid (BA.out.next b3)
  have HB := Lib.hid b2
  clear hR b2 b3 a0 a1 a2 a3 a4
  go_wp2_with fail
  refine (sMtR a b HR1.out (fun b h => h.2) OX.out).mono ?_
  rintro e v3 ⟨rfl, b3⟩
  have BA := Lib.hid (BA.out.next b3)
  have HB := Lib.hid (HB.out.trans (b3.mono HB.out.size))
  clear b3 HR1
  obtain ⟨a0, a1, a2, a3, a4⟩ := BA.out.five
  go_wp2_with fail
  refine (CT1.out _ HB.out OX.out).mono ?_
  rintro e v4 ⟨cs3, rfl, hR, b2, b3⟩
  have HR0 := Lib.hid hR
  obtain ⟨E1, e1, E2, e2, E3, e3, E4, e4, E5, e5, rfl, hsh⟩ := hR
  have BA := Lib.hid (BA.out.next b3)
  have HB := Lib.hid b2
  have hz4 := b2.size
  clear hsh b2 b3 a0 a1 a2 a3 a4
  have hw4 : w.heap.size < v4.heap.size := BA.out.1
  go_wp2_with fail
  refine (iMtR a b (Rec.next HR0.out (by repeat (first | exact Below.refl _ _ | refine Below.setCell ?_ (by simp) _ | refine Below.alloc ?_ (by simp <;> omega) _))) (fun b h => h.2) OX.out (HT.out.below (HB.out.trans (Below.mono (show Below v4.heap.size v4 _ from (by repeat (first | exact Below.refl _ _ | refine Below.setCell ?_ (by simp) _ | refine Below.alloc ?_ (by simp <;> omega) _))) hz4)))).mono ?_
  rintro e v5 ⟨rfl, b3⟩
  have b4 : Below v4.heap.size v4 v5 := Below.trans (by repeat (first | exact Below.refl _ _ | refine Below.setCell ?_ (by simp) _ | refine Below.alloc ?_ (by simp <;> omega) _)) (b3.mono (by simp <;> omega))
  have BX := Lib.hid ((Bx.of (b := v4.heap.size) (v0 := .slice E1 x.ds.length e1) (v1 := .slice E2 x.cs.length e2) (v2 := .slice E3 x.ms.length e3) (v3 := .slice E4 x.al.length e4) (v4 := .slice E5 x.hd.length e5) (by simp <;> omega) (by simp [go_sem]) (by simp [go_sem]) (by simp [go_sem]) (by simp [go_sem]) (by simp [go_sem])).next b3)
  have HR0 := Lib.hid (Rec.next HR0.out b4)
  have BA := Lib.hid (BA.out.next b4)
  have HB2 := Lib.hid (HB.out.trans (b4.mono hz4))
  clear b3 b4 HB
  go_wp2_with fail
  have HS := Lib.hid (fun (W : World) (hW : Below v5.heap.size v5 W) => (⟨hW, (BX.out.next hW).five, (BA.out.next hW).five⟩ : Below v5.heap.size v5 W ∧ (W.cell? ⟨v4.heap.size, 0, none⟩ = some (.slice E1 x.ds.length e1) ∧ W.cell? ⟨v4.heap.size, 1, none⟩ = some (.slice E2 x.cs.length e2) ∧ W.cell? ⟨v4.heap.size, 2, none⟩ = some (.slice E3 x.ms.length e3) ∧ W.cell? ⟨v4.heap.size, 3, none⟩ = some (.slice E4 x.al.length e4) ∧ W.cell? ⟨v4.heap.size, 4, none⟩ = some (.slice E5 x.hd.length e5)) ∧ (W.cell? ⟨w.heap.size, 0, none⟩ = some (.slice A1 x.ds.length c1) ∧ W.cell? ⟨w.heap.size, 1, none⟩ = some (.slice A2 x.cs.length c2) ∧ W.cell? ⟨w.heap.size, 2, none⟩ = some (.slice A3 x.ms.length c3) ∧ W.cell? ⟨w.heap.size, 3, none⟩ = some (.slice A4 x.al.length c4) ∧ W.cell? ⟨w.heap.size, 4, none⟩ = some (.slice A5 x.hd.length c5))))
  have HV := Lib.hid (Below.refl v5.heap.size v5)
  have HB := HB2
  go_region_held3 (fun W => Below v5.heap.size v5 W ∧ (W.cell? ⟨v4.heap.size, 0, none⟩ = some (.slice E1 x.ds.length e1) ∧ W.cell? ⟨v4.heap.size, 1, none⟩ = some (.slice E2 x.cs.length e2) ∧ W.cell? ⟨v4.heap.size, 2, none⟩ = some (.slice E3 x.ms.length e3) ∧ W.cell? ⟨v4.heap.size, 3, none⟩ = some (.slice E4 x.al.length e4) ∧ W.cell? ⟨v4.heap.size, 4, none⟩ = some (.slice E5 x.hd.length e5)) ∧ (W.cell? ⟨w.heap.size, 0, none⟩ = some (.slice A1 x.ds.length c1) ∧ W.cell? ⟨w.heap.size, 1, none⟩ = some (.slice A2 x.cs.length c2) ∧ W.cell? ⟨w.heap.size, 2, none⟩ = some (.slice A3 x.ms.length c3) ∧ W.cell? ⟨w.heap.size, 3, none⟩ = some (.slice A4 x.al.length c4) ∧ W.cell? ⟨w.heap.size, 4, none⟩ = some (.slice A5 x.hd.length c5))) (exact HS.out _ (by first | exact HV.out.drew | exact HV.out)) (first
    | (go_at_call 11; (with_reducible refine (CT1.out _ (by first | exact HB.out | exact HB.out.drew) OX.out).mono ?_); rintro e v6a ⟨cs5, rfl, hR, b2, b3⟩; have HV := Lib.hid (Below.trans (by first | exact HV.out | exact HV.out.drew) (b3.mono (by first | exact Nat.le_refl _ | exact HV.out.size))); have HR5 := Lib.hid hR; have HB := Lib.hid b2; clear hR b2 b3)
    | (go_at_call 13; refine (eqR (Rec.next HR0.out HV.out) HR5.out (fun b h => h.2) (fun b h => h.2) OX.out).mono ?_; rintro e v6b ⟨rfl, b3⟩; have HV := Lib.hid (HV.out.trans (b3.mono HV.out.size)); clear b3))
  have HB2 := Lib.hid (HB2.out.trans (HV.out.mono HB2.out.size))
  clear HB HS HR5
  go_wp2
  go_ret
  exact ⟨rfl, HB2.out⟩
end Go.Proofs.YtdgcpaeneafejaaGreatDoor
