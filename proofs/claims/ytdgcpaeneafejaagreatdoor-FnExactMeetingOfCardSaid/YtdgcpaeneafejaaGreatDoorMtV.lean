/- MeetingOf, the model and the program, walked. -/
import Derived.Test.YtdgcpaeneafejaaGreatDoorMtW
namespace Go.Proofs.YtdgcpaeneafejaaGreatDoor
open Go.RowKit
noncomputable def mrS (s : Sy) (a b : ByteArray) : ByteArray := if vsB s = true then mtS (mtL s.ms (mlo a b) (mhi a b)) else ⟨#[]⟩
noncomputable def mrC (s : Sy) (a b : ByteArray) : Int := if vsB s = true then mtC (mtL s.ms (mlo a b) (mhi a b)) else 1
theorem ret_mr {s : Sy} {a b u : ByteArray} {q : Int} (h : mrS s a b = u) (h2 : mrC s a b = q) : Ending.returned (.tuple #[.string u, .int .i64 q]) = Ending.returned (.tuple #[.string (mrS s a b), .int .i64 (mrC s a b)]) := by rw [h, h2]
theorem vs_ms {s : Sy} (h : vsB s = true) : msB s.ms = true := by
  unfold vsB sfC at h
  rcases t1 : vdB s.ds with _ | _
  · rw [t1] at h; simp at h
  rcases t2 : csB s.ds s.cs with _ | _
  · rw [t1, t2] at h; simp at h
  rcases t3 : msB s.ms with _ | _
  · rw [t1, t2, t3] at h; simp at h
  rfl
theorem mt_empty {u : ByteArray} (h : eqB u ⟨#[]⟩ = false) : u.toList.isEmpty = false := by
  rw [Bool.eq_false_iff]
  intro h2
  have h3 : u.toList = [] := by simpa using h2
  unfold eqB at h
  rw [h3, ByteArray.toList_eq] at h
  simp at h
set_option maxRecDepth 100000 in
theorem specMeetingOf_any (s : Sy) (a b : ByteArray) (A1 A2 A3 A4 A5 : Option Addr) (c1 c2 c3 c4 c5 : Nat) (w : World) (S : Nat → Prop) (h1 : LRow dfR w S A1 s.ds) (h2 : LRow cpR w S A2 s.cs) (h3 : LRow mtR w S A3 s.ms) (h4 : LRow txtR w S A4 s.al) (h5 : LRow txtR w S A5 s.hd) (hS : ∀ b, S b → b < w.heap.size) (ok : okSy s) :
    Calls Tryz.prog 10 #[.agg #[.slice A1 s.ds.length c1, .slice A2 s.cs.length c2, .slice A3 s.ms.length c3, .slice A4 s.al.length c4, .slice A5 s.hd.length c5], .string a, .string b] w fun e w' => e = .returned (.tuple #[.string (mrS s a b), .int .i64 (mrC s a b)]) ∧ Below w.heap.size w w' := by
  have C1 := Lib.hid (fun (W : World) (hW : Below w.heap.size w W) (p : Nat) z0 z1 z2 z3 z4 => (Calls.mono (specIs_any p s A1 A2 A3 A4 A5 c1 c2 c3 c4 c5 W S (h1.keep (SameOn.of_below hW hS)) (h2.keep (SameOn.of_below hW hS)) (h3.keep (SameOn.of_below hW hS)) (h4.keep (SameOn.of_below hW hS)) (h5.keep (SameOn.of_below hW hS)) (fun b hb => Nat.lt_of_lt_of_le (hS b hb) hW.size) ok z0 z1 z2 z3 z4) (fun e w' ⟨he, hb⟩ => (⟨he, hW.trans (Below.mono hb hW.size), hb⟩ : e = Ending.returned (.bool (vsB s)) ∧ Below w.heap.size w w' ∧ Below W.heap.size W w'))))
  have C2 := Lib.hid (fun (W : World) (hW : Below w.heap.size w W) => (Calls.mono (specMeet_any A3 _ c3 s.ms a b W S (h3.keep (SameOn.of_below hW hS)) rfl ok.2.2.1.1 (fun b hb => Nat.lt_of_lt_of_le (hS b hb) hW.size)) (fun e w' ⟨he, hb⟩ => (⟨he, hW.trans (Below.mono hb hW.size)⟩ : e = Ending.returned (.string (mtS (mtL s.ms (mlo a b) (mhi a b)))) ∧ Below w.heap.size w w'))))
  clear h1 h2 h3 h4 h5 hS ok
  rcases tv : vsB s with _ | _
  · have HF1 := Lib.hid (show mrS s a b = ⟨#[]⟩ by unfold mrS; rw [tv]; rfl)
    have HF2 := Lib.hid (show mrC s a b = 1 by unfold mrC; rw [tv]; rfl)
    rw [tv] at C1
    clear tv C2
    go_enter Tryz.func10, Tryz.ntmps10
    go_wp2_with fail
    refine (C1.out _ (by repeat (first | exact Below.refl _ _ | refine Below.setCell ?_ (by simp) _ | refine Below.alloc ?_ (by simp <;> omega) _)) _ (by simp [go_sem]) (by simp [go_sem]) (by simp [go_sem]) (by simp [go_sem]) (by simp [go_sem])).mono ?_
    rintro e w1 ⟨rfl, b2, b3⟩
    have B2 := Lib.hid b2
    clear b2 b3
    go_wp2
    go_ret2
    exact ⟨ret_mr HF1.out HF2.out, B2.out⟩
  rw [tv] at C1
  have hms := vs_ms tv
  rcases tm : mtL s.ms (mlo a b) (mhi a b) with _ | m
  · have HF1 := Lib.hid (show mrS s a b = ⟨#[]⟩ by unfold mrS; rw [tv, tm]; rfl)
    have HF2 := Lib.hid (show mrC s a b = 3 by unfold mrC; rw [tv, tm]; rfl)
    rw [tm] at C2
    clear tv tm hms
    go_enter Tryz.func10, Tryz.ntmps10
    go_wp2_with fail
    refine (C1.out _ (by repeat (first | exact Below.refl _ _ | refine Below.setCell ?_ (by simp) _ | refine Below.alloc ?_ (by simp <;> omega) _)) _ (by simp [go_sem]) (by simp [go_sem]) (by simp [go_sem]) (by simp [go_sem]) (by simp [go_sem])).mono ?_
    rintro e w1 ⟨rfl, b2, b3⟩
    have BX := Lib.hid ((Bx.of (b := w.heap.size) (v0 := .slice A1 s.ds.length c1) (v1 := .slice A2 s.cs.length c2) (v2 := .slice A3 s.ms.length c3) (v3 := .slice A4 s.al.length c4) (v4 := .slice A5 s.hd.length c5) (by simp <;> omega) (by simp [go_sem]) (by simp [go_sem]) (by simp [go_sem]) (by simp [go_sem]) (by simp [go_sem])).next b3)
    have B2 := Lib.hid b2
    clear b2 b3
    obtain ⟨a0, a1, a2, a3, a4⟩ := BX.out.five
    have hp : w.heap.size < w1.heap.size := BX.out.1
    go_wp2_with (go_at_call 40; refine (C2.out _ B2.out).mono ?_; rintro e w2 ⟨rfl, hb⟩; have B3 := Lib.hid hb; clear hb; unfold mtS)
    go_ret2
    exact ⟨ret_mr HF1.out HF2.out, B3.out⟩
  · have HF1 := Lib.hid (show mrS s a b = m.s by unfold mrS; rw [tv, tm]; rfl)
    have HF2 := Lib.hid (show mrC s a b = 0 by unfold mrC; rw [tv, tm]; rfl)
    have gE : m.s.toList.isEmpty = false := mt_empty (mtL_empty hms tm)
    rw [tm] at C2
    clear tv tm hms
    go_enter Tryz.func10, Tryz.ntmps10
    go_wp2_with fail
    refine (C1.out _ (by repeat (first | exact Below.refl _ _ | refine Below.setCell ?_ (by simp) _ | refine Below.alloc ?_ (by simp <;> omega) _)) _ (by simp [go_sem]) (by simp [go_sem]) (by simp [go_sem]) (by simp [go_sem]) (by simp [go_sem])).mono ?_
    rintro e w1 ⟨rfl, b2, b3⟩
    have BX := Lib.hid ((Bx.of (b := w.heap.size) (v0 := .slice A1 s.ds.length c1) (v1 := .slice A2 s.cs.length c2) (v2 := .slice A3 s.ms.length c3) (v3 := .slice A4 s.al.length c4) (v4 := .slice A5 s.hd.length c5) (by simp <;> omega) (by simp [go_sem]) (by simp [go_sem]) (by simp [go_sem]) (by simp [go_sem]) (by simp [go_sem])).next b3)
    have B2 := Lib.hid b2
    clear b2 b3
    obtain ⟨a0, a1, a2, a3, a4⟩ := BX.out.five
    have hp : w.heap.size < w1.heap.size := BX.out.1
    go_wp2_with (go_at_call 40; refine (C2.out _ B2.out).mono ?_; rintro e w2 ⟨rfl, hb⟩; have B3 := Lib.hid hb; clear hb; unfold mtS)
    go_ret2
    exact ⟨ret_mr HF1.out HF2.out, B3.out⟩
theorem ret_mt {o : Option Mt} {u : ByteArray} {q : Int} (h : mtS o = u) (h2 : mtC o = q) : Ending.returned (.tuple #[.string u, .int .i64 q]) = Ending.returned (.tuple #[.string (mtS o), .int .i64 (mtC o)]) := by rw [h, h2]
set_option maxRecDepth 100000 in
set_option maxHeartbeats 1600000 in
theorem meeting_any (ms : List Mt) (a b : ByteArray) (A3 : Option Addr) (c3 : Nat) (w : World) (S : Nat → Prop) (h3 : LRow mtR w S A3 ms) (hS : ∀ b, S b → b < w.heap.size) (hn : ms.length ≤ 1048576) :
    Calls Tryz.prog 46 #[.slice A3 ms.length c3, .string a, .string b] w fun e w' => e = .returned (.tuple #[.string (mtS (mtL ms (mlo a b) (mhi a b))), .int .i64 (mtC (mtL ms (mlo a b) (mhi a b)))]) ∧ Below w.heap.size w w' := by
  have HR := Lib.hid h3
  have HS := Lib.hid hS
  clear h3 hS
  obtain ⟨x, hx⟩ : ∃ x, x = mlo a b := ⟨_, rfl⟩
  obtain ⟨y, hy⟩ : ∃ y, y = mhi a b := ⟨_, rfl⟩
  have hmn : ∀ (w : World) (ts : Array TypeId) (t : TypeId), (Builtin.min_ ts t #[.string a, .string b]).run Tryz.prog w = .ok (.string x) w := fun w ts t => by rw [Lib.run_min_strs, minS_mlo, hx]
  have hmx : ∀ (w : World) (ts : Array TypeId) (t : TypeId), (Builtin.max_ ts t #[.string a, .string b]).run Tryz.prog w = .ok (.string y) w := fun w ts t => by rw [Lib.run_max_strs, maxS_mhi, hy]
  rw [← hx, ← hy]
  clear hx hy
  go_enter Tryz.func46, Tryz.ntmps46
  go_wp2
  go_loopw [12] (fun i wr => ∃ k : Nat, k ≤ ms.length ∧ i = .int .i64 k ∧ Hid (Below w.heap.size w wr) ∧ Hid ((ms.take k).any (mtP x y) = false)) (fun i _ => ms.length - (intOf i).toNat)
  case atStart => exact ⟨0, Nat.zero_le _, rfl, Lib.hid (by repeat (first | exact Below.refl _ _ | refine Below.setCell ?_ (by simp) _ | refine Below.alloc ?_ (by simp <;> omega) _)), Lib.hid rfl⟩
  case round =>
    obtain ⟨k, hk, rfl, HB, HT⟩ := hrel
    have hsz := HB.out.size
    by_cases hlt : k < ms.length
    · obtain ⟨b', o, cs, m, rfl, hb, hR, hm, hc⟩ := (HR.out.keep (SameOn.of_below HB.out HS.out)).at_ (k := k) hlt
      obtain ⟨rfl, _⟩ := hR
      have r0 : wr.cell? ⟨b', o + k * 3, none⟩ = some (.string m.l) := hc 0 _ rfl
      have r1 : wr.cell? ⟨b', o + k * 3 + 1, none⟩ = some (.string m.r) := hc 1 _ rfl
      have r2 : wr.cell? ⟨b', o + k * 3 + 2, none⟩ = some (.string m.s) := hc 2 _ rfl
      have hbw := HS.out b' hb
      have lb : b' < wr.heap.size := by omega
      have HB1 := Lib.hid (show Below w.heap.size w (wr.alloc (.cells #[.string m.l, .string m.r, .string m.s] 122)) from HB.out.alloc hsz _)
      clear hc hb
      rcases tl : eqB m.l x with _ | _
      · have HN := Lib.hid (any_take_next (p := mtP x y) HT.out hm.out (mtP_no tl))
        have g1 : (m.l.toList == x.toList) = false := tl
        clear tl
        go_wp2
        go_roundw
        case rel => exact ⟨k + 1, by omega, by go_num, HB1, HN⟩
        case measure => simp [intOf]; omega
      rcases tr : eqB m.r y with _ | _
      · have HN := Lib.hid (any_take_next (p := mtP x y) HT.out hm.out (mtP_no2 tr))
        have g1 : (m.l.toList == x.toList) = true := tl
        have g2 : (m.r.toList == y.toList) = false := tr
        clear tl tr
        go_wp2
        go_roundw
        case rel => exact ⟨k + 1, by omega, by go_num, HB1, HN⟩
        case measure => simp [intOf]; omega
      · have HF := Lib.hid (mtL_hit HT.out hm.out (mtP_yes tl tr))
        have g1 : (m.l.toList == x.toList) = true := tl
        have g2 : (m.r.toList == y.toList) = true := tr
        clear tl tr
        go_wp2
        go_ret2
        exact ⟨ret_mt (by rw [HF.out]; rfl) (by rw [HF.out]; rfl), HB1.out⟩
    · have HF := Lib.hid (show mtL ms x y = none by
        have ht := HT.out
        rw [List.take_of_length_le (by omega)] at ht
        exact mtL_miss ht)
      go_wp2
      go_ret2
      exact ⟨ret_mt (by rw [HF.out]; rfl) (by rw [HF.out]; rfl), HB.out⟩
set_option maxRecDepth 100000 in
theorem implMeetingOf_any (s : Sy) (a b : ByteArray) (A1 A2 A3 A4 A5 : Option Addr) (c1 c2 c3 c4 c5 : Nat) (w : World) (S : Nat → Prop) (h1 : LRow dfR w S A1 s.ds) (h2 : LRow cpR w S A2 s.cs) (h3 : LRow mtR w S A3 s.ms) (h4 : LRow txtR w S A4 s.al) (h5 : LRow txtR w S A5 s.hd) (hS : ∀ b, S b → b < w.heap.size) (ok : okSy s) (ht : FormTab w) :
    Calls Tryz.prog 12 #[.agg #[.slice A1 s.ds.length c1, .slice A2 s.cs.length c2, .slice A3 s.ms.length c3, .slice A4 s.al.length c4, .slice A5 s.hd.length c5], .string a, .string b] w fun e w' => e = .returned (.tuple #[.string (mrS s a b), .int .i64 (mrC s a b)]) ∧ Below w.heap.size w w' := by
  have C1 := Lib.hid (fun (W : World) (hW : Below w.heap.size w W) => (Calls.mono (implValidSys_any s A1 A2 A3 A4 A5 c1 c2 c3 c4 c5 W S (h1.keep (SameOn.of_below hW hS)) (h2.keep (SameOn.of_below hW hS)) (h3.keep (SameOn.of_below hW hS)) (h4.keep (SameOn.of_below hW hS)) (h5.keep (SameOn.of_below hW hS)) (fun b hb => Nat.lt_of_lt_of_le (hS b hb) hW.size) ok (ht.below hW)) (fun e w' ⟨he, hb⟩ => (⟨he, hW.trans (Below.mono hb hW.size), hb⟩ : e = Ending.returned (.bool (vsB s)) ∧ Below w.heap.size w w' ∧ Below W.heap.size W w'))))
  have C2 := Lib.hid (fun (W : World) (hW : Below w.heap.size w W) => (Calls.mono (meeting_any s.ms a b A3 c3 W S (h3.keep (SameOn.of_below hW hS)) (fun b hb => Nat.lt_of_lt_of_le (hS b hb) hW.size) ok.2.2.1.1) (fun e w' ⟨he, hb⟩ => (⟨he, hW.trans (Below.mono hb hW.size)⟩ : e = Ending.returned (.tuple #[.string (mtS (mtL s.ms (mlo a b) (mhi a b))), .int .i64 (mtC (mtL s.ms (mlo a b) (mhi a b)))]) ∧ Below w.heap.size w w'))))
  clear h1 h2 h3 h4 h5 hS ok ht
  rcases tv : vsB s with _ | _
  · have HF1 := Lib.hid (show mrS s a b = ⟨#[]⟩ by unfold mrS; rw [tv]; rfl)
    have HF2 := Lib.hid (show mrC s a b = 1 by unfold mrC; rw [tv]; rfl)
    rw [tv] at C1
    clear tv C2
    go_enter Tryz.func12, Tryz.ntmps12
    go_wp2_with fail
    refine (C1.out _ (by repeat (first | exact Below.refl _ _ | refine Below.setCell ?_ (by simp) _ | refine Below.alloc ?_ (by simp <;> omega) _))).mono ?_
    rintro e w1 ⟨rfl, b2, b3⟩
    have B2 := Lib.hid b2
    clear b2 b3
    go_wp2
    go_ret2
    exact ⟨ret_mr HF1.out HF2.out, B2.out⟩
  · have HF1 := Lib.hid (show mrS s a b = mtS (mtL s.ms (mlo a b) (mhi a b)) by unfold mrS; rw [tv]; rfl)
    have HF2 := Lib.hid (show mrC s a b = mtC (mtL s.ms (mlo a b) (mhi a b)) by unfold mrC; rw [tv]; rfl)
    rw [tv] at C1
    clear tv
    go_enter Tryz.func12, Tryz.ntmps12
    go_wp2_with fail
    refine (C1.out _ (by repeat (first | exact Below.refl _ _ | refine Below.setCell ?_ (by simp) _ | refine Below.alloc ?_ (by simp <;> omega) _))).mono ?_
    rintro e w1 ⟨rfl, b2, b3⟩
    have BX := Lib.hid ((Bx.of (b := w.heap.size) (v0 := .slice A1 s.ds.length c1) (v1 := .slice A2 s.cs.length c2) (v2 := .slice A3 s.ms.length c3) (v3 := .slice A4 s.al.length c4) (v4 := .slice A5 s.hd.length c5) (by simp <;> omega) (by simp [go_sem]) (by simp [go_sem]) (by simp [go_sem]) (by simp [go_sem]) (by simp [go_sem])).next b3)
    have B2 := Lib.hid b2
    clear b2 b3
    obtain ⟨a0, a1, a2, a3, a4⟩ := BX.out.five
    have hp : w.heap.size < w1.heap.size := BX.out.1
    go_wp2_with (go_at_call 46; refine (C2.out _ B2.out).mono ?_; rintro e w2 ⟨rfl, hb⟩; have B3 := Lib.hid hb; clear hb)
    go_ret2
    exact ⟨ret_mr HF1.out HF2.out, B3.out⟩
end Go.Proofs.YtdgcpaeneafejaaGreatDoor
