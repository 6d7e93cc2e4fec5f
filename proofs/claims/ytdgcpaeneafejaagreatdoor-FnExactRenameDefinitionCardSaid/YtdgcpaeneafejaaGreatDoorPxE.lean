/- A part in its place: the program's check. -/
import Derived.Test.YtdgcpaeneafejaaGreatDoorPxAD
namespace Go.Proofs.YtdgcpaeneafejaaGreatDoor
open Go.RowKit
/-- What the program answers for a reason. -/
def chkV (r : Int) : Value := if r = 0 then .nilIface else .iface 196 (.int .i64 r)
theorem implKnown_any (x : Pt) (E : Option Addr) (ce : Nat) (w : World) (h : 0 ≤ x.k ∧ x.k ≤ 5) :
    Calls Tryz.prog 166 #[.agg #[.int .i64 x.k, .int .i64 x.n, .string x.nm, .slice E x.args.length ce]] w fun e w' => e = .returned (.bool true) ∧ Below w.heap.size w w' := by
  obtain ⟨h0, h5⟩ := h
  go_enter Tryz.func166, Tryz.ntmps166
  go_wp2
  go_ret
  exact ⟨rfl, (by repeat (first | exact Below.refl _ _ | refine Below.setCell ?_ (by simp) _ | refine Below.alloc ?_ (by simp <;> omega) _))⟩
theorem implTermsX_any (x : Pt) (s : Int) (cc : Bool) (E : Option Addr) (ce : Nat) (en : Int) (w : World) (S : Nat → Prop) (g : LRow (listR tmR) w S E x.args) (hS : ∀ b, S b → b < w.heap.size) (hs : 0 ≤ s ∧ s ≤ 23) (hok : okList (okList okAny) x.args) :
    Calls Tryz.prog 176 #[.agg #[.int .i64 x.k, .int .i64 x.n, .string x.nm, .slice E x.args.length ce, .int .i64 en, .int .i64 s, .bool cc]] w fun e w' => e = .returned (.bool (trmB s x.args)) ∧ Below w.heap.size w w' :=
  implTerms_any ⟨x, 0, s, cc⟩ E ce en w S g hS hs hok
set_option maxRecDepth 100000 in
set_option maxHeartbeats 16000000 in
theorem implCheck_true (x : Pt) (s : Int) (n0 : Nat) (E : Option Addr) (ce : Nat) (en : Int) (A : Option Addr) (c : Nat) (ls : List Df) (w : World) (S : Nat → Prop) (hn : ls.length ≤ 4) (h : LRow dfR w S A ls) (g : LRow (listR tmR) w S E x.args) (hS : ∀ b, S b → b < w.heap.size) (hs : 0 ≤ s ∧ s ≤ 23) (hok : okList (okList okAny) x.args) (ht : FormTab w) :
    Calls Tryz.prog 160 #[.agg #[.int .i64 x.k, .int .i64 x.n, .string x.nm, .slice E x.args.length ce, .int .i64 en, .int .i64 s, .bool true], .slice A ls.length c] w fun e w' => e = .returned (chkV (rsn ls ⟨x, n0, s, true⟩)) ∧ Below w.heap.size w w' := by
  have CK := Lib.hid (fun (W : World) (hW : Below w.heap.size w W) (hkn : 0 ≤ x.k ∧ x.k ≤ 5) => (Calls.mono (implKnown_any x E ce W hkn) (fun e w' ⟨he, hb⟩ => (⟨he, hW.trans (Below.mono hb hW.size), hb⟩ : e = Ending.returned (.bool (true)) ∧ Below w.heap.size w w' ∧ Below W.heap.size W w'))))
  have CL := Lib.hid (fun (W : World) (hW : Below w.heap.size w W) (hkn : 0 ≤ x.k ∧ x.k ≤ 5) => (Calls.mono (implLeaves_any x E ce W (FormTab.below ht hW) hkn) (fun e w' ⟨he, hb⟩ => (⟨he, hW.trans (Below.mono hb hW.size), hb⟩ : e = Ending.returned (.bool (kindB x)) ∧ Below w.heap.size w w' ∧ Below W.heap.size W w'))))
  have CN := Lib.hid (fun (W : World) (hW : Below w.heap.size w W) => (Calls.mono (implHasName_any x E ce W) (fun e w' ⟨he, hb⟩ => (⟨he, hW.trans (Below.mono hb hW.size), hb⟩ : e = Ending.returned (.bool (nmB x)) ∧ Below w.heap.size w w' ∧ Below W.heap.size W w'))))
  have CM := Lib.hid (fun (W : World) (hW : Below w.heap.size w W) => (Calls.mono (implHasNumber_any x E ce A c ls W hn) (fun e w' ⟨he, hb⟩ => (⟨he, hW.trans (Below.mono hb hW.size), hb⟩ : e = Ending.returned (.bool (numB ls x)) ∧ Below w.heap.size w w' ∧ Below W.heap.size W w'))))
  have CC := Lib.hid (fun (W : World) (hW : Below w.heap.size w W) (hnum : numB ls x = true) => (Calls.mono (implHasCount_any x E ce A c ls W S hn (h.keep (SameOn.of_below hW hS)) (fun b hb => Nat.lt_of_lt_of_le (hS b hb) hW.size) hnum) (fun e w' ⟨he, hb⟩ => (⟨he, hW.trans (Below.mono hb hW.size), hb⟩ : e = Ending.returned (.bool (cntB ls x)) ∧ Below w.heap.size w w' ∧ Below W.heap.size W w'))))
  have CT := Lib.hid (fun (W : World) (hW : Below w.heap.size w W) => (Calls.mono (implTermsX_any x s true E ce en W S (g.keep (SameOn.of_below hW hS)) (fun b hb => Nat.lt_of_lt_of_le (hS b hb) hW.size) hs hok) (fun e w' ⟨he, hb⟩ => (⟨he, hW.trans (Below.mono hb hW.size), hb⟩ : e = Ending.returned (.bool (trmB s x.args)) ∧ Below w.heap.size w w' ∧ Below W.heap.size W w'))))
  clear h g hS hok ht
  by_cases hkn : 0 ≤ x.k ∧ x.k ≤ 5
  rotate_left
  · have hkb : kindB x = false := by unfold kindB; rw [if_neg (by omega), if_neg (by omega), if_neg (by omega), if_neg (by omega), if_neg (by omega)]
    have HF := Lib.hid (show rsn ls ⟨x, n0, s, true⟩ = 2 by unfold rsn; simp [hkb])
    clear hkb CK CL CN CM CC CT
    by_cases h0 : 0 ≤ x.k
    · have h5 : ¬ x.k ≤ 5 := fun h => hkn ⟨h0, h⟩
      clear hkn
      go_enter Tryz.func160, Tryz.ntmps160
      go_wp2
      go_ret
      exact ⟨by rw [HF.out]; rfl, (by repeat (first | exact Below.refl _ _ | refine Below.setCell ?_ (by simp) _ | refine Below.alloc ?_ (by simp <;> omega) _))⟩
    · clear hkn
      go_enter Tryz.func160, Tryz.ntmps160
      go_wp2
      go_ret
      exact ⟨by rw [HF.out]; rfl, (by repeat (first | exact Below.refl _ _ | refine Below.setCell ?_ (by simp) _ | refine Below.alloc ?_ (by simp <;> omega) _))⟩
  have HKN := Lib.hid hkn
  obtain ⟨hk0, hk5⟩ := hkn
  rcases tL : kindB x with _ | _
  · have HF := Lib.hid (show rsn ls ⟨x, n0, s, true⟩ = 2 by unfold rsn; simp [tL])
    have TL := Lib.hid tL
    clear tL
    go_enter Tryz.func160, Tryz.ntmps160
    go_wp2_with fail
    refine (CK.out _ (by repeat (first | exact Below.refl _ _ | refine Below.setCell ?_ (by simp) _ | refine Below.alloc ?_ (by simp <;> omega) _)) HKN.out).mono ?_
    rintro e v0 ⟨rfl, b2, b3⟩
    have BX := Lib.hid ((Bx.of7 (b := w.heap.size) (v0 := .int .i64 x.k) (v1 := .int .i64 x.n) (v2 := .string x.nm) (v3 := .slice E x.args.length ce) (v4 := .int .i64 en) (v5 := .int .i64 s) (v6 := .bool true) (by simp <;> omega) (by simp [go_sem]) (by simp [go_sem]) (by simp [go_sem]) (by simp [go_sem]) (by simp [go_sem]) (by simp [go_sem]) (by simp [go_sem])).next b3)
    have HB := Lib.hid b2
    have hws := b2.size
    clear b2 b3
    obtain ⟨k0, k1, k2, k3, k4, k5, k6⟩ := BX.out.seven
    have hbw : w.heap.size < v0.heap.size := BX.out.1
    go_wp2_with fail
    refine (CL.out _ (by repeat (first | exact HB.out | refine Below.setCell ?_ (by first | omega | (simp <;> omega)) _ | refine Below.alloc ?_ (by first | omega | (simp <;> omega)) _)) HKN.out).mono ?_
    rw [TL.out]
    rintro e v1 ⟨rfl, b2, b3⟩
    have BX := Lib.hid (BX.out.next (Below.trans (by repeat (first | exact Below.refl _ _ | refine Below.setCell ?_ (by simp <;> omega) _ | refine Below.alloc ?_ (by simp <;> omega) _)) (b3.mono (by simp <;> omega))))
    clear k0 k1 k2 k3 k4 k5 k6
    have HB := Lib.hid b2
    have hws := b2.size
    clear b2 b3
    obtain ⟨k0, k1, k2, k3, k4, k5, k6⟩ := BX.out.seven
    have hbw : w.heap.size < v1.heap.size := BX.out.1
    go_wp2
    go_ret
    exact ⟨by rw [HF.out]; rfl, HB.out⟩
  have TL := Lib.hid tL
  rcases tN : nmB x with _ | _
  · have HF := Lib.hid (show rsn ls ⟨x, n0, s, true⟩ = 3 by unfold rsn; simp [tL, tN])
    have TN := Lib.hid tN
    clear tL tN
    go_enter Tryz.func160, Tryz.ntmps160
    go_wp2_with fail
    refine (CK.out _ (by repeat (first | exact Below.refl _ _ | refine Below.setCell ?_ (by simp) _ | refine Below.alloc ?_ (by simp <;> omega) _)) HKN.out).mono ?_
    rintro e v0 ⟨rfl, b2, b3⟩
    have BX := Lib.hid ((Bx.of7 (b := w.heap.size) (v0 := .int .i64 x.k) (v1 := .int .i64 x.n) (v2 := .string x.nm) (v3 := .slice E x.args.length ce) (v4 := .int .i64 en) (v5 := .int .i64 s) (v6 := .bool true) (by simp <;> omega) (by simp [go_sem]) (by simp [go_sem]) (by simp [go_sem]) (by simp [go_sem]) (by simp [go_sem]) (by simp [go_sem]) (by simp [go_sem])).next b3)
    have HB := Lib.hid b2
    have hws := b2.size
    clear b2 b3
    obtain ⟨k0, k1, k2, k3, k4, k5, k6⟩ := BX.out.seven
    have hbw : w.heap.size < v0.heap.size := BX.out.1
    go_wp2_with fail
    refine (CL.out _ (by repeat (first | exact HB.out | refine Below.setCell ?_ (by first | omega | (simp <;> omega)) _ | refine Below.alloc ?_ (by first | omega | (simp <;> omega)) _)) HKN.out).mono ?_
    rw [TL.out]
    rintro e v1 ⟨rfl, b2, b3⟩
    have BX := Lib.hid (BX.out.next (Below.trans (by repeat (first | exact Below.refl _ _ | refine Below.setCell ?_ (by simp <;> omega) _ | refine Below.alloc ?_ (by simp <;> omega) _)) (b3.mono (by simp <;> omega))))
    clear k0 k1 k2 k3 k4 k5 k6
    have HB := Lib.hid b2
    have hws := b2.size
    clear b2 b3
    obtain ⟨k0, k1, k2, k3, k4, k5, k6⟩ := BX.out.seven
    have hbw : w.heap.size < v1.heap.size := BX.out.1
    go_wp2_with fail
    refine (CN.out _ (by repeat (first | exact HB.out | refine Below.setCell ?_ (by first | omega | (simp <;> omega)) _ | refine Below.alloc ?_ (by first | omega | (simp <;> omega)) _))).mono ?_
    rw [TN.out]
    rintro e v2 ⟨rfl, b2, b3⟩
    have BX := Lib.hid (BX.out.next (Below.trans (by repeat (first | exact Below.refl _ _ | refine Below.setCell ?_ (by simp <;> omega) _ | refine Below.alloc ?_ (by simp <;> omega) _)) (b3.mono (by simp <;> omega))))
    clear k0 k1 k2 k3 k4 k5 k6
    have HB := Lib.hid b2
    have hws := b2.size
    clear b2 b3
    obtain ⟨k0, k1, k2, k3, k4, k5, k6⟩ := BX.out.seven
    have hbw : w.heap.size < v2.heap.size := BX.out.1
    go_wp2
    go_ret
    exact ⟨by rw [HF.out]; rfl, HB.out⟩
  have TN := Lib.hid tN
  rcases tM : numB ls x with _ | _
  · have HF := Lib.hid (show rsn ls ⟨x, n0, s, true⟩ = 4 by unfold rsn; simp [tL, tN, tM])
    have TM := Lib.hid tM
    clear tL tN tM
    go_enter Tryz.func160, Tryz.ntmps160
    go_wp2_with fail
    refine (CK.out _ (by repeat (first | exact Below.refl _ _ | refine Below.setCell ?_ (by simp) _ | refine Below.alloc ?_ (by simp <;> omega) _)) HKN.out).mono ?_
    rintro e v0 ⟨rfl, b2, b3⟩
    have BX := Lib.hid ((Bx.of7 (b := w.heap.size) (v0 := .int .i64 x.k) (v1 := .int .i64 x.n) (v2 := .string x.nm) (v3 := .slice E x.args.length ce) (v4 := .int .i64 en) (v5 := .int .i64 s) (v6 := .bool true) (by simp <;> omega) (by simp [go_sem]) (by simp [go_sem]) (by simp [go_sem]) (by simp [go_sem]) (by simp [go_sem]) (by simp [go_sem]) (by simp [go_sem])).next b3)
    have HB := Lib.hid b2
    have hws := b2.size
    clear b2 b3
    obtain ⟨k0, k1, k2, k3, k4, k5, k6⟩ := BX.out.seven
    have hbw : w.heap.size < v0.heap.size := BX.out.1
    go_wp2_with fail
    refine (CL.out _ (by repeat (first | exact HB.out | refine Below.setCell ?_ (by first | omega | (simp <;> omega)) _ | refine Below.alloc ?_ (by first | omega | (simp <;> omega)) _)) HKN.out).mono ?_
    rw [TL.out]
    rintro e v1 ⟨rfl, b2, b3⟩
    have BX := Lib.hid (BX.out.next (Below.trans (by repeat (first | exact Below.refl _ _ | refine Below.setCell ?_ (by simp <;> omega) _ | refine Below.alloc ?_ (by simp <;> omega) _)) (b3.mono (by simp <;> omega))))
    clear k0 k1 k2 k3 k4 k5 k6
    have HB := Lib.hid b2
    have hws := b2.size
    clear b2 b3
    obtain ⟨k0, k1, k2, k3, k4, k5, k6⟩ := BX.out.seven
    have hbw : w.heap.size < v1.heap.size := BX.out.1
    go_wp2_with fail
    refine (CN.out _ (by repeat (first | exact HB.out | refine Below.setCell ?_ (by first | omega | (simp <;> omega)) _ | refine Below.alloc ?_ (by first | omega | (simp <;> omega)) _))).mono ?_
    rw [TN.out]
    rintro e v2 ⟨rfl, b2, b3⟩
    have BX := Lib.hid (BX.out.next (Below.trans (by repeat (first | exact Below.refl _ _ | refine Below.setCell ?_ (by simp <;> omega) _ | refine Below.alloc ?_ (by simp <;> omega) _)) (b3.mono (by simp <;> omega))))
    clear k0 k1 k2 k3 k4 k5 k6
    have HB := Lib.hid b2
    have hws := b2.size
    clear b2 b3
    obtain ⟨k0, k1, k2, k3, k4, k5, k6⟩ := BX.out.seven
    have hbw : w.heap.size < v2.heap.size := BX.out.1
    go_wp2_with fail
    refine (CM.out _ (by repeat (first | exact HB.out | refine Below.setCell ?_ (by first | omega | (simp <;> omega)) _ | refine Below.alloc ?_ (by first | omega | (simp <;> omega)) _))).mono ?_
    rw [TM.out]
    rintro e v3 ⟨rfl, b2, b3⟩
    have BX := Lib.hid (BX.out.next (Below.trans (by repeat (first | exact Below.refl _ _ | refine Below.setCell ?_ (by simp <;> omega) _ | refine Below.alloc ?_ (by simp <;> omega) _)) (b3.mono (by simp <;> omega))))
    clear k0 k1 k2 k3 k4 k5 k6
    have HB := Lib.hid b2
    have hws := b2.size
    clear b2 b3
    obtain ⟨k0, k1, k2, k3, k4, k5, k6⟩ := BX.out.seven
    have hbw : w.heap.size < v3.heap.size := BX.out.1
    go_wp2
    go_ret
    exact ⟨by rw [HF.out]; rfl, HB.out⟩
  have TM := Lib.hid tM
  rcases tC : cntB ls x with _ | _
  · have HF := Lib.hid (show rsn ls ⟨x, n0, s, true⟩ = 5 by unfold rsn; simp [tL, tN, tM, tC])
    have TC := Lib.hid tC
    clear tL tN tM tC
    go_enter Tryz.func160, Tryz.ntmps160
    go_wp2_with fail
    refine (CK.out _ (by repeat (first | exact Below.refl _ _ | refine Below.setCell ?_ (by simp) _ | refine Below.alloc ?_ (by simp <;> omega) _)) HKN.out).mono ?_
    rintro e v0 ⟨rfl, b2, b3⟩
    have BX := Lib.hid ((Bx.of7 (b := w.heap.size) (v0 := .int .i64 x.k) (v1 := .int .i64 x.n) (v2 := .string x.nm) (v3 := .slice E x.args.length ce) (v4 := .int .i64 en) (v5 := .int .i64 s) (v6 := .bool true) (by simp <;> omega) (by simp [go_sem]) (by simp [go_sem]) (by simp [go_sem]) (by simp [go_sem]) (by simp [go_sem]) (by simp [go_sem]) (by simp [go_sem])).next b3)
    have HB := Lib.hid b2
    have hws := b2.size
    clear b2 b3
    obtain ⟨k0, k1, k2, k3, k4, k5, k6⟩ := BX.out.seven
    have hbw : w.heap.size < v0.heap.size := BX.out.1
    go_wp2_with fail
    refine (CL.out _ (by repeat (first | exact HB.out | refine Below.setCell ?_ (by first | omega | (simp <;> omega)) _ | refine Below.alloc ?_ (by first | omega | (simp <;> omega)) _)) HKN.out).mono ?_
    rw [TL.out]
    rintro e v1 ⟨rfl, b2, b3⟩
    have BX := Lib.hid (BX.out.next (Below.trans (by repeat (first | exact Below.refl _ _ | refine Below.setCell ?_ (by simp <;> omega) _ | refine Below.alloc ?_ (by simp <;> omega) _)) (b3.mono (by simp <;> omega))))
    clear k0 k1 k2 k3 k4 k5 k6
    have HB := Lib.hid b2
    have hws := b2.size
    clear b2 b3
    obtain ⟨k0, k1, k2, k3, k4, k5, k6⟩ := BX.out.seven
    have hbw : w.heap.size < v1.heap.size := BX.out.1
    go_wp2_with fail
    refine (CN.out _ (by repeat (first | exact HB.out | refine Below.setCell ?_ (by first | omega | (simp <;> omega)) _ | refine Below.alloc ?_ (by first | omega | (simp <;> omega)) _))).mono ?_
    rw [TN.out]
    rintro e v2 ⟨rfl, b2, b3⟩
    have BX := Lib.hid (BX.out.next (Below.trans (by repeat (first | exact Below.refl _ _ | refine Below.setCell ?_ (by simp <;> omega) _ | refine Below.alloc ?_ (by simp <;> omega) _)) (b3.mono (by simp <;> omega))))
    clear k0 k1 k2 k3 k4 k5 k6
    have HB := Lib.hid b2
    have hws := b2.size
    clear b2 b3
    obtain ⟨k0, k1, k2, k3, k4, k5, k6⟩ := BX.out.seven
    have hbw : w.heap.size < v2.heap.size := BX.out.1
    go_wp2_with fail
    refine (CM.out _ (by repeat (first | exact HB.out | refine Below.setCell ?_ (by first | omega | (simp <;> omega)) _ | refine Below.alloc ?_ (by first | omega | (simp <;> omega)) _))).mono ?_
    rw [TM.out]
    rintro e v3 ⟨rfl, b2, b3⟩
    have BX := Lib.hid (BX.out.next (Below.trans (by repeat (first | exact Below.refl _ _ | refine Below.setCell ?_ (by simp <;> omega) _ | refine Below.alloc ?_ (by simp <;> omega) _)) (b3.mono (by simp <;> omega))))
    clear k0 k1 k2 k3 k4 k5 k6
    have HB := Lib.hid b2
    have hws := b2.size
    clear b2 b3
    obtain ⟨k0, k1, k2, k3, k4, k5, k6⟩ := BX.out.seven
    have hbw : w.heap.size < v3.heap.size := BX.out.1
    go_wp2_with fail
    refine (CC.out _ (by repeat (first | exact HB.out | refine Below.setCell ?_ (by first | omega | (simp <;> omega)) _ | refine Below.alloc ?_ (by first | omega | (simp <;> omega)) _)) TM.out).mono ?_
    rw [TC.out]
    rintro e v4 ⟨rfl, b2, b3⟩
    have BX := Lib.hid (BX.out.next (Below.trans (by repeat (first | exact Below.refl _ _ | refine Below.setCell ?_ (by simp <;> omega) _ | refine Below.alloc ?_ (by simp <;> omega) _)) (b3.mono (by simp <;> omega))))
    clear k0 k1 k2 k3 k4 k5 k6
    have HB := Lib.hid b2
    have hws := b2.size
    clear b2 b3
    obtain ⟨k0, k1, k2, k3, k4, k5, k6⟩ := BX.out.seven
    have hbw : w.heap.size < v4.heap.size := BX.out.1
    go_wp2
    go_ret
    exact ⟨by rw [HF.out]; rfl, HB.out⟩
  have TC := Lib.hid tC
  by_cases h5 : x.k = 5
  · have e5 : (x.k == 5) = true := ib_eq h5
    have e4 : (x.k == 4) = false := ib_ne (by omega)
    rcases tT : trmB s x.args with _ | _
    · have HF := Lib.hid (show rsn ls ⟨x, n0, s, true⟩ = 8 by unfold rsn; simp [tL, tN, tM, tC, tT, h5])
      have TT := Lib.hid tT
      clear tL tN tM tC tT h5
      go_enter Tryz.func160, Tryz.ntmps160
      go_wp2_with fail
      refine (CK.out _ (by repeat (first | exact Below.refl _ _ | refine Below.setCell ?_ (by simp) _ | refine Below.alloc ?_ (by simp <;> omega) _)) HKN.out).mono ?_
      rintro e v0 ⟨rfl, b2, b3⟩
      have BX := Lib.hid ((Bx.of7 (b := w.heap.size) (v0 := .int .i64 x.k) (v1 := .int .i64 x.n) (v2 := .string x.nm) (v3 := .slice E x.args.length ce) (v4 := .int .i64 en) (v5 := .int .i64 s) (v6 := .bool true) (by simp <;> omega) (by simp [go_sem]) (by simp [go_sem]) (by simp [go_sem]) (by simp [go_sem]) (by simp [go_sem]) (by simp [go_sem]) (by simp [go_sem])).next b3)
      have HB := Lib.hid b2
      have hws := b2.size
      clear b2 b3
      obtain ⟨k0, k1, k2, k3, k4, k5, k6⟩ := BX.out.seven
      have hbw : w.heap.size < v0.heap.size := BX.out.1
      go_wp2_with fail
      refine (CL.out _ (by repeat (first | exact HB.out | refine Below.setCell ?_ (by first | omega | (simp <;> omega)) _ | refine Below.alloc ?_ (by first | omega | (simp <;> omega)) _)) HKN.out).mono ?_
      rw [TL.out]
      rintro e v1 ⟨rfl, b2, b3⟩
      have BX := Lib.hid (BX.out.next (Below.trans (by repeat (first | exact Below.refl _ _ | refine Below.setCell ?_ (by simp <;> omega) _ | refine Below.alloc ?_ (by simp <;> omega) _)) (b3.mono (by simp <;> omega))))
      clear k0 k1 k2 k3 k4 k5 k6
      have HB := Lib.hid b2
      have hws := b2.size
      clear b2 b3
      obtain ⟨k0, k1, k2, k3, k4, k5, k6⟩ := BX.out.seven
      have hbw : w.heap.size < v1.heap.size := BX.out.1
      go_wp2_with fail
      refine (CN.out _ (by repeat (first | exact HB.out | refine Below.setCell ?_ (by first | omega | (simp <;> omega)) _ | refine Below.alloc ?_ (by first | omega | (simp <;> omega)) _))).mono ?_
      rw [TN.out]
      rintro e v2 ⟨rfl, b2, b3⟩
      have BX := Lib.hid (BX.out.next (Below.trans (by repeat (first | exact Below.refl _ _ | refine Below.setCell ?_ (by simp <;> omega) _ | refine Below.alloc ?_ (by simp <;> omega) _)) (b3.mono (by simp <;> omega))))
      clear k0 k1 k2 k3 k4 k5 k6
      have HB := Lib.hid b2
      have hws := b2.size
      clear b2 b3
      obtain ⟨k0, k1, k2, k3, k4, k5, k6⟩ := BX.out.seven
      have hbw : w.heap.size < v2.heap.size := BX.out.1
      go_wp2_with fail
      refine (CM.out _ (by repeat (first | exact HB.out | refine Below.setCell ?_ (by first | omega | (simp <;> omega)) _ | refine Below.alloc ?_ (by first | omega | (simp <;> omega)) _))).mono ?_
      rw [TM.out]
      rintro e v3 ⟨rfl, b2, b3⟩
      have BX := Lib.hid (BX.out.next (Below.trans (by repeat (first | exact Below.refl _ _ | refine Below.setCell ?_ (by simp <;> omega) _ | refine Below.alloc ?_ (by simp <;> omega) _)) (b3.mono (by simp <;> omega))))
      clear k0 k1 k2 k3 k4 k5 k6
      have HB := Lib.hid b2
      have hws := b2.size
      clear b2 b3
      obtain ⟨k0, k1, k2, k3, k4, k5, k6⟩ := BX.out.seven
      have hbw : w.heap.size < v3.heap.size := BX.out.1
      go_wp2_with fail
      refine (CC.out _ (by repeat (first | exact HB.out | refine Below.setCell ?_ (by first | omega | (simp <;> omega)) _ | refine Below.alloc ?_ (by first | omega | (simp <;> omega)) _)) TM.out).mono ?_
      rw [TC.out]
      rintro e v4 ⟨rfl, b2, b3⟩
      have BX := Lib.hid (BX.out.next (Below.trans (by repeat (first | exact Below.refl _ _ | refine Below.setCell ?_ (by simp <;> omega) _ | refine Below.alloc ?_ (by simp <;> omega) _)) (b3.mono (by simp <;> omega))))
      clear k0 k1 k2 k3 k4 k5 k6
      have HB := Lib.hid b2
      have hws := b2.size
      clear b2 b3
      obtain ⟨k0, k1, k2, k3, k4, k5, k6⟩ := BX.out.seven
      have hbw : w.heap.size < v4.heap.size := BX.out.1
      go_wp2_with fail
      refine (CT.out _ (by repeat (first | exact HB.out | refine Below.setCell ?_ (by first | omega | (simp <;> omega)) _ | refine Below.alloc ?_ (by first | omega | (simp <;> omega)) _))).mono ?_
      rw [TT.out]
      rintro e v5 ⟨rfl, b2, b3⟩
      have BX := Lib.hid (BX.out.next (Below.trans (by repeat (first | exact Below.refl _ _ | refine Below.setCell ?_ (by simp <;> omega) _ | refine Below.alloc ?_ (by simp <;> omega) _)) (b3.mono (by simp <;> omega))))
      clear k0 k1 k2 k3 k4 k5 k6
      have HB := Lib.hid b2
      have hws := b2.size
      clear b2 b3
      obtain ⟨k0, k1, k2, k3, k4, k5, k6⟩ := BX.out.seven
      have hbw : w.heap.size < v5.heap.size := BX.out.1
      go_wp2
      go_ret
      exact ⟨by rw [HF.out]; rfl, HB.out⟩
    · have HF := Lib.hid (show rsn ls ⟨x, n0, s, true⟩ = 0 by unfold rsn; simp [tL, tN, tM, tC, tT, h5])
      have TT := Lib.hid tT
      clear tL tN tM tC tT h5
      go_enter Tryz.func160, Tryz.ntmps160
      go_wp2_with fail
      refine (CK.out _ (by repeat (first | exact Below.refl _ _ | refine Below.setCell ?_ (by simp) _ | refine Below.alloc ?_ (by simp <;> omega) _)) HKN.out).mono ?_
      rintro e v0 ⟨rfl, b2, b3⟩
      have BX := Lib.hid ((Bx.of7 (b := w.heap.size) (v0 := .int .i64 x.k) (v1 := .int .i64 x.n) (v2 := .string x.nm) (v3 := .slice E x.args.length ce) (v4 := .int .i64 en) (v5 := .int .i64 s) (v6 := .bool true) (by simp <;> omega) (by simp [go_sem]) (by simp [go_sem]) (by simp [go_sem]) (by simp [go_sem]) (by simp [go_sem]) (by simp [go_sem]) (by simp [go_sem])).next b3)
      have HB := Lib.hid b2
      have hws := b2.size
      clear b2 b3
      obtain ⟨k0, k1, k2, k3, k4, k5, k6⟩ := BX.out.seven
      have hbw : w.heap.size < v0.heap.size := BX.out.1
      go_wp2_with fail
      refine (CL.out _ (by repeat (first | exact HB.out | refine Below.setCell ?_ (by first | omega | (simp <;> omega)) _ | refine Below.alloc ?_ (by first | omega | (simp <;> omega)) _)) HKN.out).mono ?_
      rw [TL.out]
      rintro e v1 ⟨rfl, b2, b3⟩
      have BX := Lib.hid (BX.out.next (Below.trans (by repeat (first | exact Below.refl _ _ | refine Below.setCell ?_ (by simp <;> omega) _ | refine Below.alloc ?_ (by simp <;> omega) _)) (b3.mono (by simp <;> omega))))
      clear k0 k1 k2 k3 k4 k5 k6
      have HB := Lib.hid b2
      have hws := b2.size
      clear b2 b3
      obtain ⟨k0, k1, k2, k3, k4, k5, k6⟩ := BX.out.seven
      have hbw : w.heap.size < v1.heap.size := BX.out.1
      go_wp2_with fail
      refine (CN.out _ (by repeat (first | exact HB.out | refine Below.setCell ?_ (by first | omega | (simp <;> omega)) _ | refine Below.alloc ?_ (by first | omega | (simp <;> omega)) _))).mono ?_
      rw [TN.out]
      rintro e v2 ⟨rfl, b2, b3⟩
      have BX := Lib.hid (BX.out.next (Below.trans (by repeat (first | exact Below.refl _ _ | refine Below.setCell ?_ (by simp <;> omega) _ | refine Below.alloc ?_ (by simp <;> omega) _)) (b3.mono (by simp <;> omega))))
      clear k0 k1 k2 k3 k4 k5 k6
      have HB := Lib.hid b2
      have hws := b2.size
      clear b2 b3
      obtain ⟨k0, k1, k2, k3, k4, k5, k6⟩ := BX.out.seven
      have hbw : w.heap.size < v2.heap.size := BX.out.1
      go_wp2_with fail
      refine (CM.out _ (by repeat (first | exact HB.out | refine Below.setCell ?_ (by first | omega | (simp <;> omega)) _ | refine Below.alloc ?_ (by first | omega | (simp <;> omega)) _))).mono ?_
      rw [TM.out]
      rintro e v3 ⟨rfl, b2, b3⟩
      have BX := Lib.hid (BX.out.next (Below.trans (by repeat (first | exact Below.refl _ _ | refine Below.setCell ?_ (by simp <;> omega) _ | refine Below.alloc ?_ (by simp <;> omega) _)) (b3.mono (by simp <;> omega))))
      clear k0 k1 k2 k3 k4 k5 k6
      have HB := Lib.hid b2
      have hws := b2.size
      clear b2 b3
      obtain ⟨k0, k1, k2, k3, k4, k5, k6⟩ := BX.out.seven
      have hbw : w.heap.size < v3.heap.size := BX.out.1
      go_wp2_with fail
      refine (CC.out _ (by repeat (first | exact HB.out | refine Below.setCell ?_ (by first | omega | (simp <;> omega)) _ | refine Below.alloc ?_ (by first | omega | (simp <;> omega)) _)) TM.out).mono ?_
      rw [TC.out]
      rintro e v4 ⟨rfl, b2, b3⟩
      have BX := Lib.hid (BX.out.next (Below.trans (by repeat (first | exact Below.refl _ _ | refine Below.setCell ?_ (by simp <;> omega) _ | refine Below.alloc ?_ (by simp <;> omega) _)) (b3.mono (by simp <;> omega))))
      clear k0 k1 k2 k3 k4 k5 k6
      have HB := Lib.hid b2
      have hws := b2.size
      clear b2 b3
      obtain ⟨k0, k1, k2, k3, k4, k5, k6⟩ := BX.out.seven
      have hbw : w.heap.size < v4.heap.size := BX.out.1
      go_wp2_with fail
      refine (CT.out _ (by repeat (first | exact HB.out | refine Below.setCell ?_ (by first | omega | (simp <;> omega)) _ | refine Below.alloc ?_ (by first | omega | (simp <;> omega)) _))).mono ?_
      rw [TT.out]
      rintro e v5 ⟨rfl, b2, b3⟩
      have BX := Lib.hid (BX.out.next (Below.trans (by repeat (first | exact Below.refl _ _ | refine Below.setCell ?_ (by simp <;> omega) _ | refine Below.alloc ?_ (by simp <;> omega) _)) (b3.mono (by simp <;> omega))))
      clear k0 k1 k2 k3 k4 k5 k6
      have HB := Lib.hid b2
      have hws := b2.size
      clear b2 b3
      obtain ⟨k0, k1, k2, k3, k4, k5, k6⟩ := BX.out.seven
      have hbw : w.heap.size < v5.heap.size := BX.out.1
      go_wp2
      go_ret
      exact ⟨by rw [HF.out]; rfl, HB.out⟩
  by_cases h4 : x.k = 4
  · have e5 : (x.k == 5) = false := ib_ne h5
    have e4 : (x.k == 4) = true := ib_eq h4
    by_cases h6 : 6 ≤ s
    · have HF := Lib.hid (show rsn ls ⟨x, n0, s, true⟩ = 7 by unfold rsn; simp [tL, tN, tM, tC, h4, h6])
      clear tL tN tM tC h5 h4
      go_enter Tryz.func160, Tryz.ntmps160
      go_wp2_with fail
      refine (CK.out _ (by repeat (first | exact Below.refl _ _ | refine Below.setCell ?_ (by simp) _ | refine Below.alloc ?_ (by simp <;> omega) _)) HKN.out).mono ?_
      rintro e v0 ⟨rfl, b2, b3⟩
      have BX := Lib.hid ((Bx.of7 (b := w.heap.size) (v0 := .int .i64 x.k) (v1 := .int .i64 x.n) (v2 := .string x.nm) (v3 := .slice E x.args.length ce) (v4 := .int .i64 en) (v5 := .int .i64 s) (v6 := .bool true) (by simp <;> omega) (by simp [go_sem]) (by simp [go_sem]) (by simp [go_sem]) (by simp [go_sem]) (by simp [go_sem]) (by simp [go_sem]) (by simp [go_sem])).next b3)
      have HB := Lib.hid b2
      have hws := b2.size
      clear b2 b3
      obtain ⟨k0, k1, k2, k3, k4, k5, k6⟩ := BX.out.seven
      have hbw : w.heap.size < v0.heap.size := BX.out.1
      go_wp2_with fail
      refine (CL.out _ (by repeat (first | exact HB.out | refine Below.setCell ?_ (by first | omega | (simp <;> omega)) _ | refine Below.alloc ?_ (by first | omega | (simp <;> omega)) _)) HKN.out).mono ?_
      rw [TL.out]
      rintro e v1 ⟨rfl, b2, b3⟩
      have BX := Lib.hid (BX.out.next (Below.trans (by repeat (first | exact Below.refl _ _ | refine Below.setCell ?_ (by simp <;> omega) _ | refine Below.alloc ?_ (by simp <;> omega) _)) (b3.mono (by simp <;> omega))))
      clear k0 k1 k2 k3 k4 k5 k6
      have HB := Lib.hid b2
      have hws := b2.size
      clear b2 b3
      obtain ⟨k0, k1, k2, k3, k4, k5, k6⟩ := BX.out.seven
      have hbw : w.heap.size < v1.heap.size := BX.out.1
      go_wp2_with fail
      refine (CN.out _ (by repeat (first | exact HB.out | refine Below.setCell ?_ (by first | omega | (simp <;> omega)) _ | refine Below.alloc ?_ (by first | omega | (simp <;> omega)) _))).mono ?_
      rw [TN.out]
      rintro e v2 ⟨rfl, b2, b3⟩
      have BX := Lib.hid (BX.out.next (Below.trans (by repeat (first | exact Below.refl _ _ | refine Below.setCell ?_ (by simp <;> omega) _ | refine Below.alloc ?_ (by simp <;> omega) _)) (b3.mono (by simp <;> omega))))
      clear k0 k1 k2 k3 k4 k5 k6
      have HB := Lib.hid b2
      have hws := b2.size
      clear b2 b3
      obtain ⟨k0, k1, k2, k3, k4, k5, k6⟩ := BX.out.seven
      have hbw : w.heap.size < v2.heap.size := BX.out.1
      go_wp2_with fail
      refine (CM.out _ (by repeat (first | exact HB.out | refine Below.setCell ?_ (by first | omega | (simp <;> omega)) _ | refine Below.alloc ?_ (by first | omega | (simp <;> omega)) _))).mono ?_
      rw [TM.out]
      rintro e v3 ⟨rfl, b2, b3⟩
      have BX := Lib.hid (BX.out.next (Below.trans (by repeat (first | exact Below.refl _ _ | refine Below.setCell ?_ (by simp <;> omega) _ | refine Below.alloc ?_ (by simp <;> omega) _)) (b3.mono (by simp <;> omega))))
      clear k0 k1 k2 k3 k4 k5 k6
      have HB := Lib.hid b2
      have hws := b2.size
      clear b2 b3
      obtain ⟨k0, k1, k2, k3, k4, k5, k6⟩ := BX.out.seven
      have hbw : w.heap.size < v3.heap.size := BX.out.1
      go_wp2_with fail
      refine (CC.out _ (by repeat (first | exact HB.out | refine Below.setCell ?_ (by first | omega | (simp <;> omega)) _ | refine Below.alloc ?_ (by first | omega | (simp <;> omega)) _)) TM.out).mono ?_
      rw [TC.out]
      rintro e v4 ⟨rfl, b2, b3⟩
      have BX := Lib.hid (BX.out.next (Below.trans (by repeat (first | exact Below.refl _ _ | refine Below.setCell ?_ (by simp <;> omega) _ | refine Below.alloc ?_ (by simp <;> omega) _)) (b3.mono (by simp <;> omega))))
      clear k0 k1 k2 k3 k4 k5 k6
      have HB := Lib.hid b2
      have hws := b2.size
      clear b2 b3
      obtain ⟨k0, k1, k2, k3, k4, k5, k6⟩ := BX.out.seven
      have hbw : w.heap.size < v4.heap.size := BX.out.1
      go_wp2
      go_ret
      exact ⟨by rw [HF.out]; rfl, HB.out⟩
    · rcases tT : trmB s x.args with _ | _
      · have HF := Lib.hid (show rsn ls ⟨x, n0, s, true⟩ = 8 by unfold rsn; simp [tL, tN, tM, tC, tT, h4, h6])
        have TT := Lib.hid tT
        clear tL tN tM tC tT h5 h4
        go_enter Tryz.func160, Tryz.ntmps160
        go_wp2_with fail
        refine (CK.out _ (by repeat (first | exact Below.refl _ _ | refine Below.setCell ?_ (by simp) _ | refine Below.alloc ?_ (by simp <;> omega) _)) HKN.out).mono ?_
        rintro e v0 ⟨rfl, b2, b3⟩
        have BX := Lib.hid ((Bx.of7 (b := w.heap.size) (v0 := .int .i64 x.k) (v1 := .int .i64 x.n) (v2 := .string x.nm) (v3 := .slice E x.args.length ce) (v4 := .int .i64 en) (v5 := .int .i64 s) (v6 := .bool true) (by simp <;> omega) (by simp [go_sem]) (by simp [go_sem]) (by simp [go_sem]) (by simp [go_sem]) (by simp [go_sem]) (by simp [go_sem]) (by simp [go_sem])).next b3)
        have HB := Lib.hid b2
        have hws := b2.size
        clear b2 b3
        obtain ⟨k0, k1, k2, k3, k4, k5, k6⟩ := BX.out.seven
        have hbw : w.heap.size < v0.heap.size := BX.out.1
        go_wp2_with fail
        refine (CL.out _ (by repeat (first | exact HB.out | refine Below.setCell ?_ (by first | omega | (simp <;> omega)) _ | refine Below.alloc ?_ (by first | omega | (simp <;> omega)) _)) HKN.out).mono ?_
        rw [TL.out]
        rintro e v1 ⟨rfl, b2, b3⟩
        have BX := Lib.hid (BX.out.next (Below.trans (by repeat (first | exact Below.refl _ _ | refine Below.setCell ?_ (by simp <;> omega) _ | refine Below.alloc ?_ (by simp <;> omega) _)) (b3.mono (by simp <;> omega))))
        clear k0 k1 k2 k3 k4 k5 k6
        have HB := Lib.hid b2
        have hws := b2.size
        clear b2 b3
        obtain ⟨k0, k1, k2, k3, k4, k5, k6⟩ := BX.out.seven
        have hbw : w.heap.size < v1.heap.size := BX.out.1
        go_wp2_with fail
        refine (CN.out _ (by repeat (first | exact HB.out | refine Below.setCell ?_ (by first | omega | (simp <;> omega)) _ | refine Below.alloc ?_ (by first | omega | (simp <;> omega)) _))).mono ?_
        rw [TN.out]
        rintro e v2 ⟨rfl, b2, b3⟩
        have BX := Lib.hid (BX.out.next (Below.trans (by repeat (first | exact Below.refl _ _ | refine Below.setCell ?_ (by simp <;> omega) _ | refine Below.alloc ?_ (by simp <;> omega) _)) (b3.mono (by simp <;> omega))))
        clear k0 k1 k2 k3 k4 k5 k6
        have HB := Lib.hid b2
        have hws := b2.size
        clear b2 b3
        obtain ⟨k0, k1, k2, k3, k4, k5, k6⟩ := BX.out.seven
        have hbw : w.heap.size < v2.heap.size := BX.out.1
        go_wp2_with fail
        refine (CM.out _ (by repeat (first | exact HB.out | refine Below.setCell ?_ (by first | omega | (simp <;> omega)) _ | refine Below.alloc ?_ (by first | omega | (simp <;> omega)) _))).mono ?_
        rw [TM.out]
        rintro e v3 ⟨rfl, b2, b3⟩
        have BX := Lib.hid (BX.out.next (Below.trans (by repeat (first | exact Below.refl _ _ | refine Below.setCell ?_ (by simp <;> omega) _ | refine Below.alloc ?_ (by simp <;> omega) _)) (b3.mono (by simp <;> omega))))
        clear k0 k1 k2 k3 k4 k5 k6
        have HB := Lib.hid b2
        have hws := b2.size
        clear b2 b3
        obtain ⟨k0, k1, k2, k3, k4, k5, k6⟩ := BX.out.seven
        have hbw : w.heap.size < v3.heap.size := BX.out.1
        go_wp2_with fail
        refine (CC.out _ (by repeat (first | exact HB.out | refine Below.setCell ?_ (by first | omega | (simp <;> omega)) _ | refine Below.alloc ?_ (by first | omega | (simp <;> omega)) _)) TM.out).mono ?_
        rw [TC.out]
        rintro e v4 ⟨rfl, b2, b3⟩
        have BX := Lib.hid (BX.out.next (Below.trans (by repeat (first | exact Below.refl _ _ | refine Below.setCell ?_ (by simp <;> omega) _ | refine Below.alloc ?_ (by simp <;> omega) _)) (b3.mono (by simp <;> omega))))
        clear k0 k1 k2 k3 k4 k5 k6
        have HB := Lib.hid b2
        have hws := b2.size
        clear b2 b3
        obtain ⟨k0, k1, k2, k3, k4, k5, k6⟩ := BX.out.seven
        have hbw : w.heap.size < v4.heap.size := BX.out.1
        go_wp2_with fail
        refine (CT.out _ (by repeat (first | exact HB.out | refine Below.setCell ?_ (by first | omega | (simp <;> omega)) _ | refine Below.alloc ?_ (by first | omega | (simp <;> omega)) _))).mono ?_
        rw [TT.out]
        rintro e v5 ⟨rfl, b2, b3⟩
        have BX := Lib.hid (BX.out.next (Below.trans (by repeat (first | exact Below.refl _ _ | refine Below.setCell ?_ (by simp <;> omega) _ | refine Below.alloc ?_ (by simp <;> omega) _)) (b3.mono (by simp <;> omega))))
        clear k0 k1 k2 k3 k4 k5 k6
        have HB := Lib.hid b2
        have hws := b2.size
        clear b2 b3
        obtain ⟨k0, k1, k2, k3, k4, k5, k6⟩ := BX.out.seven
        have hbw : w.heap.size < v5.heap.size := BX.out.1
        go_wp2
        go_ret
        exact ⟨by rw [HF.out]; rfl, HB.out⟩
      · have HF := Lib.hid (show rsn ls ⟨x, n0, s, true⟩ = 0 by unfold rsn; simp [tL, tN, tM, tC, tT, h4, h6])
        have TT := Lib.hid tT
        clear tL tN tM tC tT h5 h4
        go_enter Tryz.func160, Tryz.ntmps160
        go_wp2_with fail
        refine (CK.out _ (by repeat (first | exact Below.refl _ _ | refine Below.setCell ?_ (by simp) _ | refine Below.alloc ?_ (by simp <;> omega) _)) HKN.out).mono ?_
        rintro e v0 ⟨rfl, b2, b3⟩
        have BX := Lib.hid ((Bx.of7 (b := w.heap.size) (v0 := .int .i64 x.k) (v1 := .int .i64 x.n) (v2 := .string x.nm) (v3 := .slice E x.args.length ce) (v4 := .int .i64 en) (v5 := .int .i64 s) (v6 := .bool true) (by simp <;> omega) (by simp [go_sem]) (by simp [go_sem]) (by simp [go_sem]) (by simp [go_sem]) (by simp [go_sem]) (by simp [go_sem]) (by simp [go_sem])).next b3)
        have HB := Lib.hid b2
        have hws := b2.size
        clear b2 b3
        obtain ⟨k0, k1, k2, k3, k4, k5, k6⟩ := BX.out.seven
        have hbw : w.heap.size < v0.heap.size := BX.out.1
        go_wp2_with fail
        refine (CL.out _ (by repeat (first | exact HB.out | refine Below.setCell ?_ (by first | omega | (simp <;> omega)) _ | refine Below.alloc ?_ (by first | omega | (simp <;> omega)) _)) HKN.out).mono ?_
        rw [TL.out]
        rintro e v1 ⟨rfl, b2, b3⟩
        have BX := Lib.hid (BX.out.next (Below.trans (by repeat (first | exact Below.refl _ _ | refine Below.setCell ?_ (by simp <;> omega) _ | refine Below.alloc ?_ (by simp <;> omega) _)) (b3.mono (by simp <;> omega))))
        clear k0 k1 k2 k3 k4 k5 k6
        have HB := Lib.hid b2
        have hws := b2.size
        clear b2 b3
        obtain ⟨k0, k1, k2, k3, k4, k5, k6⟩ := BX.out.seven
        have hbw : w.heap.size < v1.heap.size := BX.out.1
        go_wp2_with fail
        refine (CN.out _ (by repeat (first | exact HB.out | refine Below.setCell ?_ (by first | omega | (simp <;> omega)) _ | refine Below.alloc ?_ (by first | omega | (simp <;> omega)) _))).mono ?_
        rw [TN.out]
        rintro e v2 ⟨rfl, b2, b3⟩
        have BX := Lib.hid (BX.out.next (Below.trans (by repeat (first | exact Below.refl _ _ | refine Below.setCell ?_ (by simp <;> omega) _ | refine Below.alloc ?_ (by simp <;> omega) _)) (b3.mono (by simp <;> omega))))
        clear k0 k1 k2 k3 k4 k5 k6
        have HB := Lib.hid b2
        have hws := b2.size
        clear b2 b3
        obtain ⟨k0, k1, k2, k3, k4, k5, k6⟩ := BX.out.seven
        have hbw : w.heap.size < v2.heap.size := BX.out.1
        go_wp2_with fail
        refine (CM.out _ (by repeat (first | exact HB.out | refine Below.setCell ?_ (by first | omega | (simp <;> omega)) _ | refine Below.alloc ?_ (by first | omega | (simp <;> omega)) _))).mono ?_
        rw [TM.out]
        rintro e v3 ⟨rfl, b2, b3⟩
        have BX := Lib.hid (BX.out.next (Below.trans (by repeat (first | exact Below.refl _ _ | refine Below.setCell ?_ (by simp <;> omega) _ | refine Below.alloc ?_ (by simp <;> omega) _)) (b3.mono (by simp <;> omega))))
        clear k0 k1 k2 k3 k4 k5 k6
        have HB := Lib.hid b2
        have hws := b2.size
        clear b2 b3
        obtain ⟨k0, k1, k2, k3, k4, k5, k6⟩ := BX.out.seven
        have hbw : w.heap.size < v3.heap.size := BX.out.1
        go_wp2_with fail
        refine (CC.out _ (by repeat (first | exact HB.out | refine Below.setCell ?_ (by first | omega | (simp <;> omega)) _ | refine Below.alloc ?_ (by first | omega | (simp <;> omega)) _)) TM.out).mono ?_
        rw [TC.out]
        rintro e v4 ⟨rfl, b2, b3⟩
        have BX := Lib.hid (BX.out.next (Below.trans (by repeat (first | exact Below.refl _ _ | refine Below.setCell ?_ (by simp <;> omega) _ | refine Below.alloc ?_ (by simp <;> omega) _)) (b3.mono (by simp <;> omega))))
        clear k0 k1 k2 k3 k4 k5 k6
        have HB := Lib.hid b2
        have hws := b2.size
        clear b2 b3
        obtain ⟨k0, k1, k2, k3, k4, k5, k6⟩ := BX.out.seven
        have hbw : w.heap.size < v4.heap.size := BX.out.1
        go_wp2_with fail
        refine (CT.out _ (by repeat (first | exact HB.out | refine Below.setCell ?_ (by first | omega | (simp <;> omega)) _ | refine Below.alloc ?_ (by first | omega | (simp <;> omega)) _))).mono ?_
        rw [TT.out]
        rintro e v5 ⟨rfl, b2, b3⟩
        have BX := Lib.hid (BX.out.next (Below.trans (by repeat (first | exact Below.refl _ _ | refine Below.setCell ?_ (by simp <;> omega) _ | refine Below.alloc ?_ (by simp <;> omega) _)) (b3.mono (by simp <;> omega))))
        clear k0 k1 k2 k3 k4 k5 k6
        have HB := Lib.hid b2
        have hws := b2.size
        clear b2 b3
        obtain ⟨k0, k1, k2, k3, k4, k5, k6⟩ := BX.out.seven
        have hbw : w.heap.size < v5.heap.size := BX.out.1
        go_wp2
        go_ret
        exact ⟨by rw [HF.out]; rfl, HB.out⟩
  have e5 : (x.k == 5) = false := ib_ne h5
  have e4 : (x.k == 4) = false := ib_ne h4
  rcases tT : trmB s x.args with _ | _
  · have HF := Lib.hid (show rsn ls ⟨x, n0, s, true⟩ = 8 by unfold rsn; simp [tL, tN, tM, tC, tT, h4, h5])
    have TT := Lib.hid tT
    clear tL tN tM tC tT
    go_enter Tryz.func160, Tryz.ntmps160
    go_wp2_with fail
    refine (CK.out _ (by repeat (first | exact Below.refl _ _ | refine Below.setCell ?_ (by simp) _ | refine Below.alloc ?_ (by simp <;> omega) _)) HKN.out).mono ?_
    rintro e v0 ⟨rfl, b2, b3⟩
    have BX := Lib.hid ((Bx.of7 (b := w.heap.size) (v0 := .int .i64 x.k) (v1 := .int .i64 x.n) (v2 := .string x.nm) (v3 := .slice E x.args.length ce) (v4 := .int .i64 en) (v5 := .int .i64 s) (v6 := .bool true) (by simp <;> omega) (by simp [go_sem]) (by simp [go_sem]) (by simp [go_sem]) (by simp [go_sem]) (by simp [go_sem]) (by simp [go_sem]) (by simp [go_sem])).next b3)
    have HB := Lib.hid b2
    have hws := b2.size
    clear b2 b3
    obtain ⟨k0, k1, k2, k3, k4, k5, k6⟩ := BX.out.seven
    have hbw : w.heap.size < v0.heap.size := BX.out.1
    go_wp2_with fail
    refine (CL.out _ (by repeat (first | exact HB.out | refine Below.setCell ?_ (by first | omega | (simp <;> omega)) _ | refine Below.alloc ?_ (by first | omega | (simp <;> omega)) _)) HKN.out).mono ?_
    rw [TL.out]
    rintro e v1 ⟨rfl, b2, b3⟩
    have BX := Lib.hid (BX.out.next (Below.trans (by repeat (first | exact Below.refl _ _ | refine Below.setCell ?_ (by simp <;> omega) _ | refine Below.alloc ?_ (by simp <;> omega) _)) (b3.mono (by simp <;> omega))))
    clear k0 k1 k2 k3 k4 k5 k6
    have HB := Lib.hid b2
    have hws := b2.size
    clear b2 b3
    obtain ⟨k0, k1, k2, k3, k4, k5, k6⟩ := BX.out.seven
    have hbw : w.heap.size < v1.heap.size := BX.out.1
    go_wp2_with fail
    refine (CN.out _ (by repeat (first | exact HB.out | refine Below.setCell ?_ (by first | omega | (simp <;> omega)) _ | refine Below.alloc ?_ (by first | omega | (simp <;> omega)) _))).mono ?_
    rw [TN.out]
    rintro e v2 ⟨rfl, b2, b3⟩
    have BX := Lib.hid (BX.out.next (Below.trans (by repeat (first | exact Below.refl _ _ | refine Below.setCell ?_ (by simp <;> omega) _ | refine Below.alloc ?_ (by simp <;> omega) _)) (b3.mono (by simp <;> omega))))
    clear k0 k1 k2 k3 k4 k5 k6
    have HB := Lib.hid b2
    have hws := b2.size
    clear b2 b3
    obtain ⟨k0, k1, k2, k3, k4, k5, k6⟩ := BX.out.seven
    have hbw : w.heap.size < v2.heap.size := BX.out.1
    go_wp2_with fail
    refine (CM.out _ (by repeat (first | exact HB.out | refine Below.setCell ?_ (by first | omega | (simp <;> omega)) _ | refine Below.alloc ?_ (by first | omega | (simp <;> omega)) _))).mono ?_
    rw [TM.out]
    rintro e v3 ⟨rfl, b2, b3⟩
    have BX := Lib.hid (BX.out.next (Below.trans (by repeat (first | exact Below.refl _ _ | refine Below.setCell ?_ (by simp <;> omega) _ | refine Below.alloc ?_ (by simp <;> omega) _)) (b3.mono (by simp <;> omega))))
    clear k0 k1 k2 k3 k4 k5 k6
    have HB := Lib.hid b2
    have hws := b2.size
    clear b2 b3
    obtain ⟨k0, k1, k2, k3, k4, k5, k6⟩ := BX.out.seven
    have hbw : w.heap.size < v3.heap.size := BX.out.1
    go_wp2_with fail
    refine (CC.out _ (by repeat (first | exact HB.out | refine Below.setCell ?_ (by first | omega | (simp <;> omega)) _ | refine Below.alloc ?_ (by first | omega | (simp <;> omega)) _)) TM.out).mono ?_
    rw [TC.out]
    rintro e v4 ⟨rfl, b2, b3⟩
    have BX := Lib.hid (BX.out.next (Below.trans (by repeat (first | exact Below.refl _ _ | refine Below.setCell ?_ (by simp <;> omega) _ | refine Below.alloc ?_ (by simp <;> omega) _)) (b3.mono (by simp <;> omega))))
    clear k0 k1 k2 k3 k4 k5 k6
    have HB := Lib.hid b2
    have hws := b2.size
    clear b2 b3
    obtain ⟨k0, k1, k2, k3, k4, k5, k6⟩ := BX.out.seven
    have hbw : w.heap.size < v4.heap.size := BX.out.1
    go_wp2_with fail
    refine (CT.out _ (by repeat (first | exact HB.out | refine Below.setCell ?_ (by first | omega | (simp <;> omega)) _ | refine Below.alloc ?_ (by first | omega | (simp <;> omega)) _))).mono ?_
    rw [TT.out]
    rintro e v5 ⟨rfl, b2, b3⟩
    have BX := Lib.hid (BX.out.next (Below.trans (by repeat (first | exact Below.refl _ _ | refine Below.setCell ?_ (by simp <;> omega) _ | refine Below.alloc ?_ (by simp <;> omega) _)) (b3.mono (by simp <;> omega))))
    clear k0 k1 k2 k3 k4 k5 k6
    have HB := Lib.hid b2
    have hws := b2.size
    clear b2 b3
    obtain ⟨k0, k1, k2, k3, k4, k5, k6⟩ := BX.out.seven
    have hbw : w.heap.size < v5.heap.size := BX.out.1
    go_wp2
    go_ret
    exact ⟨by rw [HF.out]; rfl, HB.out⟩
  · have HF := Lib.hid (show rsn ls ⟨x, n0, s, true⟩ = 0 by unfold rsn; simp [tL, tN, tM, tC, tT, h4, h5])
    have TT := Lib.hid tT
    clear tL tN tM tC tT
    go_enter Tryz.func160, Tryz.ntmps160
    go_wp2_with fail
    refine (CK.out _ (by repeat (first | exact Below.refl _ _ | refine Below.setCell ?_ (by simp) _ | refine Below.alloc ?_ (by simp <;> omega) _)) HKN.out).mono ?_
    rintro e v0 ⟨rfl, b2, b3⟩
    have BX := Lib.hid ((Bx.of7 (b := w.heap.size) (v0 := .int .i64 x.k) (v1 := .int .i64 x.n) (v2 := .string x.nm) (v3 := .slice E x.args.length ce) (v4 := .int .i64 en) (v5 := .int .i64 s) (v6 := .bool true) (by simp <;> omega) (by simp [go_sem]) (by simp [go_sem]) (by simp [go_sem]) (by simp [go_sem]) (by simp [go_sem]) (by simp [go_sem]) (by simp [go_sem])).next b3)
    have HB := Lib.hid b2
    have hws := b2.size
    clear b2 b3
    obtain ⟨k0, k1, k2, k3, k4, k5, k6⟩ := BX.out.seven
    have hbw : w.heap.size < v0.heap.size := BX.out.1
    go_wp2_with fail
    refine (CL.out _ (by repeat (first | exact HB.out | refine Below.setCell ?_ (by first | omega | (simp <;> omega)) _ | refine Below.alloc ?_ (by first | omega | (simp <;> omega)) _)) HKN.out).mono ?_
    rw [TL.out]
    rintro e v1 ⟨rfl, b2, b3⟩
    have BX := Lib.hid (BX.out.next (Below.trans (by repeat (first | exact Below.refl _ _ | refine Below.setCell ?_ (by simp <;> omega) _ | refine Below.alloc ?_ (by simp <;> omega) _)) (b3.mono (by simp <;> omega))))
    clear k0 k1 k2 k3 k4 k5 k6
    have HB := Lib.hid b2
    have hws := b2.size
    clear b2 b3
    obtain ⟨k0, k1, k2, k3, k4, k5, k6⟩ := BX.out.seven
    have hbw : w.heap.size < v1.heap.size := BX.out.1
    go_wp2_with fail
    refine (CN.out _ (by repeat (first | exact HB.out | refine Below.setCell ?_ (by first | omega | (simp <;> omega)) _ | refine Below.alloc ?_ (by first | omega | (simp <;> omega)) _))).mono ?_
    rw [TN.out]
    rintro e v2 ⟨rfl, b2, b3⟩
    have BX := Lib.hid (BX.out.next (Below.trans (by repeat (first | exact Below.refl _ _ | refine Below.setCell ?_ (by simp <;> omega) _ | refine Below.alloc ?_ (by simp <;> omega) _)) (b3.mono (by simp <;> omega))))
    clear k0 k1 k2 k3 k4 k5 k6
    have HB := Lib.hid b2
    have hws := b2.size
    clear b2 b3
    obtain ⟨k0, k1, k2, k3, k4, k5, k6⟩ := BX.out.seven
    have hbw : w.heap.size < v2.heap.size := BX.out.1
    go_wp2_with fail
    refine (CM.out _ (by repeat (first | exact HB.out | refine Below.setCell ?_ (by first | omega | (simp <;> omega)) _ | refine Below.alloc ?_ (by first | omega | (simp <;> omega)) _))).mono ?_
    rw [TM.out]
    rintro e v3 ⟨rfl, b2, b3⟩
    have BX := Lib.hid (BX.out.next (Below.trans (by repeat (first | exact Below.refl _ _ | refine Below.setCell ?_ (by simp <;> omega) _ | refine Below.alloc ?_ (by simp <;> omega) _)) (b3.mono (by simp <;> omega))))
    clear k0 k1 k2 k3 k4 k5 k6
    have HB := Lib.hid b2
    have hws := b2.size
    clear b2 b3
    obtain ⟨k0, k1, k2, k3, k4, k5, k6⟩ := BX.out.seven
    have hbw : w.heap.size < v3.heap.size := BX.out.1
    go_wp2_with fail
    refine (CC.out _ (by repeat (first | exact HB.out | refine Below.setCell ?_ (by first | omega | (simp <;> omega)) _ | refine Below.alloc ?_ (by first | omega | (simp <;> omega)) _)) TM.out).mono ?_
    rw [TC.out]
    rintro e v4 ⟨rfl, b2, b3⟩
    have BX := Lib.hid (BX.out.next (Below.trans (by repeat (first | exact Below.refl _ _ | refine Below.setCell ?_ (by simp <;> omega) _ | refine Below.alloc ?_ (by simp <;> omega) _)) (b3.mono (by simp <;> omega))))
    clear k0 k1 k2 k3 k4 k5 k6
    have HB := Lib.hid b2
    have hws := b2.size
    clear b2 b3
    obtain ⟨k0, k1, k2, k3, k4, k5, k6⟩ := BX.out.seven
    have hbw : w.heap.size < v4.heap.size := BX.out.1
    go_wp2_with fail
    refine (CT.out _ (by repeat (first | exact HB.out | refine Below.setCell ?_ (by first | omega | (simp <;> omega)) _ | refine Below.alloc ?_ (by first | omega | (simp <;> omega)) _))).mono ?_
    rw [TT.out]
    rintro e v5 ⟨rfl, b2, b3⟩
    have BX := Lib.hid (BX.out.next (Below.trans (by repeat (first | exact Below.refl _ _ | refine Below.setCell ?_ (by simp <;> omega) _ | refine Below.alloc ?_ (by simp <;> omega) _)) (b3.mono (by simp <;> omega))))
    clear k0 k1 k2 k3 k4 k5 k6
    have HB := Lib.hid b2
    have hws := b2.size
    clear b2 b3
    obtain ⟨k0, k1, k2, k3, k4, k5, k6⟩ := BX.out.seven
    have hbw : w.heap.size < v5.heap.size := BX.out.1
    go_wp2
    go_ret
    exact ⟨by rw [HF.out]; rfl, HB.out⟩
set_option maxRecDepth 100000 in
set_option maxHeartbeats 16000000 in
theorem implCheck_false (x : Pt) (s : Int) (n0 : Nat) (E : Option Addr) (ce : Nat) (en : Int) (A : Option Addr) (c : Nat) (ls : List Df) (w : World) (S : Nat → Prop) (hn : ls.length ≤ 4) (h : LRow dfR w S A ls) (g : LRow (listR tmR) w S E x.args) (hS : ∀ b, S b → b < w.heap.size) (hs : 0 ≤ s ∧ s ≤ 23) (hok : okList (okList okAny) x.args) (ht : FormTab w) :
    Calls Tryz.prog 160 #[.agg #[.int .i64 x.k, .int .i64 x.n, .string x.nm, .slice E x.args.length ce, .int .i64 en, .int .i64 s, .bool false], .slice A ls.length c] w fun e w' => e = .returned (chkV (rsn ls ⟨x, n0, s, false⟩)) ∧ Below w.heap.size w w' := by
  have CK := Lib.hid (fun (W : World) (hW : Below w.heap.size w W) (hkn : 0 ≤ x.k ∧ x.k ≤ 5) => (Calls.mono (implKnown_any x E ce W hkn) (fun e w' ⟨he, hb⟩ => (⟨he, hW.trans (Below.mono hb hW.size), hb⟩ : e = Ending.returned (.bool (true)) ∧ Below w.heap.size w w' ∧ Below W.heap.size W w'))))
  have CL := Lib.hid (fun (W : World) (hW : Below w.heap.size w W) (hkn : 0 ≤ x.k ∧ x.k ≤ 5) => (Calls.mono (implLeaves_any x E ce W (FormTab.below ht hW) hkn) (fun e w' ⟨he, hb⟩ => (⟨he, hW.trans (Below.mono hb hW.size), hb⟩ : e = Ending.returned (.bool (kindB x)) ∧ Below w.heap.size w w' ∧ Below W.heap.size W w'))))
  have CN := Lib.hid (fun (W : World) (hW : Below w.heap.size w W) => (Calls.mono (implHasName_any x E ce W) (fun e w' ⟨he, hb⟩ => (⟨he, hW.trans (Below.mono hb hW.size), hb⟩ : e = Ending.returned (.bool (nmB x)) ∧ Below w.heap.size w w' ∧ Below W.heap.size W w'))))
  have CM := Lib.hid (fun (W : World) (hW : Below w.heap.size w W) => (Calls.mono (implHasNumber_any x E ce A c ls W hn) (fun e w' ⟨he, hb⟩ => (⟨he, hW.trans (Below.mono hb hW.size), hb⟩ : e = Ending.returned (.bool (numB ls x)) ∧ Below w.heap.size w w' ∧ Below W.heap.size W w'))))
  have CC := Lib.hid (fun (W : World) (hW : Below w.heap.size w W) (hnum : numB ls x = true) => (Calls.mono (implHasCount_any x E ce A c ls W S hn (h.keep (SameOn.of_below hW hS)) (fun b hb => Nat.lt_of_lt_of_le (hS b hb) hW.size) hnum) (fun e w' ⟨he, hb⟩ => (⟨he, hW.trans (Below.mono hb hW.size), hb⟩ : e = Ending.returned (.bool (cntB ls x)) ∧ Below w.heap.size w w' ∧ Below W.heap.size W w'))))
  have CT := Lib.hid (fun (W : World) (hW : Below w.heap.size w W) => (Calls.mono (implTermsX_any x s false E ce en W S (g.keep (SameOn.of_below hW hS)) (fun b hb => Nat.lt_of_lt_of_le (hS b hb) hW.size) hs hok) (fun e w' ⟨he, hb⟩ => (⟨he, hW.trans (Below.mono hb hW.size), hb⟩ : e = Ending.returned (.bool (trmB s x.args)) ∧ Below w.heap.size w w' ∧ Below W.heap.size W w'))))
  clear h g hS hok ht
  by_cases hkn : 0 ≤ x.k ∧ x.k ≤ 5
  rotate_left
  · have hkb : kindB x = false := by unfold kindB; rw [if_neg (by omega), if_neg (by omega), if_neg (by omega), if_neg (by omega), if_neg (by omega)]
    have HF := Lib.hid (show rsn ls ⟨x, n0, s, false⟩ = 2 by unfold rsn; simp [hkb])
    clear hkb CK CL CN CM CC CT
    by_cases h0 : 0 ≤ x.k
    · have h5 : ¬ x.k ≤ 5 := fun h => hkn ⟨h0, h⟩
      clear hkn
      go_enter Tryz.func160, Tryz.ntmps160
      go_wp2
      go_ret
      exact ⟨by rw [HF.out]; rfl, (by repeat (first | exact Below.refl _ _ | refine Below.setCell ?_ (by simp) _ | refine Below.alloc ?_ (by simp <;> omega) _))⟩
    · clear hkn
      go_enter Tryz.func160, Tryz.ntmps160
      go_wp2
      go_ret
      exact ⟨by rw [HF.out]; rfl, (by repeat (first | exact Below.refl _ _ | refine Below.setCell ?_ (by simp) _ | refine Below.alloc ?_ (by simp <;> omega) _))⟩
  have HKN := Lib.hid hkn
  obtain ⟨hk0, hk5⟩ := hkn
  rcases tL : kindB x with _ | _
  · have HF := Lib.hid (show rsn ls ⟨x, n0, s, false⟩ = 2 by unfold rsn; simp [tL])
    have TL := Lib.hid tL
    clear tL
    go_enter Tryz.func160, Tryz.ntmps160
    go_wp2_with fail
    refine (CK.out _ (by repeat (first | exact Below.refl _ _ | refine Below.setCell ?_ (by simp) _ | refine Below.alloc ?_ (by simp <;> omega) _)) HKN.out).mono ?_
    rintro e v0 ⟨rfl, b2, b3⟩
    have BX := Lib.hid ((Bx.of7 (b := w.heap.size) (v0 := .int .i64 x.k) (v1 := .int .i64 x.n) (v2 := .string x.nm) (v3 := .slice E x.args.length ce) (v4 := .int .i64 en) (v5 := .int .i64 s) (v6 := .bool false) (by simp <;> omega) (by simp [go_sem]) (by simp [go_sem]) (by simp [go_sem]) (by simp [go_sem]) (by simp [go_sem]) (by simp [go_sem]) (by simp [go_sem])).next b3)
    have HB := Lib.hid b2
    have hws := b2.size
    clear b2 b3
    obtain ⟨k0, k1, k2, k3, k4, k5, k6⟩ := BX.out.seven
    have hbw : w.heap.size < v0.heap.size := BX.out.1
    go_wp2_with fail
    refine (CL.out _ (by repeat (first | exact HB.out | refine Below.setCell ?_ (by first | omega | (simp <;> omega)) _ | refine Below.alloc ?_ (by first | omega | (simp <;> omega)) _)) HKN.out).mono ?_
    rw [TL.out]
    rintro e v1 ⟨rfl, b2, b3⟩
    have BX := Lib.hid (BX.out.next (Below.trans (by repeat (first | exact Below.refl _ _ | refine Below.setCell ?_ (by simp <;> omega) _ | refine Below.alloc ?_ (by simp <;> omega) _)) (b3.mono (by simp <;> omega))))
    clear k0 k1 k2 k3 k4 k5 k6
    have HB := Lib.hid b2
    have hws := b2.size
    clear b2 b3
    obtain ⟨k0, k1, k2, k3, k4, k5, k6⟩ := BX.out.seven
    have hbw : w.heap.size < v1.heap.size := BX.out.1
    go_wp2
    go_ret
    exact ⟨by rw [HF.out]; rfl, HB.out⟩
  have TL := Lib.hid tL
  rcases tN : nmB x with _ | _
  · have HF := Lib.hid (show rsn ls ⟨x, n0, s, false⟩ = 3 by unfold rsn; simp [tL, tN])
    have TN := Lib.hid tN
    clear tL tN
    go_enter Tryz.func160, Tryz.ntmps160
    go_wp2_with fail
    refine (CK.out _ (by repeat (first | exact Below.refl _ _ | refine Below.setCell ?_ (by simp) _ | refine Below.alloc ?_ (by simp <;> omega) _)) HKN.out).mono ?_
    rintro e v0 ⟨rfl, b2, b3⟩
    have BX := Lib.hid ((Bx.of7 (b := w.heap.size) (v0 := .int .i64 x.k) (v1 := .int .i64 x.n) (v2 := .string x.nm) (v3 := .slice E x.args.length ce) (v4 := .int .i64 en) (v5 := .int .i64 s) (v6 := .bool false) (by simp <;> omega) (by simp [go_sem]) (by simp [go_sem]) (by simp [go_sem]) (by simp [go_sem]) (by simp [go_sem]) (by simp [go_sem]) (by simp [go_sem])).next b3)
    have HB := Lib.hid b2
    have hws := b2.size
    clear b2 b3
    obtain ⟨k0, k1, k2, k3, k4, k5, k6⟩ := BX.out.seven
    have hbw : w.heap.size < v0.heap.size := BX.out.1
    go_wp2_with fail
    refine (CL.out _ (by repeat (first | exact HB.out | refine Below.setCell ?_ (by first | omega | (simp <;> omega)) _ | refine Below.alloc ?_ (by first | omega | (simp <;> omega)) _)) HKN.out).mono ?_
    rw [TL.out]
    rintro e v1 ⟨rfl, b2, b3⟩
    have BX := Lib.hid (BX.out.next (Below.trans (by repeat (first | exact Below.refl _ _ | refine Below.setCell ?_ (by simp <;> omega) _ | refine Below.alloc ?_ (by simp <;> omega) _)) (b3.mono (by simp <;> omega))))
    clear k0 k1 k2 k3 k4 k5 k6
    have HB := Lib.hid b2
    have hws := b2.size
    clear b2 b3
    obtain ⟨k0, k1, k2, k3, k4, k5, k6⟩ := BX.out.seven
    have hbw : w.heap.size < v1.heap.size := BX.out.1
    go_wp2_with fail
    refine (CN.out _ (by repeat (first | exact HB.out | refine Below.setCell ?_ (by first | omega | (simp <;> omega)) _ | refine Below.alloc ?_ (by first | omega | (simp <;> omega)) _))).mono ?_
    rw [TN.out]
    rintro e v2 ⟨rfl, b2, b3⟩
    have BX := Lib.hid (BX.out.next (Below.trans (by repeat (first | exact Below.refl _ _ | refine Below.setCell ?_ (by simp <;> omega) _ | refine Below.alloc ?_ (by simp <;> omega) _)) (b3.mono (by simp <;> omega))))
    clear k0 k1 k2 k3 k4 k5 k6
    have HB := Lib.hid b2
    have hws := b2.size
    clear b2 b3
    obtain ⟨k0, k1, k2, k3, k4, k5, k6⟩ := BX.out.seven
    have hbw : w.heap.size < v2.heap.size := BX.out.1
    go_wp2
    go_ret
    exact ⟨by rw [HF.out]; rfl, HB.out⟩
  have TN := Lib.hid tN
  rcases tM : numB ls x with _ | _
  · have HF := Lib.hid (show rsn ls ⟨x, n0, s, false⟩ = 4 by unfold rsn; simp [tL, tN, tM])
    have TM := Lib.hid tM
    clear tL tN tM
    go_enter Tryz.func160, Tryz.ntmps160
    go_wp2_with fail
    refine (CK.out _ (by repeat (first | exact Below.refl _ _ | refine Below.setCell ?_ (by simp) _ | refine Below.alloc ?_ (by simp <;> omega) _)) HKN.out).mono ?_
    rintro e v0 ⟨rfl, b2, b3⟩
    have BX := Lib.hid ((Bx.of7 (b := w.heap.size) (v0 := .int .i64 x.k) (v1 := .int .i64 x.n) (v2 := .string x.nm) (v3 := .slice E x.args.length ce) (v4 := .int .i64 en) (v5 := .int .i64 s) (v6 := .bool false) (by simp <;> omega) (by simp [go_sem]) (by simp [go_sem]) (by simp [go_sem]) (by simp [go_sem]) (by simp [go_sem]) (by simp [go_sem]) (by simp [go_sem])).next b3)
    have HB := Lib.hid b2
    have hws := b2.size
    clear b2 b3
    obtain ⟨k0, k1, k2, k3, k4, k5, k6⟩ := BX.out.seven
    have hbw : w.heap.size < v0.heap.size := BX.out.1
    go_wp2_with fail
    refine (CL.out _ (by repeat (first | exact HB.out | refine Below.setCell ?_ (by first | omega | (simp <;> omega)) _ | refine Below.alloc ?_ (by first | omega | (simp <;> omega)) _)) HKN.out).mono ?_
    rw [TL.out]
    rintro e v1 ⟨rfl, b2, b3⟩
    have BX := Lib.hid (BX.out.next (Below.trans (by repeat (first | exact Below.refl _ _ | refine Below.setCell ?_ (by simp <;> omega) _ | refine Below.alloc ?_ (by simp <;> omega) _)) (b3.mono (by simp <;> omega))))
    clear k0 k1 k2 k3 k4 k5 k6
    have HB := Lib.hid b2
    have hws := b2.size
    clear b2 b3
    obtain ⟨k0, k1, k2, k3, k4, k5, k6⟩ := BX.out.seven
    have hbw : w.heap.size < v1.heap.size := BX.out.1
    go_wp2_with fail
    refine (CN.out _ (by repeat (first | exact HB.out | refine Below.setCell ?_ (by first | omega | (simp <;> omega)) _ | refine Below.alloc ?_ (by first | omega | (simp <;> omega)) _))).mono ?_
    rw [TN.out]
    rintro e v2 ⟨rfl, b2, b3⟩
    have BX := Lib.hid (BX.out.next (Below.trans (by repeat (first | exact Below.refl _ _ | refine Below.setCell ?_ (by simp <;> omega) _ | refine Below.alloc ?_ (by simp <;> omega) _)) (b3.mono (by simp <;> omega))))
    clear k0 k1 k2 k3 k4 k5 k6
    have HB := Lib.hid b2
    have hws := b2.size
    clear b2 b3
    obtain ⟨k0, k1, k2, k3, k4, k5, k6⟩ := BX.out.seven
    have hbw : w.heap.size < v2.heap.size := BX.out.1
    go_wp2_with fail
    refine (CM.out _ (by repeat (first | exact HB.out | refine Below.setCell ?_ (by first | omega | (simp <;> omega)) _ | refine Below.alloc ?_ (by first | omega | (simp <;> omega)) _))).mono ?_
    rw [TM.out]
    rintro e v3 ⟨rfl, b2, b3⟩
    have BX := Lib.hid (BX.out.next (Below.trans (by repeat (first | exact Below.refl _ _ | refine Below.setCell ?_ (by simp <;> omega) _ | refine Below.alloc ?_ (by simp <;> omega) _)) (b3.mono (by simp <;> omega))))
    clear k0 k1 k2 k3 k4 k5 k6
    have HB := Lib.hid b2
    have hws := b2.size
    clear b2 b3
    obtain ⟨k0, k1, k2, k3, k4, k5, k6⟩ := BX.out.seven
    have hbw : w.heap.size < v3.heap.size := BX.out.1
    go_wp2
    go_ret
    exact ⟨by rw [HF.out]; rfl, HB.out⟩
  have TM := Lib.hid tM
  rcases tC : cntB ls x with _ | _
  · have HF := Lib.hid (show rsn ls ⟨x, n0, s, false⟩ = 5 by unfold rsn; simp [tL, tN, tM, tC])
    have TC := Lib.hid tC
    clear tL tN tM tC
    go_enter Tryz.func160, Tryz.ntmps160
    go_wp2_with fail
    refine (CK.out _ (by repeat (first | exact Below.refl _ _ | refine Below.setCell ?_ (by simp) _ | refine Below.alloc ?_ (by simp <;> omega) _)) HKN.out).mono ?_
    rintro e v0 ⟨rfl, b2, b3⟩
    have BX := Lib.hid ((Bx.of7 (b := w.heap.size) (v0 := .int .i64 x.k) (v1 := .int .i64 x.n) (v2 := .string x.nm) (v3 := .slice E x.args.length ce) (v4 := .int .i64 en) (v5 := .int .i64 s) (v6 := .bool false) (by simp <;> omega) (by simp [go_sem]) (by simp [go_sem]) (by simp [go_sem]) (by simp [go_sem]) (by simp [go_sem]) (by simp [go_sem]) (by simp [go_sem])).next b3)
    have HB := Lib.hid b2
    have hws := b2.size
    clear b2 b3
    obtain ⟨k0, k1, k2, k3, k4, k5, k6⟩ := BX.out.seven
    have hbw : w.heap.size < v0.heap.size := BX.out.1
    go_wp2_with fail
    refine (CL.out _ (by repeat (first | exact HB.out | refine Below.setCell ?_ (by first | omega | (simp <;> omega)) _ | refine Below.alloc ?_ (by first | omega | (simp <;> omega)) _)) HKN.out).mono ?_
    rw [TL.out]
    rintro e v1 ⟨rfl, b2, b3⟩
    have BX := Lib.hid (BX.out.next (Below.trans (by repeat (first | exact Below.refl _ _ | refine Below.setCell ?_ (by simp <;> omega) _ | refine Below.alloc ?_ (by simp <;> omega) _)) (b3.mono (by simp <;> omega))))
    clear k0 k1 k2 k3 k4 k5 k6
    have HB := Lib.hid b2
    have hws := b2.size
    clear b2 b3
    obtain ⟨k0, k1, k2, k3, k4, k5, k6⟩ := BX.out.seven
    have hbw : w.heap.size < v1.heap.size := BX.out.1
    go_wp2_with fail
    refine (CN.out _ (by repeat (first | exact HB.out | refine Below.setCell ?_ (by first | omega | (simp <;> omega)) _ | refine Below.alloc ?_ (by first | omega | (simp <;> omega)) _))).mono ?_
    rw [TN.out]
    rintro e v2 ⟨rfl, b2, b3⟩
    have BX := Lib.hid (BX.out.next (Below.trans (by repeat (first | exact Below.refl _ _ | refine Below.setCell ?_ (by simp <;> omega) _ | refine Below.alloc ?_ (by simp <;> omega) _)) (b3.mono (by simp <;> omega))))
    clear k0 k1 k2 k3 k4 k5 k6
    have HB := Lib.hid b2
    have hws := b2.size
    clear b2 b3
    obtain ⟨k0, k1, k2, k3, k4, k5, k6⟩ := BX.out.seven
    have hbw : w.heap.size < v2.heap.size := BX.out.1
    go_wp2_with fail
    refine (CM.out _ (by repeat (first | exact HB.out | refine Below.setCell ?_ (by first | omega | (simp <;> omega)) _ | refine Below.alloc ?_ (by first | omega | (simp <;> omega)) _))).mono ?_
    rw [TM.out]
    rintro e v3 ⟨rfl, b2, b3⟩
    have BX := Lib.hid (BX.out.next (Below.trans (by repeat (first | exact Below.refl _ _ | refine Below.setCell ?_ (by simp <;> omega) _ | refine Below.alloc ?_ (by simp <;> omega) _)) (b3.mono (by simp <;> omega))))
    clear k0 k1 k2 k3 k4 k5 k6
    have HB := Lib.hid b2
    have hws := b2.size
    clear b2 b3
    obtain ⟨k0, k1, k2, k3, k4, k5, k6⟩ := BX.out.seven
    have hbw : w.heap.size < v3.heap.size := BX.out.1
    go_wp2_with fail
    refine (CC.out _ (by repeat (first | exact HB.out | refine Below.setCell ?_ (by first | omega | (simp <;> omega)) _ | refine Below.alloc ?_ (by first | omega | (simp <;> omega)) _)) TM.out).mono ?_
    rw [TC.out]
    rintro e v4 ⟨rfl, b2, b3⟩
    have BX := Lib.hid (BX.out.next (Below.trans (by repeat (first | exact Below.refl _ _ | refine Below.setCell ?_ (by simp <;> omega) _ | refine Below.alloc ?_ (by simp <;> omega) _)) (b3.mono (by simp <;> omega))))
    clear k0 k1 k2 k3 k4 k5 k6
    have HB := Lib.hid b2
    have hws := b2.size
    clear b2 b3
    obtain ⟨k0, k1, k2, k3, k4, k5, k6⟩ := BX.out.seven
    have hbw : w.heap.size < v4.heap.size := BX.out.1
    go_wp2
    go_ret
    exact ⟨by rw [HF.out]; rfl, HB.out⟩
  have TC := Lib.hid tC
  by_cases h5 : x.k = 5
  · have e5 : (x.k == 5) = true := ib_eq h5
    have e4 : (x.k == 4) = false := ib_ne (by omega)
    have HF := Lib.hid (show rsn ls ⟨x, n0, s, false⟩ = 6 by unfold rsn; simp [tL, tN, tM, tC, h5])
    clear tL tN tM tC e4 h5
    go_enter Tryz.func160, Tryz.ntmps160
    go_wp2_with fail
    refine (CK.out _ (by repeat (first | exact Below.refl _ _ | refine Below.setCell ?_ (by simp) _ | refine Below.alloc ?_ (by simp <;> omega) _)) HKN.out).mono ?_
    rintro e v0 ⟨rfl, b2, b3⟩
    have BX := Lib.hid ((Bx.of7 (b := w.heap.size) (v0 := .int .i64 x.k) (v1 := .int .i64 x.n) (v2 := .string x.nm) (v3 := .slice E x.args.length ce) (v4 := .int .i64 en) (v5 := .int .i64 s) (v6 := .bool false) (by simp <;> omega) (by simp [go_sem]) (by simp [go_sem]) (by simp [go_sem]) (by simp [go_sem]) (by simp [go_sem]) (by simp [go_sem]) (by simp [go_sem])).next b3)
    have HB := Lib.hid b2
    have hws := b2.size
    clear b2 b3
    obtain ⟨k0, k1, k2, k3, k4, k5, k6⟩ := BX.out.seven
    have hbw : w.heap.size < v0.heap.size := BX.out.1
    go_wp2_with fail
    refine (CL.out _ (by repeat (first | exact HB.out | refine Below.setCell ?_ (by first | omega | (simp <;> omega)) _ | refine Below.alloc ?_ (by first | omega | (simp <;> omega)) _)) HKN.out).mono ?_
    rw [TL.out]
    rintro e v1 ⟨rfl, b2, b3⟩
    have BX := Lib.hid (BX.out.next (Below.trans (by repeat (first | exact Below.refl _ _ | refine Below.setCell ?_ (by simp <;> omega) _ | refine Below.alloc ?_ (by simp <;> omega) _)) (b3.mono (by simp <;> omega))))
    clear k0 k1 k2 k3 k4 k5 k6
    have HB := Lib.hid b2
    have hws := b2.size
    clear b2 b3
    obtain ⟨k0, k1, k2, k3, k4, k5, k6⟩ := BX.out.seven
    have hbw : w.heap.size < v1.heap.size := BX.out.1
    go_wp2_with fail
    refine (CN.out _ (by repeat (first | exact HB.out | refine Below.setCell ?_ (by first | omega | (simp <;> omega)) _ | refine Below.alloc ?_ (by first | omega | (simp <;> omega)) _))).mono ?_
    rw [TN.out]
    rintro e v2 ⟨rfl, b2, b3⟩
    have BX := Lib.hid (BX.out.next (Below.trans (by repeat (first | exact Below.refl _ _ | refine Below.setCell ?_ (by simp <;> omega) _ | refine Below.alloc ?_ (by simp <;> omega) _)) (b3.mono (by simp <;> omega))))
    clear k0 k1 k2 k3 k4 k5 k6
    have HB := Lib.hid b2
    have hws := b2.size
    clear b2 b3
    obtain ⟨k0, k1, k2, k3, k4, k5, k6⟩ := BX.out.seven
    have hbw : w.heap.size < v2.heap.size := BX.out.1
    go_wp2_with fail
    refine (CM.out _ (by repeat (first | exact HB.out | refine Below.setCell ?_ (by first | omega | (simp <;> omega)) _ | refine Below.alloc ?_ (by first | omega | (simp <;> omega)) _))).mono ?_
    rw [TM.out]
    rintro e v3 ⟨rfl, b2, b3⟩
    have BX := Lib.hid (BX.out.next (Below.trans (by repeat (first | exact Below.refl _ _ | refine Below.setCell ?_ (by simp <;> omega) _ | refine Below.alloc ?_ (by simp <;> omega) _)) (b3.mono (by simp <;> omega))))
    clear k0 k1 k2 k3 k4 k5 k6
    have HB := Lib.hid b2
    have hws := b2.size
    clear b2 b3
    obtain ⟨k0, k1, k2, k3, k4, k5, k6⟩ := BX.out.seven
    have hbw : w.heap.size < v3.heap.size := BX.out.1
    go_wp2_with fail
    refine (CC.out _ (by repeat (first | exact HB.out | refine Below.setCell ?_ (by first | omega | (simp <;> omega)) _ | refine Below.alloc ?_ (by first | omega | (simp <;> omega)) _)) TM.out).mono ?_
    rw [TC.out]
    rintro e v4 ⟨rfl, b2, b3⟩
    have BX := Lib.hid (BX.out.next (Below.trans (by repeat (first | exact Below.refl _ _ | refine Below.setCell ?_ (by simp <;> omega) _ | refine Below.alloc ?_ (by simp <;> omega) _)) (b3.mono (by simp <;> omega))))
    clear k0 k1 k2 k3 k4 k5 k6
    have HB := Lib.hid b2
    have hws := b2.size
    clear b2 b3
    obtain ⟨k0, k1, k2, k3, k4, k5, k6⟩ := BX.out.seven
    have hbw : w.heap.size < v4.heap.size := BX.out.1
    go_wp2
    go_ret
    exact ⟨by rw [HF.out]; rfl, HB.out⟩
  by_cases h4 : x.k = 4
  · have e5 : (x.k == 5) = false := ib_ne h5
    have e4 : (x.k == 4) = true := ib_eq h4
    by_cases h6 : 6 ≤ s
    · have HF := Lib.hid (show rsn ls ⟨x, n0, s, false⟩ = 7 by unfold rsn; simp [tL, tN, tM, tC, h4, h6])
      clear tL tN tM tC h5 h4
      go_enter Tryz.func160, Tryz.ntmps160
      go_wp2_with fail
      refine (CK.out _ (by repeat (first | exact Below.refl _ _ | refine Below.setCell ?_ (by simp) _ | refine Below.alloc ?_ (by simp <;> omega) _)) HKN.out).mono ?_
      rintro e v0 ⟨rfl, b2, b3⟩
      have BX := Lib.hid ((Bx.of7 (b := w.heap.size) (v0 := .int .i64 x.k) (v1 := .int .i64 x.n) (v2 := .string x.nm) (v3 := .slice E x.args.length ce) (v4 := .int .i64 en) (v5 := .int .i64 s) (v6 := .bool false) (by simp <;> omega) (by simp [go_sem]) (by simp [go_sem]) (by simp [go_sem]) (by simp [go_sem]) (by simp [go_sem]) (by simp [go_sem]) (by simp [go_sem])).next b3)
      have HB := Lib.hid b2
      have hws := b2.size
      clear b2 b3
      obtain ⟨k0, k1, k2, k3, k4, k5, k6⟩ := BX.out.seven
      have hbw : w.heap.size < v0.heap.size := BX.out.1
      go_wp2_with fail
      refine (CL.out _ (by repeat (first | exact HB.out | refine Below.setCell ?_ (by first | omega | (simp <;> omega)) _ | refine Below.alloc ?_ (by first | omega | (simp <;> omega)) _)) HKN.out).mono ?_
      rw [TL.out]
      rintro e v1 ⟨rfl, b2, b3⟩
      have BX := Lib.hid (BX.out.next (Below.trans (by repeat (first | exact Below.refl _ _ | refine Below.setCell ?_ (by simp <;> omega) _ | refine Below.alloc ?_ (by simp <;> omega) _)) (b3.mono (by simp <;> omega))))
      clear k0 k1 k2 k3 k4 k5 k6
      have HB := Lib.hid b2
      have hws := b2.size
      clear b2 b3
      obtain ⟨k0, k1, k2, k3, k4, k5, k6⟩ := BX.out.seven
      have hbw : w.heap.size < v1.heap.size := BX.out.1
      go_wp2_with fail
      refine (CN.out _ (by repeat (first | exact HB.out | refine Below.setCell ?_ (by first | omega | (simp <;> omega)) _ | refine Below.alloc ?_ (by first | omega | (simp <;> omega)) _))).mono ?_
      rw [TN.out]
      rintro e v2 ⟨rfl, b2, b3⟩
      have BX := Lib.hid (BX.out.next (Below.trans (by repeat (first | exact Below.refl _ _ | refine Below.setCell ?_ (by simp <;> omega) _ | refine Below.alloc ?_ (by simp <;> omega) _)) (b3.mono (by simp <;> omega))))
      clear k0 k1 k2 k3 k4 k5 k6
      have HB := Lib.hid b2
      have hws := b2.size
      clear b2 b3
      obtain ⟨k0, k1, k2, k3, k4, k5, k6⟩ := BX.out.seven
      have hbw : w.heap.size < v2.heap.size := BX.out.1
      go_wp2_with fail
      refine (CM.out _ (by repeat (first | exact HB.out | refine Below.setCell ?_ (by first | omega | (simp <;> omega)) _ | refine Below.alloc ?_ (by first | omega | (simp <;> omega)) _))).mono ?_
      rw [TM.out]
      rintro e v3 ⟨rfl, b2, b3⟩
      have BX := Lib.hid (BX.out.next (Below.trans (by repeat (first | exact Below.refl _ _ | refine Below.setCell ?_ (by simp <;> omega) _ | refine Below.alloc ?_ (by simp <;> omega) _)) (b3.mono (by simp <;> omega))))
      clear k0 k1 k2 k3 k4 k5 k6
      have HB := Lib.hid b2
      have hws := b2.size
      clear b2 b3
      obtain ⟨k0, k1, k2, k3, k4, k5, k6⟩ := BX.out.seven
      have hbw : w.heap.size < v3.heap.size := BX.out.1
      go_wp2_with fail
      refine (CC.out _ (by repeat (first | exact HB.out | refine Below.setCell ?_ (by first | omega | (simp <;> omega)) _ | refine Below.alloc ?_ (by first | omega | (simp <;> omega)) _)) TM.out).mono ?_
      rw [TC.out]
      rintro e v4 ⟨rfl, b2, b3⟩
      have BX := Lib.hid (BX.out.next (Below.trans (by repeat (first | exact Below.refl _ _ | refine Below.setCell ?_ (by simp <;> omega) _ | refine Below.alloc ?_ (by simp <;> omega) _)) (b3.mono (by simp <;> omega))))
      clear k0 k1 k2 k3 k4 k5 k6
      have HB := Lib.hid b2
      have hws := b2.size
      clear b2 b3
      obtain ⟨k0, k1, k2, k3, k4, k5, k6⟩ := BX.out.seven
      have hbw : w.heap.size < v4.heap.size := BX.out.1
      go_wp2
      go_ret
      exact ⟨by rw [HF.out]; rfl, HB.out⟩
    · rcases tT : trmB s x.args with _ | _
      · have HF := Lib.hid (show rsn ls ⟨x, n0, s, false⟩ = 8 by unfold rsn; simp [tL, tN, tM, tC, tT, h4, h6])
        have TT := Lib.hid tT
        clear tL tN tM tC tT h5 h4
        go_enter Tryz.func160, Tryz.ntmps160
        go_wp2_with fail
        refine (CK.out _ (by repeat (first | exact Below.refl _ _ | refine Below.setCell ?_ (by simp) _ | refine Below.alloc ?_ (by simp <;> omega) _)) HKN.out).mono ?_
        rintro e v0 ⟨rfl, b2, b3⟩
        have BX := Lib.hid ((Bx.of7 (b := w.heap.size) (v0 := .int .i64 x.k) (v1 := .int .i64 x.n) (v2 := .string x.nm) (v3 := .slice E x.args.length ce) (v4 := .int .i64 en) (v5 := .int .i64 s) (v6 := .bool false) (by simp <;> omega) (by simp [go_sem]) (by simp [go_sem]) (by simp [go_sem]) (by simp [go_sem]) (by simp [go_sem]) (by simp [go_sem]) (by simp [go_sem])).next b3)
        have HB := Lib.hid b2
        have hws := b2.size
        clear b2 b3
        obtain ⟨k0, k1, k2, k3, k4, k5, k6⟩ := BX.out.seven
        have hbw : w.heap.size < v0.heap.size := BX.out.1
        go_wp2_with fail
        refine (CL.out _ (by repeat (first | exact HB.out | refine Below.setCell ?_ (by first | omega | (simp <;> omega)) _ | refine Below.alloc ?_ (by first | omega | (simp <;> omega)) _)) HKN.out).mono ?_
        rw [TL.out]
        rintro e v1 ⟨rfl, b2, b3⟩
        have BX := Lib.hid (BX.out.next (Below.trans (by repeat (first | exact Below.refl _ _ | refine Below.setCell ?_ (by simp <;> omega) _ | refine Below.alloc ?_ (by simp <;> omega) _)) (b3.mono (by simp <;> omega))))
        clear k0 k1 k2 k3 k4 k5 k6
        have HB := Lib.hid b2
        have hws := b2.size
        clear b2 b3
        obtain ⟨k0, k1, k2, k3, k4, k5, k6⟩ := BX.out.seven
        have hbw : w.heap.size < v1.heap.size := BX.out.1
        go_wp2_with fail
        refine (CN.out _ (by repeat (first | exact HB.out | refine Below.setCell ?_ (by first | omega | (simp <;> omega)) _ | refine Below.alloc ?_ (by first | omega | (simp <;> omega)) _))).mono ?_
        rw [TN.out]
        rintro e v2 ⟨rfl, b2, b3⟩
        have BX := Lib.hid (BX.out.next (Below.trans (by repeat (first | exact Below.refl _ _ | refine Below.setCell ?_ (by simp <;> omega) _ | refine Below.alloc ?_ (by simp <;> omega) _)) (b3.mono (by simp <;> omega))))
        clear k0 k1 k2 k3 k4 k5 k6
        have HB := Lib.hid b2
        have hws := b2.size
        clear b2 b3
        obtain ⟨k0, k1, k2, k3, k4, k5, k6⟩ := BX.out.seven
        have hbw : w.heap.size < v2.heap.size := BX.out.1
        go_wp2_with fail
        refine (CM.out _ (by repeat (first | exact HB.out | refine Below.setCell ?_ (by first | omega | (simp <;> omega)) _ | refine Below.alloc ?_ (by first | omega | (simp <;> omega)) _))).mono ?_
        rw [TM.out]
        rintro e v3 ⟨rfl, b2, b3⟩
        have BX := Lib.hid (BX.out.next (Below.trans (by repeat (first | exact Below.refl _ _ | refine Below.setCell ?_ (by simp <;> omega) _ | refine Below.alloc ?_ (by simp <;> omega) _)) (b3.mono (by simp <;> omega))))
        clear k0 k1 k2 k3 k4 k5 k6
        have HB := Lib.hid b2
        have hws := b2.size
        clear b2 b3
        obtain ⟨k0, k1, k2, k3, k4, k5, k6⟩ := BX.out.seven
        have hbw : w.heap.size < v3.heap.size := BX.out.1
        go_wp2_with fail
        refine (CC.out _ (by repeat (first | exact HB.out | refine Below.setCell ?_ (by first | omega | (simp <;> omega)) _ | refine Below.alloc ?_ (by first | omega | (simp <;> omega)) _)) TM.out).mono ?_
        rw [TC.out]
        rintro e v4 ⟨rfl, b2, b3⟩
        have BX := Lib.hid (BX.out.next (Below.trans (by repeat (first | exact Below.refl _ _ | refine Below.setCell ?_ (by simp <;> omega) _ | refine Below.alloc ?_ (by simp <;> omega) _)) (b3.mono (by simp <;> omega))))
        clear k0 k1 k2 k3 k4 k5 k6
        have HB := Lib.hid b2
        have hws := b2.size
        clear b2 b3
        obtain ⟨k0, k1, k2, k3, k4, k5, k6⟩ := BX.out.seven
        have hbw : w.heap.size < v4.heap.size := BX.out.1
        go_wp2_with fail
        refine (CT.out _ (by repeat (first | exact HB.out | refine Below.setCell ?_ (by first | omega | (simp <;> omega)) _ | refine Below.alloc ?_ (by first | omega | (simp <;> omega)) _))).mono ?_
        rw [TT.out]
        rintro e v5 ⟨rfl, b2, b3⟩
        have BX := Lib.hid (BX.out.next (Below.trans (by repeat (first | exact Below.refl _ _ | refine Below.setCell ?_ (by simp <;> omega) _ | refine Below.alloc ?_ (by simp <;> omega) _)) (b3.mono (by simp <;> omega))))
        clear k0 k1 k2 k3 k4 k5 k6
        have HB := Lib.hid b2
        have hws := b2.size
        clear b2 b3
        obtain ⟨k0, k1, k2, k3, k4, k5, k6⟩ := BX.out.seven
        have hbw : w.heap.size < v5.heap.size := BX.out.1
        go_wp2
        go_ret
        exact ⟨by rw [HF.out]; rfl, HB.out⟩
      · have HF := Lib.hid (show rsn ls ⟨x, n0, s, false⟩ = 0 by unfold rsn; simp [tL, tN, tM, tC, tT, h4, h6])
        have TT := Lib.hid tT
        clear tL tN tM tC tT h5 h4
        go_enter Tryz.func160, Tryz.ntmps160
        go_wp2_with fail
        refine (CK.out _ (by repeat (first | exact Below.refl _ _ | refine Below.setCell ?_ (by simp) _ | refine Below.alloc ?_ (by simp <;> omega) _)) HKN.out).mono ?_
        rintro e v0 ⟨rfl, b2, b3⟩
        have BX := Lib.hid ((Bx.of7 (b := w.heap.size) (v0 := .int .i64 x.k) (v1 := .int .i64 x.n) (v2 := .string x.nm) (v3 := .slice E x.args.length ce) (v4 := .int .i64 en) (v5 := .int .i64 s) (v6 := .bool false) (by simp <;> omega) (by simp [go_sem]) (by simp [go_sem]) (by simp [go_sem]) (by simp [go_sem]) (by simp [go_sem]) (by simp [go_sem]) (by simp [go_sem])).next b3)
        have HB := Lib.hid b2
        have hws := b2.size
        clear b2 b3
        obtain ⟨k0, k1, k2, k3, k4, k5, k6⟩ := BX.out.seven
        have hbw : w.heap.size < v0.heap.size := BX.out.1
        go_wp2_with fail
        refine (CL.out _ (by repeat (first | exact HB.out | refine Below.setCell ?_ (by first | omega | (simp <;> omega)) _ | refine Below.alloc ?_ (by first | omega | (simp <;> omega)) _)) HKN.out).mono ?_
        rw [TL.out]
        rintro e v1 ⟨rfl, b2, b3⟩
        have BX := Lib.hid (BX.out.next (Below.trans (by repeat (first | exact Below.refl _ _ | refine Below.setCell ?_ (by simp <;> omega) _ | refine Below.alloc ?_ (by simp <;> omega) _)) (b3.mono (by simp <;> omega))))
        clear k0 k1 k2 k3 k4 k5 k6
        have HB := Lib.hid b2
        have hws := b2.size
        clear b2 b3
        obtain ⟨k0, k1, k2, k3, k4, k5, k6⟩ := BX.out.seven
        have hbw : w.heap.size < v1.heap.size := BX.out.1
        go_wp2_with fail
        refine (CN.out _ (by repeat (first | exact HB.out | refine Below.setCell ?_ (by first | omega | (simp <;> omega)) _ | refine Below.alloc ?_ (by first | omega | (simp <;> omega)) _))).mono ?_
        rw [TN.out]
        rintro e v2 ⟨rfl, b2, b3⟩
        have BX := Lib.hid (BX.out.next (Below.trans (by repeat (first | exact Below.refl _ _ | refine Below.setCell ?_ (by simp <;> omega) _ | refine Below.alloc ?_ (by simp <;> omega) _)) (b3.mono (by simp <;> omega))))
        clear k0 k1 k2 k3 k4 k5 k6
        have HB := Lib.hid b2
        have hws := b2.size
        clear b2 b3
        obtain ⟨k0, k1, k2, k3, k4, k5, k6⟩ := BX.out.seven
        have hbw : w.heap.size < v2.heap.size := BX.out.1
        go_wp2_with fail
        refine (CM.out _ (by repeat (first | exact HB.out | refine Below.setCell ?_ (by first | omega | (simp <;> omega)) _ | refine Below.alloc ?_ (by first | omega | (simp <;> omega)) _))).mono ?_
        rw [TM.out]
        rintro e v3 ⟨rfl, b2, b3⟩
        have BX := Lib.hid (BX.out.next (Below.trans (by repeat (first | exact Below.refl _ _ | refine Below.setCell ?_ (by simp <;> omega) _ | refine Below.alloc ?_ (by simp <;> omega) _)) (b3.mono (by simp <;> omega))))
        clear k0 k1 k2 k3 k4 k5 k6
        have HB := Lib.hid b2
        have hws := b2.size
        clear b2 b3
        obtain ⟨k0, k1, k2, k3, k4, k5, k6⟩ := BX.out.seven
        have hbw : w.heap.size < v3.heap.size := BX.out.1
        go_wp2_with fail
        refine (CC.out _ (by repeat (first | exact HB.out | refine Below.setCell ?_ (by first | omega | (simp <;> omega)) _ | refine Below.alloc ?_ (by first | omega | (simp <;> omega)) _)) TM.out).mono ?_
        rw [TC.out]
        rintro e v4 ⟨rfl, b2, b3⟩
        have BX := Lib.hid (BX.out.next (Below.trans (by repeat (first | exact Below.refl _ _ | refine Below.setCell ?_ (by simp <;> omega) _ | refine Below.alloc ?_ (by simp <;> omega) _)) (b3.mono (by simp <;> omega))))
        clear k0 k1 k2 k3 k4 k5 k6
        have HB := Lib.hid b2
        have hws := b2.size
        clear b2 b3
        obtain ⟨k0, k1, k2, k3, k4, k5, k6⟩ := BX.out.seven
        have hbw : w.heap.size < v4.heap.size := BX.out.1
        go_wp2_with fail
        refine (CT.out _ (by repeat (first | exact HB.out | refine Below.setCell ?_ (by first | omega | (simp <;> omega)) _ | refine Below.alloc ?_ (by first | omega | (simp <;> omega)) _))).mono ?_
        rw [TT.out]
        rintro e v5 ⟨rfl, b2, b3⟩
        have BX := Lib.hid (BX.out.next (Below.trans (by repeat (first | exact Below.refl _ _ | refine Below.setCell ?_ (by simp <;> omega) _ | refine Below.alloc ?_ (by simp <;> omega) _)) (b3.mono (by simp <;> omega))))
        clear k0 k1 k2 k3 k4 k5 k6
        have HB := Lib.hid b2
        have hws := b2.size
        clear b2 b3
        obtain ⟨k0, k1, k2, k3, k4, k5, k6⟩ := BX.out.seven
        have hbw : w.heap.size < v5.heap.size := BX.out.1
        go_wp2
        go_ret
        exact ⟨by rw [HF.out]; rfl, HB.out⟩
  have e5 : (x.k == 5) = false := ib_ne h5
  have e4 : (x.k == 4) = false := ib_ne h4
  rcases tT : trmB s x.args with _ | _
  · have HF := Lib.hid (show rsn ls ⟨x, n0, s, false⟩ = 8 by unfold rsn; simp [tL, tN, tM, tC, tT, h4, h5])
    have TT := Lib.hid tT
    clear tL tN tM tC tT
    go_enter Tryz.func160, Tryz.ntmps160
    go_wp2_with fail
    refine (CK.out _ (by repeat (first | exact Below.refl _ _ | refine Below.setCell ?_ (by simp) _ | refine Below.alloc ?_ (by simp <;> omega) _)) HKN.out).mono ?_
    rintro e v0 ⟨rfl, b2, b3⟩
    have BX := Lib.hid ((Bx.of7 (b := w.heap.size) (v0 := .int .i64 x.k) (v1 := .int .i64 x.n) (v2 := .string x.nm) (v3 := .slice E x.args.length ce) (v4 := .int .i64 en) (v5 := .int .i64 s) (v6 := .bool false) (by simp <;> omega) (by simp [go_sem]) (by simp [go_sem]) (by simp [go_sem]) (by simp [go_sem]) (by simp [go_sem]) (by simp [go_sem]) (by simp [go_sem])).next b3)
    have HB := Lib.hid b2
    have hws := b2.size
    clear b2 b3
    obtain ⟨k0, k1, k2, k3, k4, k5, k6⟩ := BX.out.seven
    have hbw : w.heap.size < v0.heap.size := BX.out.1
    go_wp2_with fail
    refine (CL.out _ (by repeat (first | exact HB.out | refine Below.setCell ?_ (by first | omega | (simp <;> omega)) _ | refine Below.alloc ?_ (by first | omega | (simp <;> omega)) _)) HKN.out).mono ?_
    rw [TL.out]
    rintro e v1 ⟨rfl, b2, b3⟩
    have BX := Lib.hid (BX.out.next (Below.trans (by repeat (first | exact Below.refl _ _ | refine Below.setCell ?_ (by simp <;> omega) _ | refine Below.alloc ?_ (by simp <;> omega) _)) (b3.mono (by simp <;> omega))))
    clear k0 k1 k2 k3 k4 k5 k6
    have HB := Lib.hid b2
    have hws := b2.size
    clear b2 b3
    obtain ⟨k0, k1, k2, k3, k4, k5, k6⟩ := BX.out.seven
    have hbw : w.heap.size < v1.heap.size := BX.out.1
    go_wp2_with fail
    refine (CN.out _ (by repeat (first | exact HB.out | refine Below.setCell ?_ (by first | omega | (simp <;> omega)) _ | refine Below.alloc ?_ (by first | omega | (simp <;> omega)) _))).mono ?_
    rw [TN.out]
    rintro e v2 ⟨rfl, b2, b3⟩
    have BX := Lib.hid (BX.out.next (Below.trans (by repeat (first | exact Below.refl _ _ | refine Below.setCell ?_ (by simp <;> omega) _ | refine Below.alloc ?_ (by simp <;> omega) _)) (b3.mono (by simp <;> omega))))
    clear k0 k1 k2 k3 k4 k5 k6
    have HB := Lib.hid b2
    have hws := b2.size
    clear b2 b3
    obtain ⟨k0, k1, k2, k3, k4, k5, k6⟩ := BX.out.seven
    have hbw : w.heap.size < v2.heap.size := BX.out.1
    go_wp2_with fail
    refine (CM.out _ (by repeat (first | exact HB.out | refine Below.setCell ?_ (by first | omega | (simp <;> omega)) _ | refine Below.alloc ?_ (by first | omega | (simp <;> omega)) _))).mono ?_
    rw [TM.out]
    rintro e v3 ⟨rfl, b2, b3⟩
    have BX := Lib.hid (BX.out.next (Below.trans (by repeat (first | exact Below.refl _ _ | refine Below.setCell ?_ (by simp <;> omega) _ | refine Below.alloc ?_ (by simp <;> omega) _)) (b3.mono (by simp <;> omega))))
    clear k0 k1 k2 k3 k4 k5 k6
    have HB := Lib.hid b2
    have hws := b2.size
    clear b2 b3
    obtain ⟨k0, k1, k2, k3, k4, k5, k6⟩ := BX.out.seven
    have hbw : w.heap.size < v3.heap.size := BX.out.1
    go_wp2_with fail
    refine (CC.out _ (by repeat (first | exact HB.out | refine Below.setCell ?_ (by first | omega | (simp <;> omega)) _ | refine Below.alloc ?_ (by first | omega | (simp <;> omega)) _)) TM.out).mono ?_
    rw [TC.out]
    rintro e v4 ⟨rfl, b2, b3⟩
    have BX := Lib.hid (BX.out.next (Below.trans (by repeat (first | exact Below.refl _ _ | refine Below.setCell ?_ (by simp <;> omega) _ | refine Below.alloc ?_ (by simp <;> omega) _)) (b3.mono (by simp <;> omega))))
    clear k0 k1 k2 k3 k4 k5 k6
    have HB := Lib.hid b2
    have hws := b2.size
    clear b2 b3
    obtain ⟨k0, k1, k2, k3, k4, k5, k6⟩ := BX.out.seven
    have hbw : w.heap.size < v4.heap.size := BX.out.1
    go_wp2_with fail
    refine (CT.out _ (by repeat (first | exact HB.out | refine Below.setCell ?_ (by first | omega | (simp <;> omega)) _ | refine Below.alloc ?_ (by first | omega | (simp <;> omega)) _))).mono ?_
    rw [TT.out]
    rintro e v5 ⟨rfl, b2, b3⟩
    have BX := Lib.hid (BX.out.next (Below.trans (by repeat (first | exact Below.refl _ _ | refine Below.setCell ?_ (by simp <;> omega) _ | refine Below.alloc ?_ (by simp <;> omega) _)) (b3.mono (by simp <;> omega))))
    clear k0 k1 k2 k3 k4 k5 k6
    have HB := Lib.hid b2
    have hws := b2.size
    clear b2 b3
    obtain ⟨k0, k1, k2, k3, k4, k5, k6⟩ := BX.out.seven
    have hbw : w.heap.size < v5.heap.size := BX.out.1
    go_wp2
    go_ret
    exact ⟨by rw [HF.out]; rfl, HB.out⟩
  · have HF := Lib.hid (show rsn ls ⟨x, n0, s, false⟩ = 0 by unfold rsn; simp [tL, tN, tM, tC, tT, h4, h5])
    have TT := Lib.hid tT
    clear tL tN tM tC tT
    go_enter Tryz.func160, Tryz.ntmps160
    go_wp2_with fail
    refine (CK.out _ (by repeat (first | exact Below.refl _ _ | refine Below.setCell ?_ (by simp) _ | refine Below.alloc ?_ (by simp <;> omega) _)) HKN.out).mono ?_
    rintro e v0 ⟨rfl, b2, b3⟩
    have BX := Lib.hid ((Bx.of7 (b := w.heap.size) (v0 := .int .i64 x.k) (v1 := .int .i64 x.n) (v2 := .string x.nm) (v3 := .slice E x.args.length ce) (v4 := .int .i64 en) (v5 := .int .i64 s) (v6 := .bool false) (by simp <;> omega) (by simp [go_sem]) (by simp [go_sem]) (by simp [go_sem]) (by simp [go_sem]) (by simp [go_sem]) (by simp [go_sem]) (by simp [go_sem])).next b3)
    have HB := Lib.hid b2
    have hws := b2.size
    clear b2 b3
    obtain ⟨k0, k1, k2, k3, k4, k5, k6⟩ := BX.out.seven
    have hbw : w.heap.size < v0.heap.size := BX.out.1
    go_wp2_with fail
    refine (CL.out _ (by repeat (first | exact HB.out | refine Below.setCell ?_ (by first | omega | (simp <;> omega)) _ | refine Below.alloc ?_ (by first | omega | (simp <;> omega)) _)) HKN.out).mono ?_
    rw [TL.out]
    rintro e v1 ⟨rfl, b2, b3⟩
    have BX := Lib.hid (BX.out.next (Below.trans (by repeat (first | exact Below.refl _ _ | refine Below.setCell ?_ (by simp <;> omega) _ | refine Below.alloc ?_ (by simp <;> omega) _)) (b3.mono (by simp <;> omega))))
    clear k0 k1 k2 k3 k4 k5 k6
    have HB := Lib.hid b2
    have hws := b2.size
    clear b2 b3
    obtain ⟨k0, k1, k2, k3, k4, k5, k6⟩ := BX.out.seven
    have hbw : w.heap.size < v1.heap.size := BX.out.1
    go_wp2_with fail
    refine (CN.out _ (by repeat (first | exact HB.out | refine Below.setCell ?_ (by first | omega | (simp <;> omega)) _ | refine Below.alloc ?_ (by first | omega | (simp <;> omega)) _))).mono ?_
    rw [TN.out]
    rintro e v2 ⟨rfl, b2, b3⟩
    have BX := Lib.hid (BX.out.next (Below.trans (by repeat (first | exact Below.refl _ _ | refine Below.setCell ?_ (by simp <;> omega) _ | refine Below.alloc ?_ (by simp <;> omega) _)) (b3.mono (by simp <;> omega))))
    clear k0 k1 k2 k3 k4 k5 k6
    have HB := Lib.hid b2
    have hws := b2.size
    clear b2 b3
    obtain ⟨k0, k1, k2, k3, k4, k5, k6⟩ := BX.out.seven
    have hbw : w.heap.size < v2.heap.size := BX.out.1
    go_wp2_with fail
    refine (CM.out _ (by repeat (first | exact HB.out | refine Below.setCell ?_ (by first | omega | (simp <;> omega)) _ | refine Below.alloc ?_ (by first | omega | (simp <;> omega)) _))).mono ?_
    rw [TM.out]
    rintro e v3 ⟨rfl, b2, b3⟩
    have BX := Lib.hid (BX.out.next (Below.trans (by repeat (first | exact Below.refl _ _ | refine Below.setCell ?_ (by simp <;> omega) _ | refine Below.alloc ?_ (by simp <;> omega) _)) (b3.mono (by simp <;> omega))))
    clear k0 k1 k2 k3 k4 k5 k6
    have HB := Lib.hid b2
    have hws := b2.size
    clear b2 b3
    obtain ⟨k0, k1, k2, k3, k4, k5, k6⟩ := BX.out.seven
    have hbw : w.heap.size < v3.heap.size := BX.out.1
    go_wp2_with fail
    refine (CC.out _ (by repeat (first | exact HB.out | refine Below.setCell ?_ (by first | omega | (simp <;> omega)) _ | refine Below.alloc ?_ (by first | omega | (simp <;> omega)) _)) TM.out).mono ?_
    rw [TC.out]
    rintro e v4 ⟨rfl, b2, b3⟩
    have BX := Lib.hid (BX.out.next (Below.trans (by repeat (first | exact Below.refl _ _ | refine Below.setCell ?_ (by simp <;> omega) _ | refine Below.alloc ?_ (by simp <;> omega) _)) (b3.mono (by simp <;> omega))))
    clear k0 k1 k2 k3 k4 k5 k6
    have HB := Lib.hid b2
    have hws := b2.size
    clear b2 b3
    obtain ⟨k0, k1, k2, k3, k4, k5, k6⟩ := BX.out.seven
    have hbw : w.heap.size < v4.heap.size := BX.out.1
    go_wp2_with fail
    refine (CT.out _ (by repeat (first | exact HB.out | refine Below.setCell ?_ (by first | omega | (simp <;> omega)) _ | refine Below.alloc ?_ (by first | omega | (simp <;> omega)) _))).mono ?_
    rw [TT.out]
    rintro e v5 ⟨rfl, b2, b3⟩
    have BX := Lib.hid (BX.out.next (Below.trans (by repeat (first | exact Below.refl _ _ | refine Below.setCell ?_ (by simp <;> omega) _ | refine Below.alloc ?_ (by simp <;> omega) _)) (b3.mono (by simp <;> omega))))
    clear k0 k1 k2 k3 k4 k5 k6
    have HB := Lib.hid b2
    have hws := b2.size
    clear b2 b3
    obtain ⟨k0, k1, k2, k3, k4, k5, k6⟩ := BX.out.seven
    have hbw : w.heap.size < v5.heap.size := BX.out.1
    go_wp2
    go_ret
    exact ⟨by rw [HF.out]; rfl, HB.out⟩
theorem implCheck_any (a : An) (E : Option Addr) (ce : Nat) (en : Int) (A : Option Addr) (c : Nat) (ls : List Df) (w : World) (S : Nat → Prop) (hn : ls.length ≤ 4) (h : LRow dfR w S A ls) (g : LRow (listR tmR) w S E a.p.args) (hS : ∀ b, S b → b < w.heap.size) (hs : 0 ≤ a.s ∧ a.s ≤ 23) (hok : okList (okList okAny) a.p.args) (ht : FormTab w) :
    Calls Tryz.prog 160 #[.agg #[.int .i64 a.p.k, .int .i64 a.p.n, .string a.p.nm, .slice E a.p.args.length ce, .int .i64 en, .int .i64 a.s, .bool a.c], .slice A ls.length c] w fun e w' => e = .returned (chkV (rsn ls a)) ∧ Below w.heap.size w w' := by
  obtain ⟨x, n0, s, cc⟩ := a
  cases cc
  · exact implCheck_false x s n0 E ce en A c ls w S hn h g hS hs hok ht
  · exact implCheck_true x s n0 E ce en A c ls w S hn h g hS hs hok ht
end Go.Proofs.YtdgcpaeneafejaaGreatDoor
