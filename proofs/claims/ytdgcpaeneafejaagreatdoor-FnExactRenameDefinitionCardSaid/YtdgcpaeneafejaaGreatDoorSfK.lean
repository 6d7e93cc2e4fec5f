/- Meetings, components, systems: the program. -/
import Derived.Test.YtdgcpaeneafejaaGreatDoorSfJ
import Derived.Test.YtdgcpaeneafejaaGreatDoorSfT
import Derived.Test.YtdgcpaeneafejaaGreatDoorEvLow
import Derived.Test.YtdgcpaeneafejaaGreatDoorPxJL
namespace Go.Proofs.YtdgcpaeneafejaaGreatDoor
open Go.RowKit
set_option maxRecDepth 100000 in
theorem joins_any (x : Mt) (t : ByteArray) (w : World) : Calls Tryz.prog 141 #[.agg #[.string x.l, .string x.r, .string x.s], .string t] w fun e w' => e = .returned (.bool (eqB t x.l || eqB t x.r)) ∧ Below w.heap.size w w' := by
  rcases u1 : eqB t x.l with _ | _
  · have v1 : (t.toList == x.l.toList) = false := u1
    rcases u2 : eqB t x.r with _ | _
    · have v2 : (t.toList == x.r.toList) = false := u2
      clear u1 u2
      go_enter Tryz.func141, Tryz.ntmps141
      go_wp2
      go_ret
      exact ⟨rfl, (by repeat (first | exact Below.refl _ _ | refine Below.setCell ?_ (by simp) _ | refine Below.alloc ?_ (by simp <;> omega) _))⟩
    · have v2 : (t.toList == x.r.toList) = true := u2
      clear u1 u2
      go_enter Tryz.func141, Tryz.ntmps141
      go_wp2
      go_ret
      exact ⟨rfl, (by repeat (first | exact Below.refl _ _ | refine Below.setCell ?_ (by simp) _ | refine Below.alloc ?_ (by simp <;> omega) _))⟩
  · have v1 : (t.toList == x.l.toList) = true := u1
    clear u1
    go_enter Tryz.func141, Tryz.ntmps141
    go_wp2
    go_ret
    exact ⟨rfl, (by repeat (first | exact Below.refl _ _ | refine Below.setCell ?_ (by simp) _ | refine Below.alloc ?_ (by simp <;> omega) _))⟩
set_option maxRecDepth 100000 in
theorem joinsOf_any (x : Mt) (t : ByteArray) (p : Nat) (w : World) (h : w.cell? ⟨p, 2, none⟩ = some (.string t)) : Calls Tryz.prog 140 #[.agg #[.string x.l, .string x.r, .string x.s], .pointer (some ⟨p, 0, none⟩)] w fun e w' => e = .returned (.bool (eqB t x.l || eqB t x.r)) ∧ Below w.heap.size w w' := by
  have hp : p < w.heap.size := World.block_lt_of_cell? w _ h
  have C := Lib.hid (fun W : World => joins_any x t W)
  go_enter Tryz.func140, Tryz.ntmps140
  go_wp2_with (go_at_call 141; refine (C.out _).mono ?_; rintro e w2 ⟨rfl, hb⟩; have HB := Lib.hid (Below.trans (b := w.alloc _) ((Below.refl _ _).alloc (Nat.le_refl _) _) (hb.mono (by simp))); clear hb)
  go_ret
  exact ⟨rfl, HB.out⟩
/-- Where the first meeting joins an action; -1 if none does. -/
def IxPost (b : Bool) (w : World) (e : Ending) (w' : World) : Prop := ∃ r : Int, e = .returned (.int .i64 r) ∧ (b = true → 0 ≤ r) ∧ (b = false → r = -1) ∧ Below w.heap.size w w'
set_option maxRecDepth 100000 in
set_option maxHeartbeats 1000000 in
theorem indexMt_any (A : Option Addr) (n c : Nat) (ms : List Mt) (t : ByteArray) (p : Nat) (w : World) (S : Nat → Prop) (h : LRow mtR w S A ms) (l : ms.length = n) (m : n ≤ 1048576) (hS : ∀ b, S b → b < w.heap.size) (hc : w.cell? ⟨p, 2, none⟩ = some (.string t)) :
    Calls Tryz.prog 162 #[.slice A n c, .func (.func 140) #[] #[.pointer (some ⟨p, 0, none⟩)]] w (IxPost (jn ms t) w) := by
  have L := Lib.hid l
  have HR := Lib.hid h
  have HS := Lib.hid hS
  have HC := Lib.hid hc
  have hp : p < w.heap.size := World.block_lt_of_cell? w _ hc
  clear h l hS hc
  go_enter Tryz.func162, Tryz.ntmps162
  go_wp2
  go_loopw [8] (fun i wr => ∃ k : Nat, k ≤ n ∧ i = .int .i64 k ∧ Hid (Below w.heap.size w wr) ∧ Hid (jn (ms.take k) t = false)) (fun i _ => n - (intOf i).toNat)
  case atStart => exact ⟨0, Nat.zero_le _, rfl, Lib.hid (Below.refl _ _), Lib.hid rfl⟩
  case round =>
    obtain ⟨k, hk, rfl, HB, HT⟩ := hrel
    have hsz := HB.out.size
    by_cases hlt : k < n
    · obtain ⟨b, o, cs, x, rfl, hb, hR, hx, hcx⟩ := (HR.out.keep (SameOn.of_below HB.out HS.out)).at_ (k := k) (by rw [L.out]; exact hlt)
      obtain ⟨rfl, _⟩ := hR
      have r0 : wr.cell? ⟨b, o + k * 3, none⟩ = some (.string x.l) := hcx 0 _ rfl
      have r1 : wr.cell? ⟨b, o + k * 3 + 1, none⟩ = some (.string x.r) := hcx 1 _ rfl
      have r2 : wr.cell? ⟨b, o + k * 3 + 2, none⟩ = some (.string x.s) := hcx 2 _ rfl
      have C := Lib.hid (joinsOf_any x t p wr ((HB.out.cell (p := ⟨p, 2, none⟩) hp).trans HC.out))
      clear hcx
      rcases u : (eqB t x.l || eqB t x.r) with _ | _
      · have HN : Hid (jn (ms.take (k + 1)) t = false) := Lib.hid (any_take_next (p := fun o : Mt => eqB t o.l || eqB t o.r) (show (ms.take k).any _ = false from HT.out) hx.out u)
        rw [u] at C
        clear u
        go_wp2_with (go_at_call 140; refine C.out.mono ?_; rintro e w2 ⟨rfl, hb⟩; have HB2 := Lib.hid (HB.out.trans (hb.mono hsz)); clear hb)
        go_roundw
        case rel => exact ⟨k + 1, by omega, by go_num, HB2, HN⟩
        case measure => simp [intOf]; omega
      · have HF : Hid (jn ms t = true) := Lib.hid (show ms.any _ = true from any_true (p := fun o : Mt => eqB t o.l || eqB t o.r) hx.out u)
        rw [u] at C
        clear u
        go_wp2_with (go_at_call 140; refine C.out.mono ?_; rintro e w2 ⟨rfl, hb⟩; have HB2 := Lib.hid (HB.out.trans (hb.mono hsz)); clear hb)
        go_ret
        exact ⟨k, rfl, fun _ => by omega, fun e => by (rw [HF.out] at e; cases e), HB2.out⟩
    · have HF := Lib.hid (show jn ms t = false by
        have ht := HT.out
        rwa [List.take_of_length_le (by rw [L.out]; omega)] at ht)
      go_wp2
      go_ret
      exact ⟨-1, rfl, fun e => by (rw [HF.out] at e; cases e), fun _ => rfl, HB.out⟩
theorem containsMt_any (A : Option Addr) (n c : Nat) (ms : List Mt) (t : ByteArray) (p : Nat) (w : World) (S : Nat → Prop) (h : LRow mtR w S A ms) (l : ms.length = n) (m : n ≤ 1048576) (hS : ∀ b, S b → b < w.heap.size) (hc : w.cell? ⟨p, 2, none⟩ = some (.string t)) :
    Calls Tryz.prog 139 #[.slice A n c, .func (.func 140) #[] #[.pointer (some ⟨p, 0, none⟩)]] w fun e w' => e = .returned (.bool (jn ms t)) ∧ Below w.heap.size w w' := by
  have C := Lib.hid (indexMt_any A n c ms t p w S h l m hS hc)
  clear l h hS hc
  rcases hd : jn ms t with _ | _
  · have HD := Lib.hid hd
    clear hd
    go_enter Tryz.func139, Tryz.ntmps139
    go_wp2_with (go_at_call 162; refine (C.out).mono ?_; rintro e w' ⟨r, rfl, _, h2, hb⟩; obtain rfl := h2 HD.out; have HB := Lib.hid hb; clear hb)
    go_ret
    exact ⟨rfl, HB.out⟩
  · have HD := Lib.hid hd
    clear hd
    go_enter Tryz.func139, Tryz.ntmps139
    go_wp2_with (go_at_call 162; refine (C.out).mono ?_; rintro e w' ⟨r, rfl, h1, _, hb⟩; have hr := h1 HD.out; clear h1; have HB := Lib.hid hb; clear hb)
    go_ret
    exact ⟨rfl, HB.out⟩
set_option maxRecDepth 100000 in
set_option maxHeartbeats 2000000 in
theorem mtValid_any (m : Mt) (w : World) : Calls Tryz.prog 138 #[.agg #[.string m.l, .string m.r, .string m.s]] w fun e w' => e = .returned (.bool (mtA m)) ∧ Below w.heap.size w w' := by
  have C0 := Lib.hid (fun W : World => implAction_any m.l W)
  have C1 := Lib.hid (fun W : World => implAction_any m.r W)
  have C2 := Lib.hid (fun W : World => implAction_any m.s W)
  rcases t0 : actionB m.l.data.toList with _ | _
  · have HF := Lib.hid (show mtA m = false by unfold mtA; rw [t0]; simp)
    have A0 := Lib.hid t0
    clear t0
    go_enter Tryz.func138, Tryz.ntmps138
    go_wp2_with (first | (go_at_call 144; with_reducible refine (C0.out _).mono ?_; rw [A0.out]; rintro e w1 ⟨rfl, hb⟩; have a0 := (hb.cell (p := ⟨w.heap.size, 0, none⟩) (by simp)).trans (show _ = some (.string m.l) by simp [go_sem]); have a1 := (hb.cell (p := ⟨w.heap.size, 1, none⟩) (by simp)).trans (show _ = some (.string m.r) by simp [go_sem]); have a2 := (hb.cell (p := ⟨w.heap.size, 2, none⟩) (by simp)).trans (show _ = some (.string m.s) by simp [go_sem]); have al : w.heap.size < w1.heap.size := World.block_lt_of_cell? w1 _ a0; have HB := Lib.hid (Below.trans (b := w.alloc _) ((Below.refl _ _).alloc (Nat.le_refl _) _) (hb.mono (by simp))); clear hb))
    go_ret
    exact ⟨ret_bool HF.out.symm, HB.out⟩
  rcases t1 : actionB m.r.data.toList with _ | _
  · have HF := Lib.hid (show mtA m = false by unfold mtA; rw [t0, t1]; simp)
    have A0 := Lib.hid t0
    have A1 := Lib.hid t1
    clear t0 t1
    go_enter Tryz.func138, Tryz.ntmps138
    go_wp2_with (first | (go_at_call 144; with_reducible refine (C0.out _).mono ?_; rw [A0.out]; rintro e w1 ⟨rfl, hb⟩; have a0 := (hb.cell (p := ⟨w.heap.size, 0, none⟩) (by simp)).trans (show _ = some (.string m.l) by simp [go_sem]); have a1 := (hb.cell (p := ⟨w.heap.size, 1, none⟩) (by simp)).trans (show _ = some (.string m.r) by simp [go_sem]); have a2 := (hb.cell (p := ⟨w.heap.size, 2, none⟩) (by simp)).trans (show _ = some (.string m.s) by simp [go_sem]); have al : w.heap.size < w1.heap.size := World.block_lt_of_cell? w1 _ a0; have HB := Lib.hid (Below.trans (b := w.alloc _) ((Below.refl _ _).alloc (Nat.le_refl _) _) (hb.mono (by simp))); clear hb) | (go_at_call 144; with_reducible refine (C1.out _).mono ?_; rw [A1.out]; rintro e w2 ⟨rfl, hb⟩; have b0 := (hb.cell (p := ⟨w.heap.size, 0, none⟩) al).trans a0; have b1 := (hb.cell (p := ⟨w.heap.size, 1, none⟩) al).trans a1; have b2 := (hb.cell (p := ⟨w.heap.size, 2, none⟩) al).trans a2; have bl : w.heap.size < w2.heap.size := World.block_lt_of_cell? w2 _ b0; have HB := Lib.hid (HB.out.trans (hb.mono HB.out.size)); clear hb))
    go_ret
    exact ⟨ret_bool HF.out.symm, HB.out⟩
  rcases t2 : actionB m.s.data.toList with _ | _
  · have HF := Lib.hid (show mtA m = false by unfold mtA; rw [t0, t1, t2]; simp)
    have A0 := Lib.hid t0
    have A1 := Lib.hid t1
    have A2 := Lib.hid t2
    clear t0 t1 t2
    go_enter Tryz.func138, Tryz.ntmps138
    go_wp2_with (first | (go_at_call 144; with_reducible refine (C0.out _).mono ?_; rw [A0.out]; rintro e w1 ⟨rfl, hb⟩; have a0 := (hb.cell (p := ⟨w.heap.size, 0, none⟩) (by simp)).trans (show _ = some (.string m.l) by simp [go_sem]); have a1 := (hb.cell (p := ⟨w.heap.size, 1, none⟩) (by simp)).trans (show _ = some (.string m.r) by simp [go_sem]); have a2 := (hb.cell (p := ⟨w.heap.size, 2, none⟩) (by simp)).trans (show _ = some (.string m.s) by simp [go_sem]); have al : w.heap.size < w1.heap.size := World.block_lt_of_cell? w1 _ a0; have HB := Lib.hid (Below.trans (b := w.alloc _) ((Below.refl _ _).alloc (Nat.le_refl _) _) (hb.mono (by simp))); clear hb) | (go_at_call 144; with_reducible refine (C1.out _).mono ?_; rw [A1.out]; rintro e w2 ⟨rfl, hb⟩; have b0 := (hb.cell (p := ⟨w.heap.size, 0, none⟩) al).trans a0; have b1 := (hb.cell (p := ⟨w.heap.size, 1, none⟩) al).trans a1; have b2 := (hb.cell (p := ⟨w.heap.size, 2, none⟩) al).trans a2; have bl : w.heap.size < w2.heap.size := World.block_lt_of_cell? w2 _ b0; have HB := Lib.hid (HB.out.trans (hb.mono HB.out.size)); clear hb) | (go_at_call 144; with_reducible refine (C2.out _).mono ?_; rw [A2.out]; rintro e w3 ⟨rfl, hb⟩; have c0 := (hb.cell (p := ⟨w.heap.size, 0, none⟩) bl).trans b0; have c1 := (hb.cell (p := ⟨w.heap.size, 1, none⟩) bl).trans b1; have c2 := (hb.cell (p := ⟨w.heap.size, 2, none⟩) bl).trans b2; have cl : w.heap.size < w3.heap.size := World.block_lt_of_cell? w3 _ c0; have HB := Lib.hid (HB.out.trans (hb.mono HB.out.size)); clear hb))
    go_ret
    exact ⟨ret_bool HF.out.symm, HB.out⟩
  rcases tq : lsB m.r m.l with _ | _
  · have HF := Lib.hid (show mtA m = true by unfold mtA; rw [t0, t1, t2, tq]; rfl)
    have g0 : (Op.bytesLess m.l.toList m.r.toList || m.l.toList == m.r.toList) = true := by have e := leq_eq m.l m.r; rw [tq] at e; exact e
    have A0 := Lib.hid t0
    have A1 := Lib.hid t1
    have A2 := Lib.hid t2
    clear t0 t1 t2 tq
    go_enter Tryz.func138, Tryz.ntmps138
    go_wp2_with (first | (go_at_call 144; with_reducible refine (C0.out _).mono ?_; rw [A0.out]; rintro e w1 ⟨rfl, hb⟩; have a0 := (hb.cell (p := ⟨w.heap.size, 0, none⟩) (by simp)).trans (show _ = some (.string m.l) by simp [go_sem]); have a1 := (hb.cell (p := ⟨w.heap.size, 1, none⟩) (by simp)).trans (show _ = some (.string m.r) by simp [go_sem]); have a2 := (hb.cell (p := ⟨w.heap.size, 2, none⟩) (by simp)).trans (show _ = some (.string m.s) by simp [go_sem]); have al : w.heap.size < w1.heap.size := World.block_lt_of_cell? w1 _ a0; have HB := Lib.hid (Below.trans (b := w.alloc _) ((Below.refl _ _).alloc (Nat.le_refl _) _) (hb.mono (by simp))); clear hb) | (go_at_call 144; with_reducible refine (C1.out _).mono ?_; rw [A1.out]; rintro e w2 ⟨rfl, hb⟩; have b0 := (hb.cell (p := ⟨w.heap.size, 0, none⟩) al).trans a0; have b1 := (hb.cell (p := ⟨w.heap.size, 1, none⟩) al).trans a1; have b2 := (hb.cell (p := ⟨w.heap.size, 2, none⟩) al).trans a2; have bl : w.heap.size < w2.heap.size := World.block_lt_of_cell? w2 _ b0; have HB := Lib.hid (HB.out.trans (hb.mono HB.out.size)); clear hb) | (go_at_call 144; with_reducible refine (C2.out _).mono ?_; rw [A2.out]; rintro e w3 ⟨rfl, hb⟩; have c0 := (hb.cell (p := ⟨w.heap.size, 0, none⟩) bl).trans b0; have c1 := (hb.cell (p := ⟨w.heap.size, 1, none⟩) bl).trans b1; have c2 := (hb.cell (p := ⟨w.heap.size, 2, none⟩) bl).trans b2; have cl : w.heap.size < w3.heap.size := World.block_lt_of_cell? w3 _ c0; have HB := Lib.hid (HB.out.trans (hb.mono HB.out.size)); clear hb))
    go_ret
    exact ⟨ret_bool HF.out.symm, HB.out⟩
  · have HF := Lib.hid (show mtA m = false by unfold mtA; rw [t0, t1, t2, tq]; rfl)
    have g1 : Op.bytesLess m.l.toList m.r.toList = false := lsB_asymm tq
    have g2 : (m.l.toList == m.r.toList) = false := by have e := eqB_tri (a := m.l) (b := m.r) (lsB_asymm tq); rw [tq] at e; exact e
    have A0 := Lib.hid t0
    have A1 := Lib.hid t1
    have A2 := Lib.hid t2
    clear t0 t1 t2 tq
    go_enter Tryz.func138, Tryz.ntmps138
    go_wp2_with (first | (go_at_call 144; with_reducible refine (C0.out _).mono ?_; rw [A0.out]; rintro e w1 ⟨rfl, hb⟩; have a0 := (hb.cell (p := ⟨w.heap.size, 0, none⟩) (by simp)).trans (show _ = some (.string m.l) by simp [go_sem]); have a1 := (hb.cell (p := ⟨w.heap.size, 1, none⟩) (by simp)).trans (show _ = some (.string m.r) by simp [go_sem]); have a2 := (hb.cell (p := ⟨w.heap.size, 2, none⟩) (by simp)).trans (show _ = some (.string m.s) by simp [go_sem]); have al : w.heap.size < w1.heap.size := World.block_lt_of_cell? w1 _ a0; have HB := Lib.hid (Below.trans (b := w.alloc _) ((Below.refl _ _).alloc (Nat.le_refl _) _) (hb.mono (by simp))); clear hb) | (go_at_call 144; with_reducible refine (C1.out _).mono ?_; rw [A1.out]; rintro e w2 ⟨rfl, hb⟩; have b0 := (hb.cell (p := ⟨w.heap.size, 0, none⟩) al).trans a0; have b1 := (hb.cell (p := ⟨w.heap.size, 1, none⟩) al).trans a1; have b2 := (hb.cell (p := ⟨w.heap.size, 2, none⟩) al).trans a2; have bl : w.heap.size < w2.heap.size := World.block_lt_of_cell? w2 _ b0; have HB := Lib.hid (HB.out.trans (hb.mono HB.out.size)); clear hb) | (go_at_call 144; with_reducible refine (C2.out _).mono ?_; rw [A2.out]; rintro e w3 ⟨rfl, hb⟩; have c0 := (hb.cell (p := ⟨w.heap.size, 0, none⟩) bl).trans b0; have c1 := (hb.cell (p := ⟨w.heap.size, 1, none⟩) bl).trans b1; have c2 := (hb.cell (p := ⟨w.heap.size, 2, none⟩) bl).trans b2; have cl : w.heap.size < w3.heap.size := World.block_lt_of_cell? w3 _ c0; have HB := Lib.hid (HB.out.trans (hb.mono HB.out.size)); clear hb))
    go_ret
    exact ⟨ret_bool HF.out.symm, HB.out⟩
set_option maxRecDepth 100000 in
set_option maxHeartbeats 4000000 in
theorem implMeetings_any (A : Option Addr) (n c : Nat) (ms : List Mt) (w : World) (S : Nat → Prop) (h : LRow mtR w S A ms) (l : ms.length = n) (hn : n ≤ 1048576) (hS : ∀ b, S b → b < w.heap.size) :
    Calls Tryz.prog 119 #[.slice A n c] w fun e w' => e = .returned (.bool (msB ms)) ∧ Below w.heap.size w w' := by
  have hmf : ∀ (fn : Fn) (first cap : Array Value) (w : World), (Instr.makeFunc fn first cap).run Tryz.prog w = .ok (.func fn first cap) w := fun _ _ _ _ => rfl
  have L := Lib.hid l
  by_cases h6 : 6 < n
  · have HF := Lib.hid (show msB ms = false by unfold msB; rw [decide_eq_false (by omega)]; rfl)
    have h6i : (6 : Int) < (n : Int) := by omega
    clear h l hS
    go_enter Tryz.func119, Tryz.ntmps119
    go_wp2
    go_ret
    exact ⟨ret_bool HF.out.symm, by first | exact Below.refl _ _ | exact (Below.refl _ _).drew⟩
  have h6i : ¬ (6 : Int) < (n : Int) := by omega
  have h6' : ms.length ≤ 6 := by omega
  have CI := Lib.hid (incMt_any A n c ms w S h l hn hS)
  rcases ti : inc cmMt ms with _ | _
  · have HF := Lib.hid (msB_false (ms := ms) (.inl ti))
    have TI := Lib.hid ti
    clear h l hS ti
    go_enter Tryz.func119, Tryz.ntmps119
    go_wp2_with (go_at_call 136; refine CI.out.mono ?_; rw [TI.out]; rintro e w2 ⟨rfl, hb⟩; have HB0 := Lib.hid hb; clear hb)
    go_ret
    exact ⟨ret_bool HF.out.symm, HB0.out⟩
  have HI := Lib.hid ti
  have TI := Lib.hid ti
  have HR := Lib.hid h
  have HS := Lib.hid hS
  clear h l hS ti
  go_enter Tryz.func119, Tryz.ntmps119
  go_wp2_with (go_at_call 136; refine CI.out.mono ?_; rw [TI.out]; rintro e w2 ⟨rfl, hb⟩; have HB0 := Lib.hid hb; clear hb)
  go_loopw [15] (fun i wr => ∃ k : Nat, k ≤ n ∧ i = .int .i64 k ∧ Hid (Below w.heap.size w wr) ∧ Hid ((ms.take k).all mtA = true) ∧ Hid (((ms.take k).all fun m => !(jn ms m.s)) = true)) (fun i _ => n - (intOf i).toNat)
  case atStart => exact ⟨0, Nat.zero_le _, rfl, HB0, Lib.hid rfl, Lib.hid rfl⟩
  case round =>
    obtain ⟨k, hk, rfl, HB, HA, HJ⟩ := hrel
    have hsz := HB.out.size
    by_cases hlt : k < n
    · obtain ⟨b, o, cs, m, rfl, hb, hR, hm, hc⟩ := (HR.out.keep (SameOn.of_below HB.out HS.out)).at_ (k := k) (by rw [L.out]; exact hlt)
      obtain ⟨rfl, _⟩ := hR
      have r0 : wr.cell? ⟨b, o + k * 3, none⟩ = some (.string m.l) := hc 0 _ rfl
      have r1 : wr.cell? ⟨b, o + k * 3 + 1, none⟩ = some (.string m.r) := hc 1 _ rfl
      have r2 : wr.cell? ⟨b, o + k * 3 + 2, none⟩ = some (.string m.s) := hc 2 _ rfl
      have lb : b < wr.heap.size := World.block_lt_of_cell? wr _ r0
      have HB1 := Lib.hid (show Below w.heap.size w (wr.alloc (.cells #[.string m.l, .string m.r, .string m.s] 122)) from HB.out.alloc hsz _)
      have CV := Lib.hid (fun W : World => mtValid_any m W)
      have CC := Lib.hid (fun (W : World) (hW : Below w.heap.size w W) (q2 : W.cell? ⟨wr.heap.size, 2, none⟩ = some (.string m.s)) => containsMt_any (some ⟨b, o, none⟩) n c ms m.s wr.heap.size W S (HR.out.keep (SameOn.of_below hW HS.out)) L.out hn (fun x hx => Nat.lt_of_lt_of_le (HS.out x hx) hW.size) q2)
      clear hc
      rcases tv : mtA m with _ | _
      · have HF := Lib.hid (msB_false (ms := ms) (.inr (.inl (all_false hm.out tv))))
        have TV := Lib.hid tv
        clear tv
        go_wp2_with (go_at_call 138; refine (CV.out _).mono ?_; rw [TV.out]; rintro e w3 ⟨rfl, hb⟩; have z2 := (hb.cell (p := ⟨wr.heap.size, 2, none⟩) (by simp)).trans (show _ = some (.string m.s) by simp [go_sem]); have HB3 := Lib.hid (HB1.out.trans (hb.mono (HB1.out.size))); clear hb)
        go_ret
        exact ⟨ret_bool HF.out.symm, HB3.out⟩
      rcases tj : jn ms m.s with _ | _
      · have HA2 := Lib.hid (all_take_next HA.out hm.out tv)
        have HJ2 := Lib.hid (all_take_next (p := fun y => !(jn ms y.s)) HJ.out hm.out (by rw [tj]; rfl))
        have TV := Lib.hid tv
        have TJ := Lib.hid tj
        clear tv tj
        go_wp2_with (first | (go_at_call 138; refine (CV.out _).mono ?_; rw [TV.out]; rintro e w3 ⟨rfl, hb⟩; have z2 := (hb.cell (p := ⟨wr.heap.size, 2, none⟩) (by simp)).trans (show _ = some (.string m.s) by simp [go_sem]); have HB3 := Lib.hid (HB1.out.trans (hb.mono (HB1.out.size))); clear hb) | (go_at_call 139; refine (CC.out _ HB3.out z2).mono ?_; rw [TJ.out]; rintro e w4 ⟨rfl, hb⟩; have HB4 := Lib.hid (HB3.out.trans (hb.mono (HB3.out.size))); clear hb))
        go_roundw
        case rel => exact ⟨k + 1, by omega, by go_num, HB4, HA2, HJ2⟩
        case measure => simp [intOf]; omega
      · have HF := Lib.hid (msB_false (ms := ms) (.inr (.inr (all_false (p := fun y => !(jn ms y.s)) hm.out (by rw [tj]; rfl)))))
        have TV := Lib.hid tv
        have TJ := Lib.hid tj
        clear tv tj
        go_wp2_with (first | (go_at_call 138; refine (CV.out _).mono ?_; rw [TV.out]; rintro e w3 ⟨rfl, hb⟩; have z2 := (hb.cell (p := ⟨wr.heap.size, 2, none⟩) (by simp)).trans (show _ = some (.string m.s) by simp [go_sem]); have HB3 := Lib.hid (HB1.out.trans (hb.mono (HB1.out.size))); clear hb) | (go_at_call 139; refine (CC.out _ HB3.out z2).mono ?_; rw [TJ.out]; rintro e w4 ⟨rfl, hb⟩; have HB4 := Lib.hid (HB3.out.trans (hb.mono (HB3.out.size))); clear hb))
        go_ret
        exact ⟨ret_bool HF.out.symm, HB4.out⟩
    · have HF := Lib.hid (show msB ms = true by
        have e2 := HA.out
        have e3 := HJ.out
        rw [List.take_of_length_le (by rw [L.out]; omega)] at e2 e3
        unfold msB
        rw [HI.out, e2, e3, decide_eq_true h6']; rfl)
      go_wp2
      go_ret
      exact ⟨ret_bool HF.out.symm, HB.out⟩
end Go.Proofs.YtdgcpaeneafejaaGreatDoor
