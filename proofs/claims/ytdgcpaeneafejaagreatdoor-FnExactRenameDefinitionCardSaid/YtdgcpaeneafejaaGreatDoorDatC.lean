/- How the laws' own helpers answer on records: how much they hold, a copy, comparing. -/
import Derived.Test.YtdgcpaeneafejaaGreatDoorProg
import Derived.WalkKit
import Derived.ProofKit
import Derived.BigQuiet
import Derived.StillTailTactics
import Derived.OwnWalk
import Derived.Outline
import Derived.Test.YtdgcpaeneafejaaGreatDoorLow
import Derived.Test.YtdgcpaeneafejaaGreatDoorDatI
namespace Go.Proofs.YtdgcpaeneafejaaGreatDoor
open Go.RowKit
set_option maxHeartbeats 1000000 in
theorem szDComponent_any (x : Cp) (A : Option Addr) (c : Nat) (left : Int) (w : World) (hlc : x.vs.length ≤ c) (hcm : c ≤ maxLen) (h2 : 0 ≤ left) (h3 : left ≤ 1048576) :
    Calls Tryz.prog 14 #[.agg #[.int .i64 x.d, .slice A x.vs.length c], .int .i64 left] w (SzRet (okCp x) (wtCp x) left w) := by
  have hbx : ∀ o : Obj, Below w.heap.size w (w.alloc o) := fun o => (Below.refl _ _).alloc (Nat.le_refl _) o
  have HBX := Lib.hid hbx
  clear hbx
  have C := Lib.hid (fun (W : World) (_ : Below w.heap.size w W) => szDInt64S_any A x.vs.length c x.vs (left) W rfl (by omega) (by omega) (by omega))
  clear hlc hcm
  go_enter Tryz.func14, Tryz.ntmps14
  go_wp2_with fail
  refine (C.out _ (HBX.out _)).mono ?_
  rintro e w2 ⟨q, rfl, hq, b2⟩
  have B2 := Lib.hid ((HBX.out _).trans (b2.mono (by simp)))
  clear b2
  rcases hq with hq | ⟨hq0, hq1, hok⟩
  · go_wp2
    go_ret
    exact SzRet.no B2.out
  · have hq2 : ¬ q < 0 := by omega
    have HOK := Lib.hid hok
    clear hok
    go_wp2
    go_ret
    exact SzRet.yes hq0 (by show q + ((wL wtZ x.vs : Nat) : Int) ≤ left; omega) HOK.out B2.out
set_option maxHeartbeats 16000000 in
theorem toOComponent_any (x : Cp) (A : Option Addr) (c : Nat) (w : World) (S : Nat → Prop) (hr : LRow intR w S A x.vs) (hS : ∀ b, S b → b < w.heap.size) (m : okList okAny x.vs) :
    Calls Tryz.prog 16 #[.agg #[.int .i64 x.d, .slice A x.vs.length c]] w (MadeRO cpO x w) := by
  have hm : x.vs.length ≤ maxLen := by have := m.1; unfold maxLen; omega
  have C := Lib.hid (fun (W : World) (hW : Below w.heap.size w W) => toOInt64S_any A x.vs.length c x.vs W S (hr.keep (SameOn.of_below hW hS)) (fun b hb => Nat.lt_of_lt_of_le (hS b hb) hW.size) rfl m)
  have HM := Lib.hid hm
  clear hr hm m
  go_enter Tryz.func16, Tryz.ntmps16
  go_wp2_with fail
  refine (C.out _ (by repeat (first | exact Below.refl _ _ | refine Below.setCell ?_ (by simp) _ | refine Below.alloc ?_ (by simp <;> omega) _))).mono ?_
  rintro e w2 ⟨rfl, hl, b2⟩
  obtain ⟨hcc, _⟩ := bcell b2
  have HL := Lib.hid hl
  have B2 := Lib.hid b2
  have hs2 := b2.size
  simp at hs2
  clear hl b2
  go_wp2
  refine bodyPost_ret (v := .agg #[.int .i64 x.d, .slice (some ⟨_, 0, none⟩) x.vs.length x.vs.length]) (by simp [results, Tryz.results16, go_sem, hcc]; rfl) rfl ⟨[.int .i64 x.d, .slice (some ⟨_, 0, none⟩) x.vs.length x.vs.length], rfl, ?_, ?_⟩
  · refine ⟨_, _, rfl, OL.more (OL.keep (S := In (w.heap.size + 1 + 1 + 1) w2.heap.size) (by simpa using HL.out) ?_) ?_⟩
    · repeat (first | exact SameB.refl _ _ | refine SameB.setCell ?_ (by intro h; have := h.1; omega))
    · intro b hb
      exact ⟨by have := hb.1; omega, by have := hb.2; simpa [World.setCell] using this⟩
  · repeat (refine Below.setCell ?_ (by simp <;> omega) _)
    refine Below.trans ?_ (B2.out.mono (by simp <;> omega))
    repeat (first | exact Below.refl _ _ | refine Below.setCell ?_ (by simp) _ | refine Below.alloc ?_ (by simp <;> omega) _)
theorem toDComponent_any (x : Cp) (A : Option Addr) (c : Nat) (w : World) (S : Nat → Prop) (hr : LRow intR w S A x.vs) (hS : ∀ b, S b → b < w.heap.size) (m : okList okAny x.vs) :
    Calls Tryz.prog 16 #[.agg #[.int .i64 x.d, .slice A x.vs.length c]] w (MadeR cpR x w) :=
  (toOComponent_any x A c w S hr hS m).mono fun _ _ h => h.weak
set_option maxHeartbeats 1000000 in
theorem eqDComponent_yes (x : Cp) (A1 A2 : Option Addr) (c1 c2 : Nat) (S1 S2 : Nat → Prop) (w : World) (hr1 : LRow intR w S1 A1 x.vs) (hr2 : LRow intR w S2 A2 x.vs) (hS1 : ∀ b, S1 b → b < w.heap.size) (hS2 : ∀ b, S2 b → b < w.heap.size) (m : okList okAny x.vs) :
    Calls Tryz.prog 18 #[.agg #[.int .i64 x.d, .slice A1 x.vs.length c1], .agg #[.int .i64 x.d, .slice A2 x.vs.length c2]] w fun e w' => e = .returned (.bool true) ∧ Below w.heap.size w w' := by
  have hne0 : (x.d != x.d) = false := by simp
  have C := Lib.hid (fun (W : World) (hW : Below w.heap.size w W) => eqDInt64S_yes A1 A2 x.vs.length x.vs.length c1 c2 x.vs W S1 S2 (hr1.keep (SameOn.of_below hW hS1)) (hr2.keep (SameOn.of_below hW hS2)) (fun b hb => Nat.lt_of_lt_of_le (hS1 b hb) hW.size) (fun b hb => Nat.lt_of_lt_of_le (hS2 b hb) hW.size) rfl rfl m)
  clear hr1 hr2 m
  go_enter Tryz.func18, Tryz.ntmps18
  go_wp2_with fail
  refine (C.out _ (by repeat (first | exact Below.refl _ _ | refine Below.setCell ?_ (by simp) _ | refine Below.alloc ?_ (by simp <;> omega) _))).mono ?_
  rintro e w2 ⟨rfl, b2⟩
  have B2 := Lib.hid b2
  clear b2
  go_wp2
  go_ret
  refine ⟨rfl, Below.trans ?_ (B2.out.mono (by simp <;> omega))⟩
  repeat (first | exact Below.refl _ _ | refine Below.setCell ?_ (by simp) _ | refine Below.alloc ?_ (by simp <;> omega) _)
set_option maxHeartbeats 1000000 in
theorem szDComponentS_any (A : Option Addr) (n c : Nat) (xs : List (Cp)) (left : Int) (w : World) (S : Nat → Prop) (h : LRow cpR w S A xs) (hS : ∀ b, S b → b < w.heap.size) (l : xs.length = n) (h1 : n ≤ maxLen) (h2 : 0 ≤ left) (h3 : left ≤ 1048576) :
    Calls Tryz.prog 36 #[.slice A n c, .int .i64 left] w (SzRet (okList okCp xs) (wL wtCp xs) left w) := by
  unfold maxLen at h1
  have L := Lib.hid l
  clear l
  by_cases hn : left - n < 0
  · go_enter Tryz.func36, Tryz.ntmps36
    go_wp2
    go_ret
    exact SzRet.no (Below.refl _ _)
  go_enter Tryz.func36, Tryz.ntmps36
  go_wp2
  go_loopw [1, 5] (fun x i wr => ∃ (k : Nat) (r : Int), k ≤ n ∧ i = .int .i64 k ∧ x = .int .i64 r ∧ 0 ≤ r ∧ r + (sW wtCp (xs.take k) : Nat) ≤ left - n ∧ Hid (Below w.heap.size w wr) ∧ Hid (∀ j y, j < k → xs[j]? = some y → okCp y)) (fun _ i _ => n - (intOf i).toNat)
  case atStart => exact ⟨0, left - n, Nat.zero_le _, rfl, rfl, by omega, by simp [sW], Lib.hid (Below.refl _ _), Lib.hid (fun j y hj => by omega)⟩
  case round =>
    obtain ⟨k, r, hk, rfl, rfl, hr0, hr1, HB, HE⟩ := hrel
    by_cases hlt : k < n
    · obtain ⟨b, o, cs, x, rfl, hbS, hR, hx, hc⟩ := (h.keep (SameOn.of_below HB.out hS)).at_ (k := k) (by rw [L.out]; exact hlt)
      have HSW := Lib.hid (sW_succ (f := wtCp) hx.out)
      have hws := HB.out.size
      have hbw : b < wr.heap.size := Nat.lt_of_lt_of_le (hS b hbS) hws
      obtain ⟨A', c', rfl, hlc', hcm', hr'⟩ := hR
      have hc0 : wr.cell? ⟨b, o + k * 2, none⟩ = some (.int .i64 x.d) := hc 0 _ rfl
      have hc1 : wr.cell? ⟨b, o + k * 2 + 1, none⟩ = some (.slice A' x.vs.length c') := hc 1 _ rfl
      clear hc
      have C := Lib.hid (fun (W : World) (hW : Below wr.heap.size wr W) => szDComponent_any x A' c' r W hlc' hcm' hr0 (by omega))
      clear hr' h
      go_wp2_with fail
      refine (C.out _ (Below.refl _ _)).mono ?_
      rintro e w2 ⟨q, rfl, hq, b2⟩
      have HB2 := Lib.hid (HB.out.trans (b2.mono hws))
      clear b2
      rcases hq with hq | ⟨hq0, hq1, hok⟩
      · go_wp2
        go_ret
        exact SzRet.no HB2.out
      · have hq2 : ¬ q < 0 := by omega
        have HOK := Lib.hid hok
        clear hok
        have HE2 := Lib.hid (show ∀ j y, j < k + 1 → xs[j]? = some y → okCp y from fun j y hj hy => by
          by_cases e : j = k
          · subst e
            obtain rfl : y = x := by have := hy.symm.trans hx.out; injection this
            exact HOK.out
          · exact HE.out j y (by omega) hy)
        go_wp2
        go_roundw
        case rel => exact ⟨k + 1, _, by omega, by go_num, rfl, by omega, (by have h1 := HSW.out; (try simp only [wtZ] at h1); omega), HB2, HE2⟩
        case measure => simp [intOf]; omega
    · have HA := Lib.hid (show okList okCp xs from ⟨by rw [L.out]; omega, fun y hy => by
        obtain ⟨j, hj⟩ := List.getElem?_of_mem hy
        have hjl := (List.getElem?_eq_some_iff.1 hj).1
        rw [L.out] at hjl
        exact HE.out j y (by omega) hj⟩)
      have HWL := Lib.hid (wL_full (f := wtCp) L.out (k := k) (by omega))
      go_wp2
      go_ret
      exact SzRet.yes hr0 (by have h1 := HWL.out; omega) HA.out HB.out
theorem infoDComponent : (Tryz.prog.info? 45).map (fun i => (i.zero, i.size, i.bytes)) = some (some (.agg #[.int .i64 0, .slice none 0 0]), 2, 32) := by kernel_rfl
set_option maxHeartbeats 2000000 in
theorem toOComponentS_any (A : Option Addr) (n c : Nat) (xs : List (Cp)) (w : World) (S : Nat → Prop) (h : LRow cpR w S A xs) (hS : ∀ b, S b → b < w.heap.size) (l : xs.length = n) (m : okList okCp xs) :
    Calls Tryz.prog 42 #[.slice A n c] w (MadeLO cpO 45 xs w) := by
  obtain ⟨i0, hi, hz0, hz1, hz2⟩ := info_parts infoDComponent
  have hn : n ≤ 1048576 := by have := m.1; omega
  have L := Lib.hid l
  have M := Lib.hid m.2
  clear l m
  go_enter Tryz.func42, Tryz.ntmps42
  go_wp2_with (at_make; refine wpList_make_full _ rfl _ _ _ rfl w.heap.size 45 i0 (.agg #[.int .i64 0, .slice none 0 0]) 2 Tryz.underlying32 hi hz0 hz1 .i64 .i64 _ _ n rfl rfl rfl rfl (by rw [hz2]; omega) (by unfold maxLen; omega) (Nat.le_refl _) ?_; intro w1 hown1 hg1)
  have H0 := Lib.hid (show w1.ownsRow w.heap.size 45 2 (.slice (some ⟨w.heap.size, 0, none⟩) n n) n ([] ++ (madeCells #[.int .i64 0, .slice none 0 0] ((n - 0) * 2)).toList) from hown1)
  have hb1 := Lib.hid (show Below w.heap.size w w1 from (Below.refl _ _).grown hg1 (Nat.le_refl _) (by simp))
  clear hown1 hg1 hi hz0 hz1 hz2
  go_loopw [4] (fun i wr => ∃ (k : Nat) (vs : List Value), k ≤ n ∧ i = .int .i64 k ∧ Hid (vs.length = k * 2) ∧ Hid (MadeO cpO wr w.heap.size k vs xs) ∧ Hid (Below w.heap.size w wr) ∧ Hid (wr.ownsRow w.heap.size 45 2 (.slice (some ⟨w.heap.size, 0, none⟩) n n) n (vs ++ (madeCells #[.int .i64 0, .slice none 0 0] ((n - k) * 2)).toList))) (fun i _ => n - (intOf i).toNat)
  case atStart => exact ⟨0, [], Nat.zero_le _, rfl, Lib.hid (by simp), Lib.hid (MadeO.zero _ _ _ _ _), hb1, H0⟩
  case round =>
    obtain ⟨k, vs, hk, rfl, HV, HE, HB, HO⟩ := hrel
    clear H0 hb1
    by_cases hlt : k < n
    · obtain ⟨b, o, cs, x, rfl, hbS, hR, hx, hc⟩ := (h.keep (SameOn.of_below HB.out hS)).at_ (k := k) (by rw [L.out]; exact hlt)
      have hbw0 := hS b hbS
      have hM := M.out x (List.mem_of_getElem? hx.out)
      have hws : w.heap.size + 1 ≤ wr.heap.size := by
        have := (HO.out.lt _ rfl).2
        exact this
      obtain ⟨A', c', rfl, hlc', hcm', hr'⟩ := hR
      have hc0 : wr.cell? ⟨b, o + k * 2, none⟩ = some (.int .i64 x.d) := hc 0 _ rfl
      have hc1 : wr.cell? ⟨b, o + k * 2 + 1, none⟩ = some (.slice A' x.vs.length c') := hc 1 _ rfl
      clear hc
      have C := Lib.hid (fun (W : World) (hW : Below wr.heap.size wr W) => toOComponent_any x A' c' W S (hr'.keep (SameOn.of_below hW fun b hb => Nat.lt_of_lt_of_le (hS b hb) (by omega))) (fun b hb => Nat.lt_of_lt_of_le (hS b hb) (by have := hW.size; omega)) hM)
      clear hr' hM h
      go_wp2_with fail
      refine (C.out _ (Below.refl _ _)).mono ?_
      rintro e w2 ⟨cs, rfl, hR, b2⟩
      have HR := Lib.hid hR
      obtain ⟨A2, c2, rfl, hr2⟩ := hR
      obtain ⟨⟨old0, hx0⟩, hf0⟩ := own_some (own_below' HO.out b2) (k := k * 2) (by omega); obtain ⟨⟨old1, hx1⟩, hf1⟩ := own_some (own_below' HO.out b2) (k := k * 2 + 1) (by omega)
      have HO2 := Lib.hid (own_below' HO.out b2)
      have B2 := Lib.hid b2
      clear b2 hr2
      go_wp2
      go_roundw
      case rel =>
        have st0 := HO2.out.stored (k * 2) (.int .i64 x.d)
        have st1 := st0.1.stored (k * 2 + 1) (.slice A2 x.vs.length c2)
        obtain ⟨ml, me⟩ := madeO_step cpO (lo := w.heap.size) HV.out HR.out hx.out HE.out B2.out hws (grown_trans st0.2 st1.2)
        refine ⟨k + 1, _, by omega, by go_num, Lib.hid ml, Lib.hid me, Lib.hid (((HB.out.trans (B2.out.mono (by omega))).setCell (Nat.le_refl _) _).setCell (Nat.le_refl _) _), Lib.hid ?_⟩
        have e := set_next (F := 2) (z := #[.int .i64 0, .slice none 0 0]) (n := n) HV.out rfl ((cpR).len ((cpO).rd HR.out)) hlt
        rw [← e]
        exact st1.1
      case measure => simp [intOf]; omega
    · obtain rfl : k = n := by omega
      have hown := HO.out
      have e0 : (madeCells #[.int .i64 0, .slice none 0 0] ((k - k) * 2)).toList = [] := by simp [madeCells]
      rw [e0, List.append_nil] at hown
      have HD := Lib.hid (madeO_done cpO L.out hown HE.out)
      have HLN := Lib.hid (show (.returned (.slice (some ⟨w.heap.size, 0, none⟩) k k) : Ending) = .returned (.slice (some ⟨w.heap.size, 0, none⟩) xs.length xs.length) by rw [L.out])
      clear hown e0
      go_wp2
      go_ret
      exact ⟨HLN.out, (by have h1 := HD.out; rw [← L.out] at h1; exact h1), HB.out⟩
theorem toDComponentS_any (A : Option Addr) (n c : Nat) (xs : List (Cp)) (w : World) (S : Nat → Prop) (h : LRow cpR w S A xs) (hS : ∀ b, S b → b < w.heap.size) (l : xs.length = n) (m : okList okCp xs) :
    Calls Tryz.prog 42 #[.slice A n c] w (MadeL cpR xs w) :=
  (toOComponentS_any A n c xs w S h hS l m).mono fun _ _ h => h.weak
set_option maxRecDepth 100000 in
set_option maxHeartbeats 1000000 in
theorem eqDComponentS_yes (A1 A2 : Option Addr) (n1 n2 c1 c2 : Nat) (xs : List (Cp)) (w : World) (S1 S2 : Nat → Prop) (h1 : LRow cpR w S1 A1 xs) (h2 : LRow cpR w S2 A2 xs) (hS1 : ∀ b, S1 b → b < w.heap.size) (hS2 : ∀ b, S2 b → b < w.heap.size) (l1 : xs.length = n1) (l2 : xs.length = n2) (m : okList okCp xs) :
    Calls Tryz.prog 48 #[.slice A1 n1 c1, .slice A2 n2 c2] w fun e w' => e = .returned (.bool true) ∧ Below w.heap.size w w' := by
  obtain rfl : n1 = n2 := l1.symm.trans l2
  have hn : n1 ≤ 1048576 := by have := m.1; omega
  have L1 := Lib.hid l1
  have M := Lib.hid m.2
  clear l1 l2 m
  go_enter Tryz.func48, Tryz.ntmps48
  go_wp2
  go_loopw [5] (fun i wr => ∃ k : Nat, k ≤ n1 ∧ i = .int .i64 k ∧ Hid (Below w.heap.size w wr)) (fun i _ => n1 - (intOf i).toNat)
  case atStart => exact ⟨0, Nat.zero_le _, rfl, Lib.hid (Below.refl _ _)⟩
  case round =>
    obtain ⟨k, hk1, rfl, HB⟩ := hrel
    by_cases hlt1 : k < n1
    · obtain ⟨b1, o1, cs1, x, rfl, hb1, hR1, hx, hc1⟩ := (h1.keep (SameOn.of_below HB.out hS1)).at_ (k := k) (by rw [L1.out]; exact hlt1)
      obtain ⟨b2, o2, cs2, y, rfl, hb2, hR2, hy, hc2⟩ := (h2.keep (SameOn.of_below HB.out hS2)).at_ (k := k) (by rw [L1.out]; exact hlt1)
      obtain rfl : x = y := by have := hx.out.symm.trans hy.out; injection this
      have hM := M.out x (List.mem_of_getElem? hx.out)
      have hws := HB.out.size
      obtain ⟨A1, c1, rfl, hlc1, hcm1, hr1⟩ := hR1
      obtain ⟨A2, c2, rfl, hlc2, hcm2, hr2⟩ := hR2
      have p0 : wr.drew.cell? ⟨b1, o1 + k * 2, none⟩ = some (.int .i64 x.d) := hc1 0 _ rfl
      have p1 : wr.drew.cell? ⟨b1, o1 + k * 2 + 1, none⟩ = some (.slice A1 x.vs.length c1) := hc1 1 _ rfl
      have q0 : wr.drew.cell? ⟨b2, o2 + k * 2, none⟩ = some (.int .i64 x.d) := hc2 0 _ rfl
      have q1 : wr.drew.cell? ⟨b2, o2 + k * 2 + 1, none⟩ = some (.slice A2 x.vs.length c2) := hc2 1 _ rfl
      clear hc1 hc2
      have C := Lib.hid (eqDComponent_yes x A1 A2 c1 c2 S1 S2 wr.drew hr1 hr2 (fun b hb => Nat.lt_of_lt_of_le (hS1 b hb) hws) (fun b hb => Nat.lt_of_lt_of_le (hS2 b hb) hws) hM)
      clear hr1 hr2 hM
      go_wp2
      go_still_tail 8, (by kernel_rfl)
      change wpList _ _ _ _ _ wr.drew
      go_wp2_with (go_at_call 18; refine (C.out).mono ?_; rintro e w2 ⟨rfl, b2⟩; have B2 := Lib.hid b2; clear b2)
      go_roundw
      case rel => exact ⟨k + 1, by omega, by go_num, Lib.hid ((HB.out.drew).trans (B2.out.mono hws))⟩
      case measure => simp [intOf]; omega
    · go_wp2
      go_ret
      exact ⟨rfl, HB.out⟩
set_option maxHeartbeats 1000000 in
theorem szDMeeting_any (x : Mt) (left : Int) (w : World) (z0 : x.l.size ≤ maxLen) (z1 : x.r.size ≤ maxLen) (z2 : x.s.size ≤ maxLen) (h2 : 0 ≤ left) (h3 : left ≤ 1048576) :
    Calls Tryz.prog 85 #[.agg #[.string x.l, .string x.r, .string x.s], .int .i64 left] w (SzRet (okMt x) (wtZ x) left w) := by
  have hbx : ∀ o : Obj, Below w.heap.size w (w.alloc o) := fun o => (Below.refl _ _).alloc (Nat.le_refl _) o
  unfold maxLen at z0
  unfold maxLen at z1
  unfold maxLen at z2
  have HBX := Lib.hid hbx
  clear hbx
  by_cases h0' : left - (x.l.size : Int) < 0
  · go_enter Tryz.func85, Tryz.ntmps85
    go_wp2
    go_ret
    exact SzRet.no (HBX.out _)
  by_cases h1' : left - (x.l.size : Int) - (x.r.size : Int) < 0
  · go_enter Tryz.func85, Tryz.ntmps85
    go_wp2
    go_ret
    exact SzRet.no (HBX.out _)
  by_cases h2' : left - (x.l.size : Int) - (x.r.size : Int) - (x.s.size : Int) < 0
  · go_enter Tryz.func85, Tryz.ntmps85
    go_wp2
    go_ret
    exact SzRet.no (HBX.out _)
  go_enter Tryz.func85, Tryz.ntmps85
  go_wp2
  go_ret
  exact SzRet.yes (by omega) (by show _ + ((0 : Nat) : Int) ≤ _; omega) ⟨(show x.l.size ≤ 1048576 by omega), (show x.r.size ≤ 1048576 by omega), (show x.s.size ≤ 1048576 by omega)⟩ (HBX.out _)
set_option maxHeartbeats 1000000 in
theorem toOMeeting_any (x : Mt) (w : World) (z0 : x.l.size ≤ maxLen) (z1 : x.r.size ≤ maxLen) (z2 : x.s.size ≤ maxLen) :
    Calls Tryz.prog 88 #[.agg #[.string x.l, .string x.r, .string x.s]] w (MadeRO mtO x w) := by
  have H : ∀ w' : World, Below w.heap.size w w' → MadeRO mtO x w (.returned (.agg #[.string x.l, .string x.r, .string x.s])) w' := fun w' hb => ⟨[.string x.l, .string x.r, .string x.s], rfl, ⟨rfl, z0, z1, z2⟩, hb⟩
  have HH := Lib.hid H
  clear H z0 z1 z2
  go_enter Tryz.func88, Tryz.ntmps88
  go_wp2
  refine bodyPost_ret (v := .agg #[.string x.l, .string x.r, .string x.s]) (by simp [results, Tryz.results88, go_sem]) rfl (HH.out _ ?_)
  repeat (first | exact Below.refl _ _ | refine Below.setCell ?_ (by simp) _ | refine Below.alloc ?_ (by simp <;> omega) _)
theorem toDMeeting_any (x : Mt) (w : World) (z0 : x.l.size ≤ maxLen) (z1 : x.r.size ≤ maxLen) (z2 : x.s.size ≤ maxLen) :
    Calls Tryz.prog 88 #[.agg #[.string x.l, .string x.r, .string x.s]] w (MadeR mtR x w) :=
  (toOMeeting_any x w z0 z1 z2).mono fun _ _ h => h.weak
set_option maxHeartbeats 1000000 in
theorem eqDMeeting_yes (x : Mt) (w : World) :
    Calls Tryz.prog 91 #[.agg #[.string x.l, .string x.r, .string x.s], .agg #[.string x.l, .string x.r, .string x.s]] w fun e w' => e = .returned (.bool true) ∧ Below w.heap.size w w' := by
  go_enter Tryz.func91, Tryz.ntmps91
  go_wp2
  go_ret
  refine ⟨rfl, ?_⟩
  repeat (first | exact Below.refl _ _ | refine Below.setCell ?_ (by simp) _ | refine Below.alloc ?_ (by simp <;> omega) _)
set_option maxHeartbeats 1000000 in
theorem szDMeetingS_any (A : Option Addr) (n c : Nat) (xs : List (Mt)) (left : Int) (w : World) (S : Nat → Prop) (h : LRow mtR w S A xs) (hS : ∀ b, S b → b < w.heap.size) (l : xs.length = n) (h1 : n ≤ maxLen) (h2 : 0 ≤ left) (h3 : left ≤ 1048576) :
    Calls Tryz.prog 37 #[.slice A n c, .int .i64 left] w (SzRet (okList okMt xs) (wL wtZ xs) left w) := by
  unfold maxLen at h1
  have L := Lib.hid l
  clear l
  by_cases hn : left - n < 0
  · go_enter Tryz.func37, Tryz.ntmps37
    go_wp2
    go_ret
    exact SzRet.no (Below.refl _ _)
  go_enter Tryz.func37, Tryz.ntmps37
  go_wp2
  go_loopw [1, 5] (fun x i wr => ∃ (k : Nat) (r : Int), k ≤ n ∧ i = .int .i64 k ∧ x = .int .i64 r ∧ 0 ≤ r ∧ r + (sW wtZ (xs.take k) : Nat) ≤ left - n ∧ Hid (Below w.heap.size w wr) ∧ Hid (∀ j y, j < k → xs[j]? = some y → okMt y)) (fun _ i _ => n - (intOf i).toNat)
  case atStart => exact ⟨0, left - n, Nat.zero_le _, rfl, rfl, by omega, by simp [sW], Lib.hid (Below.refl _ _), Lib.hid (fun j y hj => by omega)⟩
  case round =>
    obtain ⟨k, r, hk, rfl, rfl, hr0, hr1, HB, HE⟩ := hrel
    by_cases hlt : k < n
    · obtain ⟨b, o, cs, x, rfl, hbS, hR, hx, hc⟩ := (h.keep (SameOn.of_below HB.out hS)).at_ (k := k) (by rw [L.out]; exact hlt)
      have HSW := Lib.hid (sW_succ (f := wtZ) hx.out)
      have hws := HB.out.size
      have hbw : b < wr.heap.size := Nat.lt_of_lt_of_le (hS b hbS) hws
      obtain ⟨rfl, hz'0, hz'1, hz'2⟩ := hR
      have hc0 : wr.cell? ⟨b, o + k * 3, none⟩ = some (.string x.l) := hc 0 _ rfl
      have hc1 : wr.cell? ⟨b, o + k * 3 + 1, none⟩ = some (.string x.r) := hc 1 _ rfl
      have hc2 : wr.cell? ⟨b, o + k * 3 + 2, none⟩ = some (.string x.s) := hc 2 _ rfl
      clear hc
      have C := Lib.hid (fun (W : World) (hW : Below wr.heap.size wr W) => szDMeeting_any x r W hz'0 hz'1 hz'2 hr0 (by omega))
      clear hz'0 hz'1 hz'2 h
      go_wp2_with fail
      refine (C.out _ (Below.refl _ _)).mono ?_
      rintro e w2 ⟨q, rfl, hq, b2⟩
      have HB2 := Lib.hid (HB.out.trans (b2.mono hws))
      clear b2
      rcases hq with hq | ⟨hq0, hq1, hok⟩
      · go_wp2
        go_ret
        exact SzRet.no HB2.out
      · have hq2 : ¬ q < 0 := by omega
        have HOK := Lib.hid hok
        clear hok
        have HE2 := Lib.hid (show ∀ j y, j < k + 1 → xs[j]? = some y → okMt y from fun j y hj hy => by
          by_cases e : j = k
          · subst e
            obtain rfl : y = x := by have := hy.symm.trans hx.out; injection this
            exact HOK.out
          · exact HE.out j y (by omega) hy)
        go_wp2
        go_roundw
        case rel => exact ⟨k + 1, _, by omega, by go_num, rfl, by omega, (by have h1 := HSW.out; (try simp only [wtZ] at h1); omega), HB2, HE2⟩
        case measure => simp [intOf]; omega
    · have HA := Lib.hid (show okList okMt xs from ⟨by rw [L.out]; omega, fun y hy => by
        obtain ⟨j, hj⟩ := List.getElem?_of_mem hy
        have hjl := (List.getElem?_eq_some_iff.1 hj).1
        rw [L.out] at hjl
        exact HE.out j y (by omega) hj⟩)
      have HWL := Lib.hid (wL_full (f := wtZ) L.out (k := k) (by omega))
      go_wp2
      go_ret
      exact SzRet.yes hr0 (by have h1 := HWL.out; omega) HA.out HB.out
theorem infoDMeeting : (Tryz.prog.info? 122).map (fun i => (i.zero, i.size, i.bytes)) = some (some (.agg #[.string ⟨#[]⟩, .string ⟨#[]⟩, .string ⟨#[]⟩]), 3, 48) := by kernel_rfl
set_option maxHeartbeats 2000000 in
theorem toOMeetingS_any (A : Option Addr) (n c : Nat) (xs : List (Mt)) (w : World) (S : Nat → Prop) (h : LRow mtR w S A xs) (hS : ∀ b, S b → b < w.heap.size) (l : xs.length = n) (m : okList okMt xs) :
    Calls Tryz.prog 43 #[.slice A n c] w (MadeLO mtO 122 xs w) := by
  obtain ⟨i0, hi, hz0, hz1, hz2⟩ := info_parts infoDMeeting
  have hn : n ≤ 1048576 := by have := m.1; omega
  have L := Lib.hid l
  have M := Lib.hid m.2
  clear l m
  go_enter Tryz.func43, Tryz.ntmps43
  go_wp2_with (at_make; refine wpList_make_full _ rfl _ _ _ rfl w.heap.size 122 i0 (.agg #[.string ⟨#[]⟩, .string ⟨#[]⟩, .string ⟨#[]⟩]) 3 Tryz.underlying33 hi hz0 hz1 .i64 .i64 _ _ n rfl rfl rfl rfl (by rw [hz2]; omega) (by unfold maxLen; omega) (Nat.le_refl _) ?_; intro w1 hown1 hg1)
  have H0 := Lib.hid (show w1.ownsRow w.heap.size 122 3 (.slice (some ⟨w.heap.size, 0, none⟩) n n) n ([] ++ (madeCells #[.string ⟨#[]⟩, .string ⟨#[]⟩, .string ⟨#[]⟩] ((n - 0) * 3)).toList) from hown1)
  have hb1 := Lib.hid (show Below w.heap.size w w1 from (Below.refl _ _).grown hg1 (Nat.le_refl _) (by simp))
  clear hown1 hg1 hi hz0 hz1 hz2
  go_loopw [4] (fun i wr => ∃ (k : Nat) (vs : List Value), k ≤ n ∧ i = .int .i64 k ∧ Hid (vs.length = k * 3) ∧ Hid (MadeO mtO wr w.heap.size k vs xs) ∧ Hid (Below w.heap.size w wr) ∧ Hid (wr.ownsRow w.heap.size 122 3 (.slice (some ⟨w.heap.size, 0, none⟩) n n) n (vs ++ (madeCells #[.string ⟨#[]⟩, .string ⟨#[]⟩, .string ⟨#[]⟩] ((n - k) * 3)).toList))) (fun i _ => n - (intOf i).toNat)
  case atStart => exact ⟨0, [], Nat.zero_le _, rfl, Lib.hid (by simp), Lib.hid (MadeO.zero _ _ _ _ _), hb1, H0⟩
  case round =>
    obtain ⟨k, vs, hk, rfl, HV, HE, HB, HO⟩ := hrel
    clear H0 hb1
    by_cases hlt : k < n
    · obtain ⟨b, o, cs, x, rfl, hbS, hR, hx, hc⟩ := (h.keep (SameOn.of_below HB.out hS)).at_ (k := k) (by rw [L.out]; exact hlt)
      have hbw0 := hS b hbS
      have hM := M.out x (List.mem_of_getElem? hx.out)
      have hws : w.heap.size + 1 ≤ wr.heap.size := by
        have := (HO.out.lt _ rfl).2
        exact this
      obtain ⟨rfl, hz'0, hz'1, hz'2⟩ := hR
      have hc0 : wr.cell? ⟨b, o + k * 3, none⟩ = some (.string x.l) := hc 0 _ rfl
      have hc1 : wr.cell? ⟨b, o + k * 3 + 1, none⟩ = some (.string x.r) := hc 1 _ rfl
      have hc2 : wr.cell? ⟨b, o + k * 3 + 2, none⟩ = some (.string x.s) := hc 2 _ rfl
      clear hc
      have C := Lib.hid (fun (W : World) (hW : Below wr.heap.size wr W) => toOMeeting_any x W hz'0 hz'1 hz'2)
      clear hz'0 hz'1 hz'2 hM h
      go_wp2_with fail
      refine (C.out _ (Below.refl _ _)).mono ?_
      rintro e w2 ⟨cs, rfl, hR, b2⟩
      have HR := Lib.hid hR
      obtain ⟨rfl, hz20, hz21, hz22⟩ := hR
      obtain ⟨⟨old0, hx0⟩, hf0⟩ := own_some (own_below' HO.out b2) (k := k * 3) (by omega); obtain ⟨⟨old1, hx1⟩, hf1⟩ := own_some (own_below' HO.out b2) (k := k * 3 + 1) (by omega); obtain ⟨⟨old2, hx2⟩, hf2⟩ := own_some (own_below' HO.out b2) (k := k * 3 + 2) (by omega)
      have HO2 := Lib.hid (own_below' HO.out b2)
      have B2 := Lib.hid b2
      clear b2
      go_wp2
      go_roundw
      case rel =>
        have st0 := HO2.out.stored (k * 3) (.string x.l)
        have st1 := st0.1.stored (k * 3 + 1) (.string x.r)
        have st2 := st1.1.stored (k * 3 + 2) (.string x.s)
        obtain ⟨ml, me⟩ := madeO_step mtO (lo := w.heap.size) HV.out HR.out hx.out HE.out B2.out hws (grown_trans (grown_trans st0.2 st1.2) st2.2)
        refine ⟨k + 1, _, by omega, by go_num, Lib.hid ml, Lib.hid me, Lib.hid ((((HB.out.trans (B2.out.mono (by omega))).setCell (Nat.le_refl _) _).setCell (Nat.le_refl _) _).setCell (Nat.le_refl _) _), Lib.hid ?_⟩
        have e := set_next (F := 3) (z := #[.string ⟨#[]⟩, .string ⟨#[]⟩, .string ⟨#[]⟩]) (n := n) HV.out rfl ((mtR).len ((mtO).rd HR.out)) hlt
        rw [← e]
        exact st2.1
      case measure => simp [intOf]; omega
    · obtain rfl : k = n := by omega
      have hown := HO.out
      have e0 : (madeCells #[.string ⟨#[]⟩, .string ⟨#[]⟩, .string ⟨#[]⟩] ((k - k) * 3)).toList = [] := by simp [madeCells]
      rw [e0, List.append_nil] at hown
      have HD := Lib.hid (madeO_done mtO L.out hown HE.out)
      have HLN := Lib.hid (show (.returned (.slice (some ⟨w.heap.size, 0, none⟩) k k) : Ending) = .returned (.slice (some ⟨w.heap.size, 0, none⟩) xs.length xs.length) by rw [L.out])
      clear hown e0
      go_wp2
      go_ret
      exact ⟨HLN.out, (by have h1 := HD.out; rw [← L.out] at h1; exact h1), HB.out⟩
theorem toDMeetingS_any (A : Option Addr) (n c : Nat) (xs : List (Mt)) (w : World) (S : Nat → Prop) (h : LRow mtR w S A xs) (hS : ∀ b, S b → b < w.heap.size) (l : xs.length = n) (m : okList okMt xs) :
    Calls Tryz.prog 43 #[.slice A n c] w (MadeL mtR xs w) :=
  (toOMeetingS_any A n c xs w S h hS l m).mono fun _ _ h => h.weak
set_option maxRecDepth 100000 in
set_option maxHeartbeats 1000000 in
theorem eqDMeetingS_yes (A1 A2 : Option Addr) (n1 n2 c1 c2 : Nat) (xs : List (Mt)) (w : World) (S1 S2 : Nat → Prop) (h1 : LRow mtR w S1 A1 xs) (h2 : LRow mtR w S2 A2 xs) (hS1 : ∀ b, S1 b → b < w.heap.size) (hS2 : ∀ b, S2 b → b < w.heap.size) (l1 : xs.length = n1) (l2 : xs.length = n2) (m : okList okMt xs) :
    Calls Tryz.prog 49 #[.slice A1 n1 c1, .slice A2 n2 c2] w fun e w' => e = .returned (.bool true) ∧ Below w.heap.size w w' := by
  obtain rfl : n1 = n2 := l1.symm.trans l2
  have hn : n1 ≤ 1048576 := by have := m.1; omega
  have L1 := Lib.hid l1
  have M := Lib.hid m.2
  clear l1 l2 m
  go_enter Tryz.func49, Tryz.ntmps49
  go_wp2
  go_loopw [5] (fun i wr => ∃ k : Nat, k ≤ n1 ∧ i = .int .i64 k ∧ Hid (Below w.heap.size w wr)) (fun i _ => n1 - (intOf i).toNat)
  case atStart => exact ⟨0, Nat.zero_le _, rfl, Lib.hid (Below.refl _ _)⟩
  case round =>
    obtain ⟨k, hk1, rfl, HB⟩ := hrel
    by_cases hlt1 : k < n1
    · obtain ⟨b1, o1, cs1, x, rfl, hb1, hR1, hx, hc1⟩ := (h1.keep (SameOn.of_below HB.out hS1)).at_ (k := k) (by rw [L1.out]; exact hlt1)
      obtain ⟨b2, o2, cs2, y, rfl, hb2, hR2, hy, hc2⟩ := (h2.keep (SameOn.of_below HB.out hS2)).at_ (k := k) (by rw [L1.out]; exact hlt1)
      obtain rfl : x = y := by have := hx.out.symm.trans hy.out; injection this
      have hM := M.out x (List.mem_of_getElem? hx.out)
      have hws := HB.out.size
      obtain ⟨rfl, hz10, hz11, hz12⟩ := hR1
      obtain ⟨rfl, hz20, hz21, hz22⟩ := hR2
      have p0 : wr.drew.cell? ⟨b1, o1 + k * 3, none⟩ = some (.string x.l) := hc1 0 _ rfl
      have p1 : wr.drew.cell? ⟨b1, o1 + k * 3 + 1, none⟩ = some (.string x.r) := hc1 1 _ rfl
      have p2 : wr.drew.cell? ⟨b1, o1 + k * 3 + 2, none⟩ = some (.string x.s) := hc1 2 _ rfl
      have q0 : wr.drew.cell? ⟨b2, o2 + k * 3, none⟩ = some (.string x.l) := hc2 0 _ rfl
      have q1 : wr.drew.cell? ⟨b2, o2 + k * 3 + 1, none⟩ = some (.string x.r) := hc2 1 _ rfl
      have q2 : wr.drew.cell? ⟨b2, o2 + k * 3 + 2, none⟩ = some (.string x.s) := hc2 2 _ rfl
      clear hc1 hc2
      have C := Lib.hid (eqDMeeting_yes x wr.drew)
      clear hz10 hz20 hz11 hz21 hz12 hz22 hM
      go_wp2
      go_still_tail 8, (by kernel_rfl)
      change wpList _ _ _ _ _ wr.drew
      go_wp2_with (go_at_call 91; refine (C.out).mono ?_; rintro e w2 ⟨rfl, b2⟩; have B2 := Lib.hid b2; clear b2)
      go_roundw
      case rel => exact ⟨k + 1, by omega, by go_num, Lib.hid ((HB.out.drew).trans (B2.out.mono hws))⟩
      case measure => simp [intOf]; omega
    · go_wp2
      go_ret
      exact ⟨rfl, HB.out⟩
end Go.Proofs.YtdgcpaeneafejaaGreatDoor
