/- How the laws' own helpers answer on records: how much they hold, a copy, comparing. -/
import Derived.Test.YtdgcpaeneafejaaGreatDoorProg
import Derived.WalkKit
import Derived.ProofKit
import Derived.BigQuiet
import Derived.StillTailTactics
import Derived.OwnWalk
import Derived.Outline
import Derived.Test.YtdgcpaeneafejaaGreatDoorLow
import Derived.Test.YtdgcpaeneafejaaGreatDoorDatI
namespace Go.Proofs.YtdgcpaeneafejaaGreatDoor
open Go.RowKit
set_option maxHeartbeats 1000000 in
theorem szDPart_any (x : Pt) (A : Option Addr) (c : Nat) (S : Nat → Prop) (left : Int) (w : World) (z2 : x.nm.size ≤ maxLen) (hlc : x.args.length ≤ c) (hcm : c ≤ maxLen) (hr : LRow (listR tmR) w S A x.args) (hS : ∀ b, S b → b < w.heap.size) (h2 : 0 ≤ left) (h3 : left ≤ 1048576) :
    Calls Tryz.prog 130 #[.agg #[.int .i64 x.k, .int .i64 x.n, .string x.nm, .slice A x.args.length c], .int .i64 left] w (SzRet (okPt x) (wtPt x) left w) := by
  have hbx : ∀ o : Obj, Below w.heap.size w (w.alloc o) := fun o => (Below.refl _ _).alloc (Nat.le_refl _) o
  unfold maxLen at z2
  have HBX := Lib.hid hbx
  clear hbx
  by_cases h2' : left - (x.nm.size : Int) < 0
  · go_enter Tryz.func130, Tryz.ntmps130
    go_wp2
    go_ret
    exact SzRet.no (HBX.out _)
  have C := Lib.hid (fun (W : World) (hW : Below w.heap.size w W) => szDTermSS_any A x.args.length c x.args (left - (x.nm.size : Int)) W S (hr.keep (SameOn.of_below hW hS)) (fun b hb => Nat.lt_of_lt_of_le (hS b hb) hW.size) rfl (by omega) (by omega) (by omega))
  clear hr hlc hcm
  go_enter Tryz.func130, Tryz.ntmps130
  go_wp2_with fail
  refine (C.out _ (HBX.out _)).mono ?_
  rintro e w2 ⟨q, rfl, hq, b2⟩
  have B2 := Lib.hid ((HBX.out _).trans (b2.mono (by simp)))
  clear b2
  rcases hq with hq | ⟨hq0, hq1, hok⟩
  · go_wp2
    go_ret
    exact SzRet.no B2.out
  · have hq2 : ¬ q < 0 := by omega
    have HOK := Lib.hid hok
    clear hok
    go_wp2
    go_ret
    exact SzRet.yes hq0 (by show q + ((wL (wL wtZ) x.args : Nat) : Int) ≤ left; omega) ⟨(show x.nm.size ≤ 1048576 by omega), HOK.out⟩ B2.out
set_option maxHeartbeats 16000000 in
theorem toOPart_any (x : Pt) (A : Option Addr) (c : Nat) (w : World) (S : Nat → Prop) (z2 : x.nm.size ≤ maxLen) (hr : LRow (listR tmR) w S A x.args) (hS : ∀ b, S b → b < w.heap.size) (m : okList (okList okAny) x.args) :
    Calls Tryz.prog 134 #[.agg #[.int .i64 x.k, .int .i64 x.n, .string x.nm, .slice A x.args.length c]] w (MadeRO ptO x w) := by
  have hm : x.args.length ≤ maxLen := by have := m.1; unfold maxLen; omega
  have C := Lib.hid (fun (W : World) (hW : Below w.heap.size w W) => toOTermSS_any A x.args.length c x.args W S (hr.keep (SameOn.of_below hW hS)) (fun b hb => Nat.lt_of_lt_of_le (hS b hb) hW.size) rfl m)
  have HM := Lib.hid hm
  have HZ2 := Lib.hid z2
  clear hr hm m z2
  go_enter Tryz.func134, Tryz.ntmps134
  go_wp2_with fail
  refine (C.out _ (by repeat (first | exact Below.refl _ _ | refine Below.setCell ?_ (by simp) _ | refine Below.alloc ?_ (by simp <;> omega) _))).mono ?_
  rintro e w2 ⟨rfl, hl, b2⟩
  obtain ⟨hcc, _⟩ := bcell b2
  have HL := Lib.hid hl
  have B2 := Lib.hid b2
  have hs2 := b2.size
  simp at hs2
  clear hl b2
  go_wp2
  refine bodyPost_ret (v := .agg #[.int .i64 x.k, .int .i64 x.n, .string x.nm, .slice (some ⟨_, 0, none⟩) x.args.length x.args.length]) (by simp [results, Tryz.results134, go_sem, hcc]; rfl) rfl ⟨[.int .i64 x.k, .int .i64 x.n, .string x.nm, .slice (some ⟨_, 0, none⟩) x.args.length x.args.length], rfl, ?_, ?_⟩
  · refine ⟨_, _, rfl, HZ2.out, OL.more (OL.keep (S := In (w.heap.size + 1 + 1 + 1) w2.heap.size) (by simpa using HL.out) ?_) ?_⟩
    · repeat (first | exact SameB.refl _ _ | refine SameB.setCell ?_ (by intro h; have := h.1; omega))
    · intro b hb
      exact ⟨by have := hb.1; omega, by have := hb.2; simpa [World.setCell] using this⟩
  · repeat (refine Below.setCell ?_ (by simp <;> omega) _)
    refine Below.trans ?_ (B2.out.mono (by simp <;> omega))
    repeat (first | exact Below.refl _ _ | refine Below.setCell ?_ (by simp) _ | refine Below.alloc ?_ (by simp <;> omega) _)
theorem toDPart_any (x : Pt) (A : Option Addr) (c : Nat) (w : World) (S : Nat → Prop) (z2 : x.nm.size ≤ maxLen) (hr : LRow (listR tmR) w S A x.args) (hS : ∀ b, S b → b < w.heap.size) (m : okList (okList okAny) x.args) :
    Calls Tryz.prog 134 #[.agg #[.int .i64 x.k, .int .i64 x.n, .string x.nm, .slice A x.args.length c]] w (MadeR ptR x w) :=
  (toOPart_any x A c w S z2 hr hS m).mono fun _ _ h => h.weak
set_option maxHeartbeats 1000000 in
theorem eqDPart_yes (x : Pt) (A1 A2 : Option Addr) (c1 c2 : Nat) (S1 S2 : Nat → Prop) (w : World) (hr1 : LRow (listR tmR) w S1 A1 x.args) (hr2 : LRow (listR tmR) w S2 A2 x.args) (hS1 : ∀ b, S1 b → b < w.heap.size) (hS2 : ∀ b, S2 b → b < w.heap.size) (m : okList (okList okAny) x.args) :
    Calls Tryz.prog 145 #[.agg #[.int .i64 x.k, .int .i64 x.n, .string x.nm, .slice A1 x.args.length c1], .agg #[.int .i64 x.k, .int .i64 x.n, .string x.nm, .slice A2 x.args.length c2]] w fun e w' => e = .returned (.bool true) ∧ Below w.heap.size w w' := by
  have hne0 : (x.k != x.k) = false := by simp
  have hne1 : (x.n != x.n) = false := by simp
  have C := Lib.hid (fun (W : World) (hW : Below w.heap.size w W) => eqDTermSS_yes A1 A2 x.args.length x.args.length c1 c2 x.args W S1 S2 (hr1.keep (SameOn.of_below hW hS1)) (hr2.keep (SameOn.of_below hW hS2)) (fun b hb => Nat.lt_of_lt_of_le (hS1 b hb) hW.size) (fun b hb => Nat.lt_of_lt_of_le (hS2 b hb) hW.size) rfl rfl m)
  clear hr1 hr2 m
  go_enter Tryz.func145, Tryz.ntmps145
  go_wp2_with fail
  refine (C.out _ (by repeat (first | exact Below.refl _ _ | refine Below.setCell ?_ (by simp) _ | refine Below.alloc ?_ (by simp <;> omega) _))).mono ?_
  rintro e w2 ⟨rfl, b2⟩
  have B2 := Lib.hid b2
  clear b2
  go_wp2
  go_ret
  refine ⟨rfl, Below.trans ?_ (B2.out.mono (by simp <;> omega))⟩
  repeat (first | exact Below.refl _ _ | refine Below.setCell ?_ (by simp) _ | refine Below.alloc ?_ (by simp <;> omega) _)
set_option maxHeartbeats 1000000 in
theorem szDPartS_any (A : Option Addr) (n c : Nat) (xs : List (Pt)) (left : Int) (w : World) (S : Nat → Prop) (h : LRow ptR w S A xs) (hS : ∀ b, S b → b < w.heap.size) (l : xs.length = n) (h1 : n ≤ maxLen) (h2 : 0 ≤ left) (h3 : left ≤ 1048576) :
    Calls Tryz.prog 111 #[.slice A n c, .int .i64 left] w (SzRet (okList okPt xs) (wL wtPt xs) left w) := by
  unfold maxLen at h1
  have L := Lib.hid l
  clear l
  by_cases hn : left - n < 0
  · go_enter Tryz.func111, Tryz.ntmps111
    go_wp2
    go_ret
    exact SzRet.no (Below.refl _ _)
  go_enter Tryz.func111, Tryz.ntmps111
  go_wp2
  go_loopw [1, 5] (fun x i wr => ∃ (k : Nat) (r : Int), k ≤ n ∧ i = .int .i64 k ∧ x = .int .i64 r ∧ 0 ≤ r ∧ r + (sW wtPt (xs.take k) : Nat) ≤ left - n ∧ Hid (Below w.heap.size w wr) ∧ Hid (∀ j y, j < k → xs[j]? = some y → okPt y)) (fun _ i _ => n - (intOf i).toNat)
  case atStart => exact ⟨0, left - n, Nat.zero_le _, rfl, rfl, by omega, by simp [sW], Lib.hid (Below.refl _ _), Lib.hid (fun j y hj => by omega)⟩
  case round =>
    obtain ⟨k, r, hk, rfl, rfl, hr0, hr1, HB, HE⟩ := hrel
    by_cases hlt : k < n
    · obtain ⟨b, o, cs, x, rfl, hbS, hR, hx, hc⟩ := (h.keep (SameOn.of_below HB.out hS)).at_ (k := k) (by rw [L.out]; exact hlt)
      have HSW := Lib.hid (sW_succ (f := wtPt) hx.out)
      have hws := HB.out.size
      have hbw : b < wr.heap.size := Nat.lt_of_lt_of_le (hS b hbS) hws
      obtain ⟨A', c', rfl, hz'2, hlc', hcm', hr'⟩ := hR
      have hc0 : wr.cell? ⟨b, o + k * 4, none⟩ = some (.int .i64 x.k) := hc 0 _ rfl
      have hc1 : wr.cell? ⟨b, o + k * 4 + 1, none⟩ = some (.int .i64 x.n) := hc 1 _ rfl
      have hc2 : wr.cell? ⟨b, o + k * 4 + 2, none⟩ = some (.string x.nm) := hc 2 _ rfl
      have hc3 : wr.cell? ⟨b, o + k * 4 + 3, none⟩ = some (.slice A' x.args.length c') := hc 3 _ rfl
      clear hc
      have C := Lib.hid (fun (W : World) (hW : Below wr.heap.size wr W) => szDPart_any x A' c' S r W hz'2 hlc' hcm' (hr'.keep (SameOn.of_below hW fun b hb => Nat.lt_of_lt_of_le (hS b hb) hws)) (fun b hb => Nat.lt_of_lt_of_le (hS b hb) (Nat.le_trans hws hW.size)) hr0 (by omega))
      clear hr' hz'2 h
      go_wp2_with fail
      refine (C.out _ (Below.refl _ _)).mono ?_
      rintro e w2 ⟨q, rfl, hq, b2⟩
      have HB2 := Lib.hid (HB.out.trans (b2.mono hws))
      clear b2
      rcases hq with hq | ⟨hq0, hq1, hok⟩
      · go_wp2
        go_ret
        exact SzRet.no HB2.out
      · have hq2 : ¬ q < 0 := by omega
        have HOK := Lib.hid hok
        clear hok
        have HE2 := Lib.hid (show ∀ j y, j < k + 1 → xs[j]? = some y → okPt y from fun j y hj hy => by
          by_cases e : j = k
          · subst e
            obtain rfl : y = x := by have := hy.symm.trans hx.out; injection this
            exact HOK.out
          · exact HE.out j y (by omega) hy)
        go_wp2
        go_roundw
        case rel => exact ⟨k + 1, _, by omega, by go_num, rfl, by omega, (by have h1 := HSW.out; (try simp only [wtZ] at h1); omega), HB2, HE2⟩
        case measure => simp [intOf]; omega
    · have HA := Lib.hid (show okList okPt xs from ⟨by rw [L.out]; omega, fun y hy => by
        obtain ⟨j, hj⟩ := List.getElem?_of_mem hy
        have hjl := (List.getElem?_eq_some_iff.1 hj).1
        rw [L.out] at hjl
        exact HE.out j y (by omega) hj⟩)
      have HWL := Lib.hid (wL_full (f := wtPt) L.out (k := k) (by omega))
      go_wp2
      go_ret
      exact SzRet.yes hr0 (by have h1 := HWL.out; omega) HA.out HB.out
theorem infoDPart : (Tryz.prog.info? 150).map (fun i => (i.zero, i.size, i.bytes)) = some (some (.agg #[.int .i64 0, .int .i64 0, .string ⟨#[]⟩, .slice none 0 0]), 4, 56) := by kernel_rfl
set_option maxHeartbeats 2000000 in
theorem toOPartS_any (A : Option Addr) (n c : Nat) (xs : List (Pt)) (w : World) (S : Nat → Prop) (h : LRow ptR w S A xs) (hS : ∀ b, S b → b < w.heap.size) (l : xs.length = n) (m : okList okPt xs) :
    Calls Tryz.prog 116 #[.slice A n c] w (MadeLO ptO 150 xs w) := by
  obtain ⟨i0, hi, hz0, hz1, hz2⟩ := info_parts infoDPart
  have hn : n ≤ 1048576 := by have := m.1; omega
  have L := Lib.hid l
  have M := Lib.hid m.2
  clear l m
  go_enter Tryz.func116, Tryz.ntmps116
  go_wp2_with (at_make; refine wpList_make_full _ rfl _ _ _ rfl w.heap.size 150 i0 (.agg #[.int .i64 0, .int .i64 0, .string ⟨#[]⟩, .slice none 0 0]) 4 Tryz.underlying86 hi hz0 hz1 .i64 .i64 _ _ n rfl rfl rfl rfl (by rw [hz2]; omega) (by unfold maxLen; omega) (Nat.le_refl _) ?_; intro w1 hown1 hg1)
  have H0 := Lib.hid (show w1.ownsRow w.heap.size 150 4 (.slice (some ⟨w.heap.size, 0, none⟩) n n) n ([] ++ (madeCells #[.int .i64 0, .int .i64 0, .string ⟨#[]⟩, .slice none 0 0] ((n - 0) * 4)).toList) from hown1)
  have hb1 := Lib.hid (show Below w.heap.size w w1 from (Below.refl _ _).grown hg1 (Nat.le_refl _) (by simp))
  clear hown1 hg1 hi hz0 hz1 hz2
  go_loopw [4] (fun i wr => ∃ (k : Nat) (vs : List Value), k ≤ n ∧ i = .int .i64 k ∧ Hid (vs.length = k * 4) ∧ Hid (MadeO ptO wr w.heap.size k vs xs) ∧ Hid (Below w.heap.size w wr) ∧ Hid (wr.ownsRow w.heap.size 150 4 (.slice (some ⟨w.heap.size, 0, none⟩) n n) n (vs ++ (madeCells #[.int .i64 0, .int .i64 0, .string ⟨#[]⟩, .slice none 0 0] ((n - k) * 4)).toList))) (fun i _ => n - (intOf i).toNat)
  case atStart => exact ⟨0, [], Nat.zero_le _, rfl, Lib.hid (by simp), Lib.hid (MadeO.zero _ _ _ _ _), hb1, H0⟩
  case round =>
    obtain ⟨k, vs, hk, rfl, HV, HE, HB, HO⟩ := hrel
    clear H0 hb1
    by_cases hlt : k < n
    · obtain ⟨b, o, cs, x, rfl, hbS, hR, hx, hc⟩ := (h.keep (SameOn.of_below HB.out hS)).at_ (k := k) (by rw [L.out]; exact hlt)
      have hbw0 := hS b hbS
      have hM := M.out x (List.mem_of_getElem? hx.out)
      have hws : w.heap.size + 1 ≤ wr.heap.size := by
        have := (HO.out.lt _ rfl).2
        exact this
      obtain ⟨A', c', rfl, hz'2, hlc', hcm', hr'⟩ := hR
      have hc0 : wr.cell? ⟨b, o + k * 4, none⟩ = some (.int .i64 x.k) := hc 0 _ rfl
      have hc1 : wr.cell? ⟨b, o + k * 4 + 1, none⟩ = some (.int .i64 x.n) := hc 1 _ rfl
      have hc2 : wr.cell? ⟨b, o + k * 4 + 2, none⟩ = some (.string x.nm) := hc 2 _ rfl
      have hc3 : wr.cell? ⟨b, o + k * 4 + 3, none⟩ = some (.slice A' x.args.length c') := hc 3 _ rfl
      clear hc
      have C := Lib.hid (fun (W : World) (hW : Below wr.heap.size wr W) => toOPart_any x A' c' W S hz'2 (hr'.keep (SameOn.of_below hW fun b hb => Nat.lt_of_lt_of_le (hS b hb) (by omega))) (fun b hb => Nat.lt_of_lt_of_le (hS b hb) (by have := hW.size; omega)) hM.2)
      clear hr' hz'2 hM h
      go_wp2_with fail
      refine (C.out _ (Below.refl _ _)).mono ?_
      rintro e w2 ⟨cs, rfl, hR, b2⟩
      have HR := Lib.hid hR
      obtain ⟨A2, c2, rfl, hz22, hr2⟩ := hR
      obtain ⟨⟨old0, hx0⟩, hf0⟩ := own_some (own_below' HO.out b2) (k := k * 4) (by omega); obtain ⟨⟨old1, hx1⟩, hf1⟩ := own_some (own_below' HO.out b2) (k := k * 4 + 1) (by omega); obtain ⟨⟨old2, hx2⟩, hf2⟩ := own_some (own_below' HO.out b2) (k := k * 4 + 2) (by omega); obtain ⟨⟨old3, hx3⟩, hf3⟩ := own_some (own_below' HO.out b2) (k := k * 4 + 3) (by omega)
      have HO2 := Lib.hid (own_below' HO.out b2)
      have B2 := Lib.hid b2
      clear b2 hr2
      go_wp2
      go_roundw
      case rel =>
        have st0 := HO2.out.stored (k * 4) (.int .i64 x.k)
        have st1 := st0.1.stored (k * 4 + 1) (.int .i64 x.n)
        have st2 := st1.1.stored (k * 4 + 2) (.string x.nm)
        have st3 := st2.1.stored (k * 4 + 3) (.slice A2 x.args.length c2)
        obtain ⟨ml, me⟩ := madeO_step ptO (lo := w.heap.size) HV.out HR.out hx.out HE.out B2.out hws (grown_trans (grown_trans (grown_trans st0.2 st1.2) st2.2) st3.2)
        refine ⟨k + 1, _, by omega, by go_num, Lib.hid ml, Lib.hid me, Lib.hid (((((HB.out.trans (B2.out.mono (by omega))).setCell (Nat.le_refl _) _).setCell (Nat.le_refl _) _).setCell (Nat.le_refl _) _).setCell (Nat.le_refl _) _), Lib.hid ?_⟩
        have e := set_next (F := 4) (z := #[.int .i64 0, .int .i64 0, .string ⟨#[]⟩, .slice none 0 0]) (n := n) HV.out rfl ((ptR).len ((ptO).rd HR.out)) hlt
        rw [← e]
        exact st3.1
      case measure => simp [intOf]; omega
    · obtain rfl : k = n := by omega
      have hown := HO.out
      have e0 : (madeCells #[.int .i64 0, .int .i64 0, .string ⟨#[]⟩, .slice none 0 0] ((k - k) * 4)).toList = [] := by simp [madeCells]
      rw [e0, List.append_nil] at hown
      have HD := Lib.hid (madeO_done ptO L.out hown HE.out)
      have HLN := Lib.hid (show (.returned (.slice (some ⟨w.heap.size, 0, none⟩) k k) : Ending) = .returned (.slice (some ⟨w.heap.size, 0, none⟩) xs.length xs.length) by rw [L.out])
      clear hown e0
      go_wp2
      go_ret
      exact ⟨HLN.out, (by have h1 := HD.out; rw [← L.out] at h1; exact h1), HB.out⟩
theorem toDPartS_any (A : Option Addr) (n c : Nat) (xs : List (Pt)) (w : World) (S : Nat → Prop) (h : LRow ptR w S A xs) (hS : ∀ b, S b → b < w.heap.size) (l : xs.length = n) (m : okList okPt xs) :
    Calls Tryz.prog 116 #[.slice A n c] w (MadeL ptR xs w) :=
  (toOPartS_any A n c xs w S h hS l m).mono fun _ _ h => h.weak
set_option maxRecDepth 100000 in
set_option maxHeartbeats 1000000 in
theorem eqDPartS_yes (A1 A2 : Option Addr) (n1 n2 c1 c2 : Nat) (xs : List (Pt)) (w : World) (S1 S2 : Nat → Prop) (h1 : LRow ptR w S1 A1 xs) (h2 : LRow ptR w S2 A2 xs) (hS1 : ∀ b, S1 b → b < w.heap.size) (hS2 : ∀ b, S2 b → b < w.heap.size) (l1 : xs.length = n1) (l2 : xs.length = n2) (m : okList okPt xs) :
    Calls Tryz.prog 121 #[.slice A1 n1 c1, .slice A2 n2 c2] w fun e w' => e = .returned (.bool true) ∧ Below w.heap.size w w' := by
  obtain rfl : n1 = n2 := l1.symm.trans l2
  have hn : n1 ≤ 1048576 := by have := m.1; omega
  have L1 := Lib.hid l1
  have M := Lib.hid m.2
  clear l1 l2 m
  go_enter Tryz.func121, Tryz.ntmps121
  go_wp2
  go_loopw [5] (fun i wr => ∃ k : Nat, k ≤ n1 ∧ i = .int .i64 k ∧ Hid (Below w.heap.size w wr)) (fun i _ => n1 - (intOf i).toNat)
  case atStart => exact ⟨0, Nat.zero_le _, rfl, Lib.hid (Below.refl _ _)⟩
  case round =>
    obtain ⟨k, hk1, rfl, HB⟩ := hrel
    by_cases hlt1 : k < n1
    · obtain ⟨b1, o1, cs1, x, rfl, hb1, hR1, hx, hc1⟩ := (h1.keep (SameOn.of_below HB.out hS1)).at_ (k := k) (by rw [L1.out]; exact hlt1)
      obtain ⟨b2, o2, cs2, y, rfl, hb2, hR2, hy, hc2⟩ := (h2.keep (SameOn.of_below HB.out hS2)).at_ (k := k) (by rw [L1.out]; exact hlt1)
      obtain rfl : x = y := by have := hx.out.symm.trans hy.out; injection this
      have hM := M.out x (List.mem_of_getElem? hx.out)
      have hws := HB.out.size
      obtain ⟨A1, c1, rfl, hz12, hlc1, hcm1, hr1⟩ := hR1
      obtain ⟨A2, c2, rfl, hz22, hlc2, hcm2, hr2⟩ := hR2
      have p0 : wr.drew.cell? ⟨b1, o1 + k * 4, none⟩ = some (.int .i64 x.k) := hc1 0 _ rfl
      have p1 : wr.drew.cell? ⟨b1, o1 + k * 4 + 1, none⟩ = some (.int .i64 x.n) := hc1 1 _ rfl
      have p2 : wr.drew.cell? ⟨b1, o1 + k * 4 + 2, none⟩ = some (.string x.nm) := hc1 2 _ rfl
      have p3 : wr.drew.cell? ⟨b1, o1 + k * 4 + 3, none⟩ = some (.slice A1 x.args.length c1) := hc1 3 _ rfl
      have q0 : wr.drew.cell? ⟨b2, o2 + k * 4, none⟩ = some (.int .i64 x.k) := hc2 0 _ rfl
      have q1 : wr.drew.cell? ⟨b2, o2 + k * 4 + 1, none⟩ = some (.int .i64 x.n) := hc2 1 _ rfl
      have q2 : wr.drew.cell? ⟨b2, o2 + k * 4 + 2, none⟩ = some (.string x.nm) := hc2 2 _ rfl
      have q3 : wr.drew.cell? ⟨b2, o2 + k * 4 + 3, none⟩ = some (.slice A2 x.args.length c2) := hc2 3 _ rfl
      clear hc1 hc2
      have C := Lib.hid (eqDPart_yes x A1 A2 c1 c2 S1 S2 wr.drew hr1 hr2 (fun b hb => Nat.lt_of_lt_of_le (hS1 b hb) hws) (fun b hb => Nat.lt_of_lt_of_le (hS2 b hb) hws) hM.2)
      clear hr1 hr2 hz12 hz22 hM
      go_wp2
      go_still_tail 8, (by kernel_rfl)
      change wpList _ _ _ _ _ wr.drew
      go_wp2_with (go_at_call 145; refine (C.out).mono ?_; rintro e w2 ⟨rfl, b2⟩; have B2 := Lib.hid b2; clear b2)
      go_roundw
      case rel => exact ⟨k + 1, by omega, by go_num, Lib.hid ((HB.out.drew).trans (B2.out.mono hws))⟩
      case measure => simp [intOf]; omega
    · go_wp2
      go_ret
      exact ⟨rfl, HB.out⟩
set_option maxHeartbeats 1000000 in
theorem szDDefinition_any (x : Df) (A : Option Addr) (c : Nat) (S : Nat → Prop) (left : Int) (w : World) (z0 : x.nm.size ≤ maxLen) (hlc : x.body.length ≤ c) (hcm : c ≤ maxLen) (hr : LRow ptR w S A x.body) (hS : ∀ b, S b → b < w.heap.size) (h2 : 0 ≤ left) (h3 : left ≤ 1048576) :
    Calls Tryz.prog 84 #[.agg #[.string x.nm, .int .i64 x.ps, .slice A x.body.length c], .int .i64 left] w (SzRet (okDf x) (wtDf x) left w) := by
  have hbx : ∀ o : Obj, Below w.heap.size w (w.alloc o) := fun o => (Below.refl _ _).alloc (Nat.le_refl _) o
  unfold maxLen at z0
  have HBX := Lib.hid hbx
  clear hbx
  by_cases h0' : left - (x.nm.size : Int) < 0
  · go_enter Tryz.func84, Tryz.ntmps84
    go_wp2
    go_ret
    exact SzRet.no (HBX.out _)
  have C := Lib.hid (fun (W : World) (hW : Below w.heap.size w W) => szDPartS_any A x.body.length c x.body (left - (x.nm.size : Int)) W S (hr.keep (SameOn.of_below hW hS)) (fun b hb => Nat.lt_of_lt_of_le (hS b hb) hW.size) rfl (by omega) (by omega) (by omega))
  clear hr hlc hcm
  go_enter Tryz.func84, Tryz.ntmps84
  go_wp2_with fail
  refine (C.out _ (HBX.out _)).mono ?_
  rintro e w2 ⟨q, rfl, hq, b2⟩
  have B2 := Lib.hid ((HBX.out _).trans (b2.mono (by simp)))
  clear b2
  rcases hq with hq | ⟨hq0, hq1, hok⟩
  · go_wp2
    go_ret
    exact SzRet.no B2.out
  · have hq2 : ¬ q < 0 := by omega
    have HOK := Lib.hid hok
    clear hok
    go_wp2
    go_ret
    exact SzRet.yes hq0 (by show q + ((wL wtPt x.body : Nat) : Int) ≤ left; omega) ⟨(show x.nm.size ≤ 1048576 by omega), HOK.out⟩ B2.out
set_option maxHeartbeats 16000000 in
theorem toODefinition_any (x : Df) (A : Option Addr) (c : Nat) (w : World) (S : Nat → Prop) (z0 : x.nm.size ≤ maxLen) (hr : LRow ptR w S A x.body) (hS : ∀ b, S b → b < w.heap.size) (m : okList okPt x.body) :
    Calls Tryz.prog 87 #[.agg #[.string x.nm, .int .i64 x.ps, .slice A x.body.length c]] w (MadeRO dfO x w) := by
  have hm : x.body.length ≤ maxLen := by have := m.1; unfold maxLen; omega
  have C := Lib.hid (fun (W : World) (hW : Below w.heap.size w W) => toOPartS_any A x.body.length c x.body W S (hr.keep (SameOn.of_below hW hS)) (fun b hb => Nat.lt_of_lt_of_le (hS b hb) hW.size) rfl m)
  have HM := Lib.hid hm
  have HZ0 := Lib.hid z0
  clear hr hm m z0
  go_enter Tryz.func87, Tryz.ntmps87
  go_wp2_with fail
  refine (C.out _ (by repeat (first | exact Below.refl _ _ | refine Below.setCell ?_ (by simp) _ | refine Below.alloc ?_ (by simp <;> omega) _))).mono ?_
  rintro e w2 ⟨rfl, hl, b2⟩
  obtain ⟨hcc, _⟩ := bcell b2
  have HL := Lib.hid hl
  have B2 := Lib.hid b2
  have hs2 := b2.size
  simp at hs2
  clear hl b2
  go_wp2
  refine bodyPost_ret (v := .agg #[.string x.nm, .int .i64 x.ps, .slice (some ⟨_, 0, none⟩) x.body.length x.body.length]) (by simp [results, Tryz.results87, go_sem, hcc]; rfl) rfl ⟨[.string x.nm, .int .i64 x.ps, .slice (some ⟨_, 0, none⟩) x.body.length x.body.length], rfl, ?_, ?_⟩
  · refine ⟨_, _, rfl, HZ0.out, OL.more (OL.keep (S := In (w.heap.size + 1 + 1 + 1) w2.heap.size) (by simpa using HL.out) ?_) ?_⟩
    · repeat (first | exact SameB.refl _ _ | refine SameB.setCell ?_ (by intro h; have := h.1; omega))
    · intro b hb
      exact ⟨by have := hb.1; omega, by have := hb.2; simpa [World.setCell] using this⟩
  · repeat (refine Below.setCell ?_ (by simp <;> omega) _)
    refine Below.trans ?_ (B2.out.mono (by simp <;> omega))
    repeat (first | exact Below.refl _ _ | refine Below.setCell ?_ (by simp) _ | refine Below.alloc ?_ (by simp <;> omega) _)
theorem toDDefinition_any (x : Df) (A : Option Addr) (c : Nat) (w : World) (S : Nat → Prop) (z0 : x.nm.size ≤ maxLen) (hr : LRow ptR w S A x.body) (hS : ∀ b, S b → b < w.heap.size) (m : okList okPt x.body) :
    Calls Tryz.prog 87 #[.agg #[.string x.nm, .int .i64 x.ps, .slice A x.body.length c]] w (MadeR dfR x w) :=
  (toODefinition_any x A c w S z0 hr hS m).mono fun _ _ h => h.weak
set_option maxHeartbeats 1000000 in
theorem eqDDefinition_yes (x : Df) (A1 A2 : Option Addr) (c1 c2 : Nat) (S1 S2 : Nat → Prop) (w : World) (hr1 : LRow ptR w S1 A1 x.body) (hr2 : LRow ptR w S2 A2 x.body) (hS1 : ∀ b, S1 b → b < w.heap.size) (hS2 : ∀ b, S2 b → b < w.heap.size) (m : okList okPt x.body) :
    Calls Tryz.prog 90 #[.agg #[.string x.nm, .int .i64 x.ps, .slice A1 x.body.length c1], .agg #[.string x.nm, .int .i64 x.ps, .slice A2 x.body.length c2]] w fun e w' => e = .returned (.bool true) ∧ Below w.heap.size w w' := by
  have hne1 : (x.ps != x.ps) = false := by simp
  have C := Lib.hid (fun (W : World) (hW : Below w.heap.size w W) => eqDPartS_yes A1 A2 x.body.length x.body.length c1 c2 x.body W S1 S2 (hr1.keep (SameOn.of_below hW hS1)) (hr2.keep (SameOn.of_below hW hS2)) (fun b hb => Nat.lt_of_lt_of_le (hS1 b hb) hW.size) (fun b hb => Nat.lt_of_lt_of_le (hS2 b hb) hW.size) rfl rfl m)
  clear hr1 hr2 m
  go_enter Tryz.func90, Tryz.ntmps90
  go_wp2_with fail
  refine (C.out _ (by repeat (first | exact Below.refl _ _ | refine Below.setCell ?_ (by simp) _ | refine Below.alloc ?_ (by simp <;> omega) _))).mono ?_
  rintro e w2 ⟨rfl, b2⟩
  have B2 := Lib.hid b2
  clear b2
  go_wp2
  go_ret
  refine ⟨rfl, Below.trans ?_ (B2.out.mono (by simp <;> omega))⟩
  repeat (first | exact Below.refl _ _ | refine Below.setCell ?_ (by simp) _ | refine Below.alloc ?_ (by simp <;> omega) _)
set_option maxHeartbeats 1000000 in
theorem szDDefinitionS_any (A : Option Addr) (n c : Nat) (xs : List (Df)) (left : Int) (w : World) (S : Nat → Prop) (h : LRow dfR w S A xs) (hS : ∀ b, S b → b < w.heap.size) (l : xs.length = n) (h1 : n ≤ maxLen) (h2 : 0 ≤ left) (h3 : left ≤ 1048576) :
    Calls Tryz.prog 35 #[.slice A n c, .int .i64 left] w (SzRet (okList okDf xs) (wL wtDf xs) left w) := by
  unfold maxLen at h1
  have L := Lib.hid l
  clear l
  by_cases hn : left - n < 0
  · go_enter Tryz.func35, Tryz.ntmps35
    go_wp2
    go_ret
    exact SzRet.no (Below.refl _ _)
  go_enter Tryz.func35, Tryz.ntmps35
  go_wp2
  go_loopw [1, 5] (fun x i wr => ∃ (k : Nat) (r : Int), k ≤ n ∧ i = .int .i64 k ∧ x = .int .i64 r ∧ 0 ≤ r ∧ r + (sW wtDf (xs.take k) : Nat) ≤ left - n ∧ Hid (Below w.heap.size w wr) ∧ Hid (∀ j y, j < k → xs[j]? = some y → okDf y)) (fun _ i _ => n - (intOf i).toNat)
  case atStart => exact ⟨0, left - n, Nat.zero_le _, rfl, rfl, by omega, by simp [sW], Lib.hid (Below.refl _ _), Lib.hid (fun j y hj => by omega)⟩
  case round =>
    obtain ⟨k, r, hk, rfl, rfl, hr0, hr1, HB, HE⟩ := hrel
    by_cases hlt : k < n
    · obtain ⟨b, o, cs, x, rfl, hbS, hR, hx, hc⟩ := (h.keep (SameOn.of_below HB.out hS)).at_ (k := k) (by rw [L.out]; exact hlt)
      have HSW := Lib.hid (sW_succ (f := wtDf) hx.out)
      have hws := HB.out.size
      have hbw : b < wr.heap.size := Nat.lt_of_lt_of_le (hS b hbS) hws
      obtain ⟨A', c', rfl, hz'0, hlc', hcm', hr'⟩ := hR
      have hc0 : wr.cell? ⟨b, o + k * 3, none⟩ = some (.string x.nm) := hc 0 _ rfl
      have hc1 : wr.cell? ⟨b, o + k * 3 + 1, none⟩ = some (.int .i64 x.ps) := hc 1 _ rfl
      have hc2 : wr.cell? ⟨b, o + k * 3 + 2, none⟩ = some (.slice A' x.body.length c') := hc 2 _ rfl
      clear hc
      have C := Lib.hid (fun (W : World) (hW : Below wr.heap.size wr W) => szDDefinition_any x A' c' S r W hz'0 hlc' hcm' (hr'.keep (SameOn.of_below hW fun b hb => Nat.lt_of_lt_of_le (hS b hb) hws)) (fun b hb => Nat.lt_of_lt_of_le (hS b hb) (Nat.le_trans hws hW.size)) hr0 (by omega))
      clear hr' hz'0 h
      go_wp2_with fail
      refine (C.out _ (Below.refl _ _)).mono ?_
      rintro e w2 ⟨q, rfl, hq, b2⟩
      have HB2 := Lib.hid (HB.out.trans (b2.mono hws))
      clear b2
      rcases hq with hq | ⟨hq0, hq1, hok⟩
      · go_wp2
        go_ret
        exact SzRet.no HB2.out
      · have hq2 : ¬ q < 0 := by omega
        have HOK := Lib.hid hok
        clear hok
        have HE2 := Lib.hid (show ∀ j y, j < k + 1 → xs[j]? = some y → okDf y from fun j y hj hy => by
          by_cases e : j = k
          · subst e
            obtain rfl : y = x := by have := hy.symm.trans hx.out; injection this
            exact HOK.out
          · exact HE.out j y (by omega) hy)
        go_wp2
        go_roundw
        case rel => exact ⟨k + 1, _, by omega, by go_num, rfl, by omega, (by have h1 := HSW.out; (try simp only [wtZ] at h1); omega), HB2, HE2⟩
        case measure => simp [intOf]; omega
    · have HA := Lib.hid (show okList okDf xs from ⟨by rw [L.out]; omega, fun y hy => by
        obtain ⟨j, hj⟩ := List.getElem?_of_mem hy
        have hjl := (List.getElem?_eq_some_iff.1 hj).1
        rw [L.out] at hjl
        exact HE.out j y (by omega) hj⟩)
      have HWL := Lib.hid (wL_full (f := wtDf) L.out (k := k) (by omega))
      go_wp2
      go_ret
      exact SzRet.yes hr0 (by have h1 := HWL.out; omega) HA.out HB.out
theorem infoDDefinition : (Tryz.prog.info? 88).map (fun i => (i.zero, i.size, i.bytes)) = some (some (.agg #[.string ⟨#[]⟩, .int .i64 0, .slice none 0 0]), 3, 48) := by kernel_rfl
set_option maxHeartbeats 2000000 in
theorem toODefinitionS_any (A : Option Addr) (n c : Nat) (xs : List (Df)) (w : World) (S : Nat → Prop) (h : LRow dfR w S A xs) (hS : ∀ b, S b → b < w.heap.size) (l : xs.length = n) (m : okList okDf xs) :
    Calls Tryz.prog 41 #[.slice A n c] w (MadeLO dfO 88 xs w) := by
  obtain ⟨i0, hi, hz0, hz1, hz2⟩ := info_parts infoDDefinition
  have hn : n ≤ 1048576 := by have := m.1; omega
  have L := Lib.hid l
  have M := Lib.hid m.2
  clear l m
  go_enter Tryz.func41, Tryz.ntmps41
  go_wp2_with (at_make; refine wpList_make_full _ rfl _ _ _ rfl w.heap.size 88 i0 (.agg #[.string ⟨#[]⟩, .int .i64 0, .slice none 0 0]) 3 Tryz.underlying31 hi hz0 hz1 .i64 .i64 _ _ n rfl rfl rfl rfl (by rw [hz2]; omega) (by unfold maxLen; omega) (Nat.le_refl _) ?_; intro w1 hown1 hg1)
  have H0 := Lib.hid (show w1.ownsRow w.heap.size 88 3 (.slice (some ⟨w.heap.size, 0, none⟩) n n) n ([] ++ (madeCells #[.string ⟨#[]⟩, .int .i64 0, .slice none 0 0] ((n - 0) * 3)).toList) from hown1)
  have hb1 := Lib.hid (show Below w.heap.size w w1 from (Below.refl _ _).grown hg1 (Nat.le_refl _) (by simp))
  clear hown1 hg1 hi hz0 hz1 hz2
  go_loopw [4] (fun i wr => ∃ (k : Nat) (vs : List Value), k ≤ n ∧ i = .int .i64 k ∧ Hid (vs.length = k * 3) ∧ Hid (MadeO dfO wr w.heap.size k vs xs) ∧ Hid (Below w.heap.size w wr) ∧ Hid (wr.ownsRow w.heap.size 88 3 (.slice (some ⟨w.heap.size, 0, none⟩) n n) n (vs ++ (madeCells #[.string ⟨#[]⟩, .int .i64 0, .slice none 0 0] ((n - k) * 3)).toList))) (fun i _ => n - (intOf i).toNat)
  case atStart => exact ⟨0, [], Nat.zero_le _, rfl, Lib.hid (by simp), Lib.hid (MadeO.zero _ _ _ _ _), hb1, H0⟩
  case round =>
    obtain ⟨k, vs, hk, rfl, HV, HE, HB, HO⟩ := hrel
    clear H0 hb1
    by_cases hlt : k < n
    · obtain ⟨b, o, cs, x, rfl, hbS, hR, hx, hc⟩ := (h.keep (SameOn.of_below HB.out hS)).at_ (k := k) (by rw [L.out]; exact hlt)
      have hbw0 := hS b hbS
      have hM := M.out x (List.mem_of_getElem? hx.out)
      have hws : w.heap.size + 1 ≤ wr.heap.size := by
        have := (HO.out.lt _ rfl).2
        exact this
      obtain ⟨A', c', rfl, hz'0, hlc', hcm', hr'⟩ := hR
      have hc0 : wr.cell? ⟨b, o + k * 3, none⟩ = some (.string x.nm) := hc 0 _ rfl
      have hc1 : wr.cell? ⟨b, o + k * 3 + 1, none⟩ = some (.int .i64 x.ps) := hc 1 _ rfl
      have hc2 : wr.cell? ⟨b, o + k * 3 + 2, none⟩ = some (.slice A' x.body.length c') := hc 2 _ rfl
      clear hc
      have C := Lib.hid (fun (W : World) (hW : Below wr.heap.size wr W) => toODefinition_any x A' c' W S hz'0 (hr'.keep (SameOn.of_below hW fun b hb => Nat.lt_of_lt_of_le (hS b hb) (by omega))) (fun b hb => Nat.lt_of_lt_of_le (hS b hb) (by have := hW.size; omega)) hM.2)
      clear hr' hz'0 hM h
      go_wp2_with fail
      refine (C.out _ (Below.refl _ _)).mono ?_
      rintro e w2 ⟨cs, rfl, hR, b2⟩
      have HR := Lib.hid hR
      obtain ⟨A2, c2, rfl, hz20, hr2⟩ := hR
      obtain ⟨⟨old0, hx0⟩, hf0⟩ := own_some (own_below' HO.out b2) (k := k * 3) (by omega); obtain ⟨⟨old1, hx1⟩, hf1⟩ := own_some (own_below' HO.out b2) (k := k * 3 + 1) (by omega); obtain ⟨⟨old2, hx2⟩, hf2⟩ := own_some (own_below' HO.out b2) (k := k * 3 + 2) (by omega)
      have HO2 := Lib.hid (own_below' HO.out b2)
      have B2 := Lib.hid b2
      clear b2 hr2
      go_wp2
      go_roundw
      case rel =>
        have st0 := HO2.out.stored (k * 3) (.string x.nm)
        have st1 := st0.1.stored (k * 3 + 1) (.int .i64 x.ps)
        have st2 := st1.1.stored (k * 3 + 2) (.slice A2 x.body.length c2)
        obtain ⟨ml, me⟩ := madeO_step dfO (lo := w.heap.size) HV.out HR.out hx.out HE.out B2.out hws (grown_trans (grown_trans st0.2 st1.2) st2.2)
        refine ⟨k + 1, _, by omega, by go_num, Lib.hid ml, Lib.hid me, Lib.hid ((((HB.out.trans (B2.out.mono (by omega))).setCell (Nat.le_refl _) _).setCell (Nat.le_refl _) _).setCell (Nat.le_refl _) _), Lib.hid ?_⟩
        have e := set_next (F := 3) (z := #[.string ⟨#[]⟩, .int .i64 0, .slice none 0 0]) (n := n) HV.out rfl ((dfR).len ((dfO).rd HR.out)) hlt
        rw [← e]
        exact st2.1
      case measure => simp [intOf]; omega
    · obtain rfl : k = n := by omega
      have hown := HO.out
      have e0 : (madeCells #[.string ⟨#[]⟩, .int .i64 0, .slice none 0 0] ((k - k) * 3)).toList = [] := by simp [madeCells]
      rw [e0, List.append_nil] at hown
      have HD := Lib.hid (madeO_done dfO L.out hown HE.out)
      have HLN := Lib.hid (show (.returned (.slice (some ⟨w.heap.size, 0, none⟩) k k) : Ending) = .returned (.slice (some ⟨w.heap.size, 0, none⟩) xs.length xs.length) by rw [L.out])
      clear hown e0
      go_wp2
      go_ret
      exact ⟨HLN.out, (by have h1 := HD.out; rw [← L.out] at h1; exact h1), HB.out⟩
theorem toDDefinitionS_any (A : Option Addr) (n c : Nat) (xs : List (Df)) (w : World) (S : Nat → Prop) (h : LRow dfR w S A xs) (hS : ∀ b, S b → b < w.heap.size) (l : xs.length = n) (m : okList okDf xs) :
    Calls Tryz.prog 41 #[.slice A n c] w (MadeL dfR xs w) :=
  (toODefinitionS_any A n c xs w S h hS l m).mono fun _ _ h => h.weak
set_option maxRecDepth 100000 in
set_option maxHeartbeats 1000000 in
theorem eqDDefinitionS_yes (A1 A2 : Option Addr) (n1 n2 c1 c2 : Nat) (xs : List (Df)) (w : World) (S1 S2 : Nat → Prop) (h1 : LRow dfR w S1 A1 xs) (h2 : LRow dfR w S2 A2 xs) (hS1 : ∀ b, S1 b → b < w.heap.size) (hS2 : ∀ b, S2 b → b < w.heap.size) (l1 : xs.length = n1) (l2 : xs.length = n2) (m : okList okDf xs) :
    Calls Tryz.prog 47 #[.slice A1 n1 c1, .slice A2 n2 c2] w fun e w' => e = .returned (.bool true) ∧ Below w.heap.size w w' := by
  obtain rfl : n1 = n2 := l1.symm.trans l2
  have hn : n1 ≤ 1048576 := by have := m.1; omega
  have L1 := Lib.hid l1
  have M := Lib.hid m.2
  clear l1 l2 m
  go_enter Tryz.func47, Tryz.ntmps47
  go_wp2
  go_loopw [5] (fun i wr => ∃ k : Nat, k ≤ n1 ∧ i = .int .i64 k ∧ Hid (Below w.heap.size w wr)) (fun i _ => n1 - (intOf i).toNat)
  case atStart => exact ⟨0, Nat.zero_le _, rfl, Lib.hid (Below.refl _ _)⟩
  case round =>
    obtain ⟨k, hk1, rfl, HB⟩ := hrel
    by_cases hlt1 : k < n1
    · obtain ⟨b1, o1, cs1, x, rfl, hb1, hR1, hx, hc1⟩ := (h1.keep (SameOn.of_below HB.out hS1)).at_ (k := k) (by rw [L1.out]; exact hlt1)
      obtain ⟨b2, o2, cs2, y, rfl, hb2, hR2, hy, hc2⟩ := (h2.keep (SameOn.of_below HB.out hS2)).at_ (k := k) (by rw [L1.out]; exact hlt1)
      obtain rfl : x = y := by have := hx.out.symm.trans hy.out; injection this
      have hM := M.out x (List.mem_of_getElem? hx.out)
      have hws := HB.out.size
      obtain ⟨A1, c1, rfl, hz10, hlc1, hcm1, hr1⟩ := hR1
      obtain ⟨A2, c2, rfl, hz20, hlc2, hcm2, hr2⟩ := hR2
      have p0 : wr.drew.cell? ⟨b1, o1 + k * 3, none⟩ = some (.string x.nm) := hc1 0 _ rfl
      have p1 : wr.drew.cell? ⟨b1, o1 + k * 3 + 1, none⟩ = some (.int .i64 x.ps) := hc1 1 _ rfl
      have p2 : wr.drew.cell? ⟨b1, o1 + k * 3 + 2, none⟩ = some (.slice A1 x.body.length c1) := hc1 2 _ rfl
      have q0 : wr.drew.cell? ⟨b2, o2 + k * 3, none⟩ = some (.string x.nm) := hc2 0 _ rfl
      have q1 : wr.drew.cell? ⟨b2, o2 + k * 3 + 1, none⟩ = some (.int .i64 x.ps) := hc2 1 _ rfl
      have q2 : wr.drew.cell? ⟨b2, o2 + k * 3 + 2, none⟩ = some (.slice A2 x.body.length c2) := hc2 2 _ rfl
      clear hc1 hc2
      have C := Lib.hid (eqDDefinition_yes x A1 A2 c1 c2 S1 S2 wr.drew hr1 hr2 (fun b hb => Nat.lt_of_lt_of_le (hS1 b hb) hws) (fun b hb => Nat.lt_of_lt_of_le (hS2 b hb) hws) hM.2)
      clear hr1 hr2 hz10 hz20 hM
      go_wp2
      go_still_tail 8, (by kernel_rfl)
      change wpList _ _ _ _ _ wr.drew
      go_wp2_with (go_at_call 90; refine (C.out).mono ?_; rintro e w2 ⟨rfl, b2⟩; have B2 := Lib.hid b2; clear b2)
      go_roundw
      case rel => exact ⟨k + 1, by omega, by go_num, Lib.hid ((HB.out.drew).trans (B2.out.mono hws))⟩
      case measure => simp [intOf]; omega
    · go_wp2
      go_ret
      exact ⟨rfl, HB.out⟩
end Go.Proofs.YtdgcpaeneafejaaGreatDoor
