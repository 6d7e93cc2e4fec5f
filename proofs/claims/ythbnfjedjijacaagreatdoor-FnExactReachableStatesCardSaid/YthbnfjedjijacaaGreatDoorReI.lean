/- Reachable states: the program. -/
import Derived.Conc.MuLone
import Derived.Test.YthbnfjedjijacaaGreatDoorLtV
import Derived.Test.YthbnfjedjijacaaGreatDoorOu
import Derived.Test.YthbnfjedjijacaaGreatDoorRea
namespace Go.Proofs.YthbnfjedjijacaaGreatDoor
open Go.RowKit Go.Maps
set_option linter.unusedVariables false
set_option linter.unusedSimpArgs false
set_option maxRecDepth 100000 in
theorem nx1_any (a b t : Int) (w : World) : Calls Tryz.prog 88 #[.agg #[.int .i64 a, .int .i64 b, .int .i64 t]] w fun e w' => e = .returned (.int .i64 t) ∧ Below w.heap.size w w' := by
  have HB := Lib.hid (fun o : Obj => (Below.refl w.heap.size w).alloc (Nat.le_refl _) o)
  go_enter Tryz.func88, Tryz.ntmps88
  go_wp2
  go_ret
  exact ⟨rfl, HB.out _⟩
theorem info_intN : (Tryz.prog.info? 2).map (fun i => (i.zero, i.size, i.bytes)) = some (some (.int .i64 0), 1, 8) := by kernel_rfl
set_option maxRecDepth 100000 in
set_option maxHeartbeats 2000000 in
theorem mapTo_any (A : Option Addr) (n d : Nat) (es : List Ed) (w : World) (S : Nat → Prop) (h : LRow edR w S A es) (hS : ∀ b, S b → b < w.heap.size) (l : es.length = n) (m : n ≤ 1048576) :
    Calls Tryz.prog 87 #[.slice A n d, .func (.func 88) #[] #[]] w (MadeLO intO 2 (es.map Ed.t) w) := by
  obtain ⟨i0, hi, hz0, hz1, hz2⟩ := info_parts info_intN
  have L := Lib.hid l
  have LY := Lib.hid (show (es.map Ed.t).length = n by rw [List.length_map]; exact l)
  have H1 := Lib.hid h
  have HS := Lib.hid hS
  clear l h hS
  go_enter Tryz.func87, Tryz.ntmps87
  go_wp2_with (at_make; refine wpList_make_full _ rfl _ _ _ rfl w.heap.size 2 i0 (.int .i64 0) 1 Tryz.underlying40 hi hz0 hz1 .i64 .i64 _ _ n rfl rfl rfl rfl (by rw [hz2]; omega) (by unfold maxLen; omega) (Nat.le_refl _) ?_; intro w1 hown1 hg1)
  have H0 := Lib.hid (show w1.ownsRow w.heap.size 2 1 (.slice (some ⟨w.heap.size, 0, none⟩) n n) n ([] ++ (madeCells #[.int .i64 0] ((n - 0) * 1)).toList) from hown1)
  have hb1 := Lib.hid (show Below w.heap.size w w1 from (Below.refl _ _).grown hg1 (Nat.le_refl _) (by simp))
  clear hown1 hg1 hi hz0 hz1 hz2
  go_loopw [6, 7, 13] (fun _ _ i wr => ∃ (k : Nat) (vs : List Value), k ≤ n ∧ i = .int .i64 k ∧ Hid (vs.length = k * 1) ∧ Hid (MadeO intO wr w.heap.size k vs (es.map Ed.t)) ∧ Hid (Below w.heap.size w wr) ∧ Hid (wr.ownsRow w.heap.size 2 1 (.slice (some ⟨w.heap.size, 0, none⟩) n n) n (vs ++ (madeCells #[.int .i64 0] ((n - k) * 1)).toList))) (fun _ _ i _ => n - (intOf i).toNat)
  case atStart => exact ⟨0, [], Nat.zero_le _, rfl, Lib.hid (by simp), Lib.hid (MadeO.zero _ _ _ _ _), hb1, H0⟩
  case round =>
    obtain ⟨k, vs, hk, rfl, HVS, HE, HB, HO⟩ := hrel
    obtain ⟨wo, rfl⟩ : ∃ wo : World, wo = wr := ⟨_, rfl⟩
    clear H0 hb1
    by_cases hlt : k < n
    · obtain ⟨b, o, cs, v, rfl, hb, hR, hv, hc⟩ := (H1.out.keep (SameOn.of_below HB.out HS.out)).at_ (k := k) (by rw [L.out]; exact hlt)
      have hR : cs = [Value.int .i64 v.f, Value.int .i64 v.l, Value.int .i64 v.t] := hR
      subst hR
      have f0 : wo.cell? ⟨b, o + k * 3, none⟩ = some (.int .i64 v.f) := hc 0 _ rfl
      have f1 : wo.cell? ⟨b, o + k * 3 + 1, none⟩ = some (.int .i64 v.l) := hc 1 _ rfl
      have f2 : wo.cell? ⟨b, o + k * 3 + 2, none⟩ = some (.int .i64 v.t) := hc 2 _ rfl
      have lb := World.block_lt_of_cell? wo _ f0
      have HYX := Lib.hid (show (es.map Ed.t)[k]? = some v.t by rw [List.getElem?_map, hv.out]; rfl)
      have hws : w.heap.size + 1 ≤ wo.heap.size := by
        have := (HO.out.lt _ rfl).2
        exact this
      have HBE := Lib.hid (fun ob : Obj => (Below.refl wo.heap.size wo).alloc (Nat.le_refl _) ob)
      have C := Lib.hid (fun W : World => nx1_any v.f v.l v.t W)
      clear hc hv
      go_wp2_with fail
      refine (C.out _).mono ?_
      rintro e w2 ⟨rfl, hb2⟩
      have b2 : Below wo.heap.size wo w2 := (HBE.out _).trans (hb2.mono (HBE.out _).size)
      obtain ⟨⟨old0, hx0⟩, hf0⟩ := own_some (own_below' HO.out b2) (k := k) (by omega)
      have HR := Lib.hid (show (intO).O w2 (In wo.heap.size w2.heap.size) v.t [.int .i64 v.t] from rfl)
      have HO2 := Lib.hid (own_below' HO.out b2)
      have B2 := Lib.hid b2
      have hsz := b2.size
      clear b2 hb2
      go_wp2
      go_roundw
      case rel =>
        have st0 := HO2.out.stored (k) (.int .i64 v.t)
        obtain ⟨ml, me⟩ := madeO_step intO (lo := w.heap.size) HVS.out HR.out HYX.out HE.out B2.out hws st0.2
        refine ⟨k + 1, _, by omega, by go_num, Lib.hid ml, Lib.hid me, Lib.hid ((HB.out.trans (B2.out.mono (by omega))).setCell (Nat.le_refl _) _), Lib.hid ?_⟩
        have e := set_next (F := 1) (z := #[.int .i64 0]) (n := n) HVS.out rfl ((intR).len ((intO).rd HR.out)) hlt
        rw [← e]
        simpa [setAll] using st0.1
      case measure => simp [intOf]; omega
    · obtain rfl : k = n := by omega
      have hown := HO.out
      have e0 : (madeCells #[.int .i64 0] ((k - k) * 1)).toList = [] := by simp [madeCells]
      rw [e0, List.append_nil] at hown
      have HD := Lib.hid (madeO_done intO LY.out hown HE.out)
      have HLN := Lib.hid (show (.returned (.slice (some ⟨w.heap.size, 0, none⟩) k k) : Ending) = .returned (.slice (some ⟨w.heap.size, 0, none⟩) (es.map Ed.t).length (es.map Ed.t).length) by rw [LY.out])
      clear hown e0
      go_wp2
      go_ret
      exact ⟨HLN.out, (by have h1 := HD.out; rw [← LY.out] at h1; exact h1), HB.out⟩
set_option maxRecDepth 100000 in
set_option maxHeartbeats 2000000 in
theorem nextOf_any (x : Lt) (k : Int) (A1 A2 : Option Addr) (c1 c2 : Nat) (w : World) (S : Nat → Prop) (h2 : LRow edR w S A2 x.es) (hS : ∀ b, S b → b < w.heap.size) (ok : okLt x) :
    Calls Tryz.prog 61 #[ltCells x A1 A2 c1 c2, .int .i64 k] w fun e w' => ∃ A c, e = .returned (.slice A (nxt x k).length c) ∧ OL intO 2 w' (In w.heap.size w'.heap.size) A (nxt x k).length c (nxt x k) ∧ Below w.heap.size w w' := by
  have HB := Lib.hid (fun o : Obj => (Below.refl w.heap.size w).alloc (Nat.le_refl _) o)
  have CO := Lib.hid (fun (W : World) (hW : Below w.heap.size w W) => outOf_any x k A1 A2 c1 c2 W S (h2.keep (SameOn.of_below hW hS)) (fun b hb => Nat.lt_of_lt_of_le (hS b hb) hW.size) ok)
  have hle : (outE x k).length ≤ 1048576 := by
    have h1 := ok.2.1
    have h3 : (outE x k).length ≤ x.es.length := List.length_filter_le _ _
    omega
  have HLE := Lib.hid hle
  clear h2 hS ok hle
  go_enter Tryz.func61, Tryz.ntmps61
  go_wp2_with fail
  refine (CO.out _ (HB.out _)).mono ?_
  rintro e w2 ⟨A, c, rfl, hO, hb2⟩
  have HB2 := Lib.hid ((HB.out _).trans (hb2.mono (HB.out _).size))
  have CM := Lib.hid (mapTo_any A (outE x k).length c (outE x k) w2 _ hO.lrow (fun b hb => hb.2) rfl HLE.out)
  clear hb2 hO
  go_wp2_with (go_at_call 87; refine (CM.out).mono ?_; rintro e w3 ⟨rfl, hO, hb3⟩; have HB3 := Lib.hid (HB2.out.trans (hb3.mono HB2.out.size)); have HO3 := Lib.hid (hO.more (S' := In w.heap.size w3.heap.size) (fun b hb => ⟨Nat.le_trans HB2.out.size hb.1, hb.2⟩)); clear hb3 hO)
  go_ret
  exact ⟨some ⟨w2.heap.size, 0, none⟩, (outE x k).length, by rw [show (nxt x k).length = (outE x k).length from List.length_map _]; rfl, by
    have h := HO3.out
    show OL intO 2 w3 _ _ ((outE x k).map Ed.t).length _ ((outE x k).map Ed.t)
    rw [List.length_map] at h ⊢
    exact h, HB3.out⟩
theorem zeroBo (w : World) : (zeroValue 4).run Tryz.prog w = .ok (.bool false) w := by kernel_rfl
set_option maxRecDepth 100000 in
set_option maxHeartbeats 8000000 in
theorem reached_any (x : Lt) (A1 A2 : Option Addr) (c1 c2 : Nat) (A : Option Addr) (c : Nat) (w : World) (S S2 : Nat → Prop) (h2 : LRow edR w S A2 x.es) (hS : ∀ b, S b → b < w.heap.size) (ok : okLt x) (tv : ltB x = true) (hr : LRow intR w S2 A [x.ini]) (hS2 : ∀ b, S2 b → b < w.heap.size) :
    Calls Tryz.prog 60 #[.slice A 1 c, .func (.func 61) #[ltCells x A1 A2 c1 c2] #[]] w fun e w' => ∃ A c, e = .returned (.slice A (rchL x).length c) ∧ OL intO 2 w' (In w.heap.size w'.heap.size) A (rchL x).length c (rchL x) ∧ Below w.heap.size w w' := by
  have hmm := @run_makeMap Tryz.prog
  have law := int_keyed Tryz.underlying2
  have CL := Lib.hid (fun (W : World) (hW : Below w.heap.size w W) => cloneInt_any A 1 c [x.ini] W S2 (LRow.keep (F := intR) hr (SameOn.of_below hW hS2)) (fun b hb => Nat.lt_of_lt_of_le (hS2 b hb) hW.size) rfl (by decide))
  have CN := Lib.hid (fun (k : Int) (W : World) (hW : Below w.heap.size w W) => nextOf_any x k A1 A2 c1 c2 W S (h2.keep (SameOn.of_below hW hS)) (fun b hb => Nat.lt_of_lt_of_le (hS b hb) hW.size) ok)
  have TV := Lib.hid tv
  have HNX := Lib.hid (fun k : Int => (show (nxt x k).length ≤ 300 from Nat.le_trans (nxt_len x k) (ltB_parts tv).2.2.2.1))
  have hm0 := Lib.hid (World.ownsMap_made w Tryz.prog 2 (plainElem (H := Unit) Tryz.prog 4))
  have hb0 := Lib.hid ((Below.refl w.heap.size w).alloc (Nat.le_refl _) (.map #[] 0))
  clear h2 hS ok tv hr hS2
  go_enter Tryz.func60, Tryz.ntmps60
  go_wp2_with fail
  refine (CL.out _ hb0.out).mono ?_
  rintro e w2 ⟨B, d, rfl, hO, hb2⟩
  have HB2 := Lib.hid (hb0.out.trans (hb2.mono hb0.out.size))
  have HM2 := Lib.hid (owns_bel hm0.out hb2)
  have HQ2 := Lib.hid (show Que w2 w.heap.size B 1 d [x.ini] from que_of_ol hO (fun b hb => Nat.le_trans hb0.out.size hb.1))
  clear hO hb2 hm0 hb0 CL hmm
  go_wp2
  go_loopw [6] (fun v wr => ∃ (ks ws : List Int) (Dm : DataW Unit) (A : Option Addr) (n c : Nat), v = .slice A n c ∧ Hid (Srch x ks ws) ∧ Hid (SetIs Dm ks) ∧ Hid (wr.ownsMap Tryz.prog 2 (plainElem (H := Unit) Tryz.prog 4) w.heap.size ks.length Dm) ∧ Hid (Que wr w.heap.size A n c ws) ∧ Hid (Below w.heap.size w wr) ∧ n ≤ 1 + 300 * ks.length) (fun v wr => (40 - mapSize wr w.heap.size) * 301 + qLen v)
  case atStart => exact ⟨[], _, _, _, _, _, rfl, Lib.hid (Srch.start x), Lib.hid SetIs.nil, HM2, HQ2, HB2, by simp⟩
  case round =>
    clear HB2 HM2 HQ2
    obtain ⟨ks, ws, Dm, A, n, c, rfl, HSR, HSE, HM, HQ, HB, hnk⟩ := hrel
    have hsz := HB.out.size
    have HK40 := srch_len TV.out HSR.out
    have HMN := Lib.hid (show mapSize wr w.heap.size = ks.length by rw [mapN HM.out, HSE.out.size])
    rcases Nat.eq_zero_or_pos n with h0 | hpos
    · have hws : ws = [] := List.eq_nil_of_length_eq_zero (by rw [HQ.out.1]; exact h0)
      subst h0
      subst hws
      have CS := Lib.hid (Tryz.sorted_call w.heap.size ks.length Dm (plainElem (H := Unit) Tryz.prog 4) wr HM.out (by have := HSE.out.size; unfold maxLen; omega) (by have := HSE.out.size; omega))
      have HPK := Lib.hid (CollectedI.perm (left := fun _ => false) (show CollectedI Dm (fun _ => false) ks from ⟨HSR.out.nd, fun u => by rw [HSE.out.has]; simp⟩) HM.out law Tryz.underlying2 (fun _ => rfl))
      clear hnk HQ
      go_wp2_with (first
        | (go_at_call 86; refine (Tryz.keys_call _ _).mono ?_; rintro e w3 ⟨rfl, rfl⟩)
        | (go_at_call 85; refine (CS.out).mono ?_; rintro e w4 ⟨v, ss, rfl, hperm, hrow, _, hb4⟩; have HP := Lib.hid hperm; have HRW := Lib.hid hrow; have HB4 := Lib.hid hb4; clear hperm hrow hb4))
      have HE := Lib.hid (show ss.mergeSort (fun a b => decide (a ≤ b)) = rchL x from up_sort ((HP.out.trans HPK.out.symm).symm.nodup HSR.out.nd) (rchL_up x) (fun k => by rw [(HP.out.trans HPK.out.symm).mem_iff, HSR.out.done k, mem_rchL TV.out]))
      obtain ⟨A', c', rfl⟩ := own_slice HRW.out
      go_ret
      have hl : (rchL x).length = ss.length := by rw [← HE.out, List.length_mergeSort]
      have hbw : Below w.heap.size w w4 := (HB.out.alloc hsz _).trans (HB4.out.mono (by simp; omega))
      refine ⟨A', c', by rw [hl]; rfl, ?_, hbw⟩
      rw [hl]
      refine (ol_int (lo := _) (show w4.ownsRow _ 2 1 (.slice A' ss.length c') ss.length ((rchL x).map (Value.int .i64)) from by rw [← HE.out]; exact HRW.out) hl).more (fun b hb => ⟨Nat.le_trans (by simp; omega) hb.1, hb.2⟩)
    · obtain ⟨k, ws', hws⟩ : ∃ k ws', ws = k :: ws' := by
        cases ws with
        | nil => have := HQ.out.1; simp at this; omega
        | cons k ws' => exact ⟨k, ws', rfl⟩
      subst hws
      obtain ⟨g, off, rfl, hg, hhd⟩ := HQ.out.head
      obtain ⟨hql, hqc, _, _⟩ := HQ.out
      have HRK := Lib.hid (rch_in TV.out (HSR.out.sw k (by simp)))
      have hst := (ltB_parts TV.out).1
      have HKEY := Lib.hid (show keyOf Tryz.prog 2 (.int .i64 k) = some (.int .i64 k) from keyOf_int_mk Tryz.underlying2 (WalkArith.wf_i64 (by have := HRK.out; omega)))
      have hpz : (0 : Int) < (n : Int) := by omega
      have h1n : (1 : Int) ≤ (n : Int) := by omega
      have HQT := Lib.hid (show if c = 1 then n - 1 = 0 ∧ Que wr w.heap.size (some ⟨g, off, none⟩) 0 0 ws' else Que wr w.heap.size (some ⟨g, off + 1, none⟩) (n - 1) (c - 1) ws' from Que.tail (by rw [show n - 1 + 1 = n by omega]; exact HQ.out))
      have hlk := fun (v : Bool) (hv : decide (k ∈ ks) = v) => look_bool (x := v) HM.out law Tryz.underlying108 Tryz.underlying4 (zeroBo _) HKEY.out (by rw [HSE.out.val, hv])
      have HLK := Lib.hid hlk
      clear hlk hst hql
      by_cases hc1 : c = 1
      · subst hc1
        have HQ3 := Lib.hid (show Que wr w.heap.size (some ⟨g, off, none⟩) 0 0 ws' from by have h := HQT.out; rw [if_pos rfl] at h; exact h.2)
        have hn1 : n = 1 := by omega
        subst hn1
        by_cases hk : k ∈ ks
        · have hl1 := HLK.out true (decide_eq_true hk)
          have HS2 := Lib.hid (HSR.out.skip hk)
          clear hk
          go_wp2
          go_roundw
          case rel => exact ⟨ks, ws', Dm, _, 0, 0, rfl, HS2, HSE, HM, HQ3, HB, by omega⟩
          case measure => simp [qLen]; try omega
        · have hl1 := HLK.out false (decide_eq_false hk)
          have HS2 := Lib.hid (HSR.out.step hk)
          have HSE2 := Lib.hid (HSE.out.put (HM.out.tidy law) hk)
          have HK2 := srch_len TV.out HS2.out
          have hkl : (ks ++ [k]).length = ks.length + 1 := by simp
          clear hk
          go_wp2_with (first
            | (at_mapUpdate; refine wpList_mapUpdate_own _ rfl _ _ _ 108 rfl 2 4 law Tryz.underlying108 _ w.heap.size ks.length Dm rfl HM.out (by unfold maxLen; omega) _ _ (.int .i64 k) rfl rfl HKEY.out _ [] (plainElem_bool Tryz.underlying4 true) ?_; intro w2 hmap2 hg2; have HM2 := Lib.hid hmap2; have HQ4 := Lib.hid (que_map HQ3.out HM.out hg2); have HB2 := Lib.hid (HB.out.grown hg2 hsz (fun j hj => by cases hj; exact Nat.le_refl _)); clear hmap2 hg2)
            | (go_at_call 61; refine (CN.out _ _ HB2.out).mono ?_; rintro e w3 ⟨A5, c5, rfl, hO, hb3⟩; have HO5 := Lib.hid hO; have HB3 := Lib.hid (HB2.out.trans (hb3.mono HB2.out.size)); have HQ5 := Lib.hid (HQ4.out.keep hb3); have HM3 := Lib.hid (owns_bel HM2.out hb3); have hx300 := HNX.out k; clear hO hb3)
            | (at_builtin; refine wpList_append_que rfl _ _ rfl (lo := w.heap.size) (A := (some ⟨g, off, none⟩)) (n := 0) (c := 0) (ws := ws') rfl HQ5.out HB3.out.size (A2 := A5) (m := (nxt x k).length) (c2 := c5) (news := nxt x k) rfl HO5.out.lrow rfl (by omega) ?_; intro A6 c6 w6 hq6 hb6 hk6; have HQ6 := Lib.hid hq6; have HB6 := Lib.hid (HB3.out.trans hb6); have HM6 := Lib.hid (owns_kpt HM3.out hk6); clear hq6 hb6 hk6))
          have HMN2 := Lib.hid (show mapSize w6 w.heap.size = ks.length + 1 by rw [mapN HM6.out, HSE2.out.size, hkl])
          have HQ6 := Lib.hid (show Que w6 w.heap.size A6 (nxt x k).length c6 (ws' ++ nxt x k) from by have h := HQ6.out; rwa [Nat.zero_add] at h)
          go_roundw
          case rel => exact ⟨ks ++ [k], ws' ++ nxt x k, _, A6, _, c6, rfl, HS2, HSE2, by rw [hkl]; exact HM6, HQ6, HB6, by rw [hkl]; omega⟩
          case measure =>
            have h1 := HMN.out
            have h2 := HMN2.out
            have h3 := HNX.out k
            simp only [h1, h2]
            simp [qLen]
            omega
      · have hc2 : ¬ c - 1 = 0 := by omega
        have HQ3 := Lib.hid (show Que wr w.heap.size (some ⟨g, off + 1, none⟩) (n - 1) (c - 1) ws' from by have h := HQT.out; rw [if_neg hc1] at h; exact h)
        by_cases hk : k ∈ ks
        · have hl1 := HLK.out true (decide_eq_true hk)
          have HS2 := Lib.hid (HSR.out.skip hk)
          clear hk
          go_wp2
          go_roundw
          case rel => exact ⟨ks, ws', Dm, _, (n - 1), (c - 1), rfl, HS2, HSE, HM, HQ3, HB, by omega⟩
          case measure => simp [qLen]; try omega
        · have hl1 := HLK.out false (decide_eq_false hk)
          have HS2 := Lib.hid (HSR.out.step hk)
          have HSE2 := Lib.hid (HSE.out.put (HM.out.tidy law) hk)
          have HK2 := srch_len TV.out HS2.out
          have hkl : (ks ++ [k]).length = ks.length + 1 := by simp
          clear hk
          go_wp2_with (first
            | (at_mapUpdate; refine wpList_mapUpdate_own _ rfl _ _ _ 108 rfl 2 4 law Tryz.underlying108 _ w.heap.size ks.length Dm rfl HM.out (by unfold maxLen; omega) _ _ (.int .i64 k) rfl rfl HKEY.out _ [] (plainElem_bool Tryz.underlying4 true) ?_; intro w2 hmap2 hg2; have HM2 := Lib.hid hmap2; have HQ4 := Lib.hid (que_map HQ3.out HM.out hg2); have HB2 := Lib.hid (HB.out.grown hg2 hsz (fun j hj => by cases hj; exact Nat.le_refl _)); clear hmap2 hg2)
            | (go_at_call 61; refine (CN.out _ _ HB2.out).mono ?_; rintro e w3 ⟨A5, c5, rfl, hO, hb3⟩; have HO5 := Lib.hid hO; have HB3 := Lib.hid (HB2.out.trans (hb3.mono HB2.out.size)); have HQ5 := Lib.hid (HQ4.out.keep hb3); have HM3 := Lib.hid (owns_bel HM2.out hb3); have hx300 := HNX.out k; clear hO hb3)
            | (at_builtin; refine wpList_append_que rfl _ _ rfl (lo := w.heap.size) (A := (some ⟨g, off + 1, none⟩)) (n := (n - 1)) (c := (c - 1)) (ws := ws') rfl HQ5.out HB3.out.size (A2 := A5) (m := (nxt x k).length) (c2 := c5) (news := nxt x k) rfl HO5.out.lrow rfl (by omega) ?_; intro A6 c6 w6 hq6 hb6 hk6; have HQ6 := Lib.hid hq6; have HB6 := Lib.hid (HB3.out.trans hb6); have HM6 := Lib.hid (owns_kpt HM3.out hk6); clear hq6 hb6 hk6))
          have HMN2 := Lib.hid (show mapSize w6 w.heap.size = ks.length + 1 by rw [mapN HM6.out, HSE2.out.size, hkl])
          go_roundw
          case rel => exact ⟨ks ++ [k], ws' ++ nxt x k, _, A6, _, c6, rfl, HS2, HSE2, by rw [hkl]; exact HM6, HQ6, HB6, by rw [hkl]; omega⟩
          case measure =>
            have h1 := HMN.out
            have h2 := HMN2.out
            have h3 := HNX.out k
            simp only [h1, h2]
            simp [qLen]
            omega
theorem rchR_le (x : Lt) : (rchR x).length ≤ 40 := by
  rcases h : ltB x with _ | _
  · rw [rchR_no h]; exact Nat.zero_le _
  · rw [rchR_yes h]; exact ok_rch h
theorem ok_rchR (x : Lt) : okList okAny (rchR x) := ⟨by have h := rchR_le x; omega, fun _ _ => trivial⟩
theorem cnt_rchR (x : Lt) : cntL intM (rchR x) ≤ 100000000 := by
  have h1 := cnt_int (rchR x)
  have h2 := wL_z (rchR x)
  have h3 := rchR_le x
  omega
set_option maxRecDepth 100000 in
set_option maxHeartbeats 2000000 in
theorem implRch_any {x : Lt} {cs : List Value} {w : World} {S : Nat → Prop} (h : ltR.R w S x cs) (hS : ∀ b, S b → b < w.heap.size) (ok : okLt x) (ht : TxtTabs w) :
    Calls Tryz.prog 28 #[.agg cs.toArray] w fun e w' => ∃ A c, e = .returned (.tuple #[.slice A (rchR x).length c, .int .i64 (rchC x)]) ∧ OL intO 2 w' (In w.heap.size w'.heap.size) A (rchR x).length c (rchR x) ∧ Below w.heap.size w w' := by
  have HV0 := Lib.hid (fun (W : World) (hW : Below w.heap.size w W) => implValid_any (ltR.keep h (SameOn.of_below hW hS)) (fun b hb => Nat.lt_of_lt_of_le (hS b hb) hW.size) ok (ht.below hW))
  obtain ⟨A1, c1, A2, c2, rfl, ⟨m1, m3, r1⟩, ⟨m2, m4, r2⟩⟩ := h
  have HB := Lib.hid (fun o : Obj => (Below.refl w.heap.size w).alloc (Nat.le_refl _) o)
  have CR := Lib.hid (fun (tv : ltB x = true) (W : World) (hW : Below w.heap.size w W) (g : Nat) (hg : g < W.heap.size) (z : W.cell? ⟨g, 0, none⟩ = some (.int .i64 x.ini)) => reached_any x A1 A2 c1 c2 (some ⟨g, 0, none⟩) 1 W S (· < W.heap.size) (r2.keep (SameOn.of_below hW hS)) (fun b hb => Nat.lt_of_lt_of_le (hS b hb) hW.size) ok tv (show LRow intR W (· < W.heap.size) (some ⟨g, 0, none⟩) [x.ini] from ⟨[.int .i64 x.ini], fun _ => ⟨g, 0, rfl, hg, fun i v hi => by
    match i, hi with
    | 0, hi => injection hi with hi; subst hi; exact z⟩, rfl, fun j y hy => by
    match j, hy with
    | 0, hy => injection hy with hy; subst hy; rfl⟩) (fun b hb => hb))
  clear r1 r2 hS ok ht
  go_enter Tryz.func28, Tryz.ntmps28
  go_wp2_with fail
  refine (HV0.out _ (HB.out _)).mono ?_
  rintro e w2 ⟨rfl, hb2⟩
  have hs2 := hb2.size
  simp at hs2
  obtain ⟨hcc, _⟩ := bcell hb2
  have HB2 := Lib.hid ((HB.out _).trans (hb2.mono (HB.out _).size))
  have y0 : w2.cell? ⟨w.heap.size, 0, none⟩ = some (.int .i64 x.st) := (hcc _ _ (by simp)).trans (by simp [go_sem])
  have y1 : w2.cell? ⟨w.heap.size, 1, none⟩ = some (.int .i64 x.ini) := (hcc _ _ (by simp)).trans (by simp [go_sem])
  have y2 : w2.cell? ⟨w.heap.size, 2, none⟩ = some (.slice A1 x.ls.length c1) := (hcc _ _ (by simp)).trans (by simp [go_sem])
  have y3 : w2.cell? ⟨w.heap.size, 3, none⟩ = some (.slice A2 x.es.length c2) := (hcc _ _ (by simp)).trans (by simp [go_sem])
  have hpb : w.heap.size < w2.heap.size := by omega
  clear hb2 hcc hs2
  rcases tv : ltB x with _ | _
  · have HF := Lib.hid (rchC_no tv)
    have HG := Lib.hid (rchR_no tv)
    clear tv
    go_wp2
    go_ret2
    exact ⟨none, 0, by rw [HF.out, HG.out]; rfl, by rw [HG.out]; exact OL.nil, HB2.out⟩
  · have HF := Lib.hid (rchC_yes tv)
    have HG := Lib.hid (rchR_yes tv)
    have C3 := Lib.hid (CR.out tv)
    have HS3 := Lib.hid HB2.out.size
    clear tv
    go_wp2_with fail
    refine (C3.out _ (HB2.out.alloc HB2.out.size _) w2.heap.size (by simp) (by simp [go_sem])).mono ?_
    rintro e w4 ⟨A, c, rfl, hO, hb4⟩
    have HB4 := Lib.hid ((HB2.out.alloc HB2.out.size _).trans (hb4.mono (Nat.le_trans HB2.out.size (by simp))))
    have HO := Lib.hid (hO.more (S' := In w.heap.size w4.heap.size) (fun b hb => ⟨Nat.le_trans HS3.out (Nat.le_trans (by simp) hb.1), hb.2⟩))
    clear hb4 hO
    go_wp2
    go_ret2
    exact ⟨A, c, by (rw [HG.out, HF.out]; rfl), by rw [HG.out]; exact HO.out, HB4.out⟩
end Go.Proofs.YthbnfjedjijacaaGreatDoor
