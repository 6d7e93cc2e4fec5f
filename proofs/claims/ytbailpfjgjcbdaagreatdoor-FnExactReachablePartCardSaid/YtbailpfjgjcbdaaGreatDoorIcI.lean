/- Closures over internal edges: the program. -/
import Derived.Conc.MuLone
import Derived.Test.YtbailpfjgjcbdaaGreatDoorRea
import Derived.Test.YtbailpfjgjcbdaaGreatDoorGoN
import Derived.Test.YtbailpfjgjcbdaaGreatDoorIcP
namespace Go.Proofs.YtbailpfjgjcbdaaGreatDoor
open Go.RowKit Go.Maps
set_option linter.unusedVariables false
set_option linter.unusedSimpArgs false
def tauU : ByteArray := ⟨#[116, 97, 117]⟩
theorem tauU_eq (s : ByteArray) : eqB s tauU = isT s := by
  have h : tauU.toList = [116, 97, 117] := by rw [ByteArray.toList_eq]; rfl
  unfold eqB isT
  rw [h]
theorem tau_lf {x : Lt} (tv : ltB x = true) (s : ByteArray) (i : Int) (h0 : 0 ≤ i) (hs : x.ls[i.toNat]? = some s) : eqB s tauU = (i == 0) := by
  rw [tauU_eq, lab_tau tv hs]
  by_cases e : i = 0
  · subst e; rfl
  · have h2 : ¬ i.toNat = 0 := by omega
    have h3 : (i == 0) = false := by simp [e]
    rw [h3, decide_eq_false h2]
set_option maxRecDepth 100000 in
set_option maxHeartbeats 2000000 in
theorem clos1_any (x : Lt) (k : Int) (bx : Nat) (A1 A2 : Option Addr) (c1 c2 : Nat) (w : World) (S : Nat → Prop) (y : Box4 w bx x A1 A2 c1 c2) (h1 : LRow txtR w S A1 x.ls) (h2 : LRow edR w S A2 x.es) (hS : ∀ b, S b → b < w.heap.size) (tv : ltB x = true) :
    Calls Tryz.prog 63 #[.int .i64 k, .pointer (some ⟨bx, 0, none⟩)] w fun e w' => ∃ A c, e = .returned (.slice A (sucE x k 0).length c) ∧ OL intO 2 w' (In w.heap.size w'.heap.size) A (sucE x k 0).length c (sucE x k 0) ∧ Below w.heap.size w w' := by
  have hbx := y.lt
  obtain ⟨y0, y1, y2, y3⟩ := y
  have CG := Lib.hid (fun (W : World) => goalsN_any x k tauU A1 A2 c1 c2 W)
  have CS := Lib.hid (fun (q : Nat) (W : World) (hW : Below w.heap.size w W) (hq : q + 3 = W.heap.size) y2 y3 yk yu => collect_any 90 _ (enters_of Tryz.func90 (by kernel_rfl) rfl) _ 301 (by omega) W (goalsN_stops 0 x k tauU q A1 A2 c1 c2 W S (Below W.heap.size) W.heap.size (kpOK_below (by omega) (fun b hb => Nat.lt_of_lt_of_le (hS b hb) hW.size)) (Nat.le_refl _) (by omega) y2 y3 yk yu (h1.keep (SameOn.of_below hW hS)) (h2.keep (SameOn.of_below hW hS)) (fun b hb => Nat.lt_of_lt_of_le (hS b hb) hW.size) tv (tau_lf tv)))
  clear h1 h2 hS tv
  have htau : (Value.string { data := #[116, 97, 117] }) = Value.string tauU := rfl
  go_enter Tryz.func63, Tryz.ntmps63
  go_wp2_with (first
    | (go_at_call 65; refine (CG.out _).mono ?_; rintro e w4 ⟨rfl, hs4, hb4, q2, q3, qk, qu⟩; have HB4 := Lib.hid hb4; have C4 := Lib.hid (CS.out w.heap.size w4 hb4 hs4.symm q2 q3 qk qu); clear hs4 hb4 q2 q3 qk qu)
    | (go_at_call 64; refine (C4.out).mono ?_; rintro e w5 ⟨v, rfl, hrow, hb5⟩; have HB5 := Lib.hid (HB4.out.trans (hb5.mono HB4.out.size)); have HS4 := Lib.hid HB4.out.size; obtain ⟨A, c, rfl⟩ := own_slice hrow; have HO := Lib.hid ((ol_int hrow rfl).more (S' := In w.heap.size w5.heap.size) (fun b hb => ⟨Nat.le_trans HS4.out hb.1, hb.2⟩)); clear hb5 hrow))
  go_ret
  exact ⟨A, c, rfl, HO.out, HB5.out⟩
set_option maxRecDepth 100000 in
set_option maxHeartbeats 8000000 in
theorem closed_any (x : Lt) (bx : Nat) (A1 A2 : Option Addr) (c1 c2 : Nat) (A : Option Addr) (n₁ c : Nat) (st : List Int) (w : World) (S S2 : Nat → Prop) (y : Box4 w bx x A1 A2 c1 c2) (h1 : LRow txtR w S A1 x.ls) (h2 : LRow edR w S A2 x.es) (hS : ∀ b, S b → b < w.heap.size) (tv : ltB x = true) (hr : LRow intR w S2 A st) (hS2 : ∀ b, S2 b → b < w.heap.size) (hl₁ : st.length = n₁) (hn₁ : n₁ ≤ 100000) (hin : inSt x st) :
    Calls Tryz.prog 62 #[.slice A n₁ c, .func (.func 63) #[] #[.pointer (some ⟨bx, 0, none⟩)]] w fun e w' => ∃ A c, e = .returned (.slice A (cloL x st).length c) ∧ OL intO 2 w' (In w.heap.size w'.heap.size) A (cloL x st).length c (cloL x st) ∧ Below w.heap.size w w' := by
  have hmm := @run_makeMap Tryz.prog
  have law := int_keyed Tryz.underlying2
  have CL := Lib.hid (fun (W : World) (hW : Below w.heap.size w W) => cloneInt_any A n₁ c st W S2 (LRow.keep (F := intR) hr (SameOn.of_below hW hS2)) (fun b hb => Nat.lt_of_lt_of_le (hS2 b hb) hW.size) hl₁ (by omega))
  have CN := Lib.hid (fun (k : Int) (W : World) (hW : Below w.heap.size w W) => clos1_any x k bx A1 A2 c1 c2 W S (y.next hW) (h1.keep (SameOn.of_below hW hS)) (h2.keep (SameOn.of_below hW hS)) (fun b hb => Nat.lt_of_lt_of_le (hS b hb) hW.size) tv)
  have TV := Lib.hid tv
  have HNX := Lib.hid (fun k : Int => (show (sucE x k 0).length ≤ 300 from Nat.le_trans (sucE_len x k 0) (ltB_parts tv).2.2.2.1))
  have HIN := Lib.hid hin
  have HL1 := Lib.hid hl₁
  have hm0 := Lib.hid (World.ownsMap_made w Tryz.prog 2 (plainElem (H := Unit) Tryz.prog 4))
  have hb0 := Lib.hid ((Below.refl w.heap.size w).alloc (Nat.le_refl _) (.map #[] 0))
  clear h1 h2 hS tv hr hS2 y hin hl₁
  go_enter Tryz.func62, Tryz.ntmps62
  go_wp2_with fail
  refine (CL.out _ hb0.out).mono ?_
  rintro e w2 ⟨B, d, rfl, hO, hb2⟩
  rw [HL1.out] at hO ⊢
  have HB2 := Lib.hid (hb0.out.trans (hb2.mono hb0.out.size))
  have HM2 := Lib.hid (owns_bel hm0.out hb2)
  have HQ2 := Lib.hid (show Que w2 w.heap.size B n₁ d st from que_of_ol hO (fun b hb => Nat.le_trans hb0.out.size hb.1))
  clear hO hb2 hm0 hb0 CL hmm
  go_wp2
  go_loopw [6] (fun v wr => ∃ (ks ws : List Int) (Dm : DataW Unit) (A : Option Addr) (n c : Nat), v = .slice A n c ∧ Hid (GS (tauE x) st ks ws) ∧ Hid (SetIs Dm ks) ∧ Hid (wr.ownsMap Tryz.prog 2 (plainElem (H := Unit) Tryz.prog 4) w.heap.size ks.length Dm) ∧ Hid (Que wr w.heap.size A n c ws) ∧ Hid (Below w.heap.size w wr) ∧ n ≤ n₁ + 300 * ks.length) (fun v wr => (40 - mapSize wr w.heap.size) * 301 + qLen v)
  case atStart => exact ⟨[], _, _, _, _, _, rfl, Lib.hid (GS.start _ st), Lib.hid SetIs.nil, HM2, HQ2, HB2, by simp⟩
  case round =>
    clear HB2 HM2 HQ2
    obtain ⟨ks, ws, Dm, A, n, c, rfl, HSR, HSE, HM, HQ, HB, hnk⟩ := hrel
    have hsz := HB.out.size
    have HK40 := gs_len TV.out HIN.out HSR.out
    have HMN := Lib.hid (show mapSize wr w.heap.size = ks.length by rw [mapN HM.out, HSE.out.size])
    rcases Nat.eq_zero_or_pos n with h0 | hpos
    · have hws : ws = [] := List.eq_nil_of_length_eq_zero (by rw [HQ.out.1]; exact h0)
      subst h0
      subst hws
      have CS := Lib.hid (Tryz.sorted_call w.heap.size ks.length Dm (plainElem (H := Unit) Tryz.prog 4) wr HM.out (by have := HSE.out.size; unfold maxLen; omega) (by have := HSE.out.size; omega))
      have HPK := Lib.hid (CollectedI.perm (left := fun _ => false) (show CollectedI Dm (fun _ => false) ks from ⟨HSR.out.nd, fun u => by rw [HSE.out.has]; simp⟩) HM.out law Tryz.underlying2 (fun _ => rfl))
      clear hnk HQ
      go_wp2_with (first
        | (go_at_call 89; refine (Tryz.keys_call _ _).mono ?_; rintro e w3 ⟨rfl, rfl⟩)
        | (go_at_call 88; refine (CS.out).mono ?_; rintro e w4 ⟨v, ss, rfl, hperm, hrow, _, hb4⟩; have HP := Lib.hid hperm; have HRW := Lib.hid hrow; have HB4 := Lib.hid hb4; clear hperm hrow hb4))
      have HE := Lib.hid (show ss.mergeSort (fun a b => decide (a ≤ b)) = cloL x st from up_sort ((HP.out.trans HPK.out.symm).symm.nodup HSR.out.nd) (cloL_up x st) (fun k => by rw [(HP.out.trans HPK.out.symm).mem_iff, HSR.out.done k, mem_cloL TV.out HIN.out]))
      obtain ⟨A', c', rfl⟩ := own_slice HRW.out
      go_ret
      have hl : (cloL x st).length = ss.length := by rw [← HE.out, List.length_mergeSort]
      have hbw : Below w.heap.size w w4 := (HB.out.alloc hsz _).trans (HB4.out.mono (by simp; omega))
      refine ⟨A', c', by rw [hl]; rfl, ?_, hbw⟩
      rw [hl]
      refine (ol_int (lo := _) (show w4.ownsRow _ 2 1 (.slice A' ss.length c') ss.length ((cloL x st).map (Value.int .i64)) from by rw [← HE.out]; exact HRW.out) hl).more (fun b hb => ⟨Nat.le_trans (by simp; omega) hb.1, hb.2⟩)
    · obtain ⟨k, ws', hws⟩ : ∃ k ws', ws = k :: ws' := by
        cases ws with
        | nil => have := HQ.out.1; simp at this; omega
        | cons k ws' => exact ⟨k, ws', rfl⟩
      subst hws
      obtain ⟨g, off, rfl, hg, hhd⟩ := HQ.out.head
      obtain ⟨hql, hqc, _, _⟩ := HQ.out
      have HRK := Lib.hid (cl_in TV.out HIN.out (HSR.out.sw k (by simp)))
      have hst := (ltB_parts TV.out).1
      have HKEY := Lib.hid (show keyOf Tryz.prog 2 (.int .i64 k) = some (.int .i64 k) from keyOf_int_mk Tryz.underlying2 (WalkArith.wf_i64 (by have := HRK.out; omega)))
      have hpz : (0 : Int) < (n : Int) := by omega
      have h1n : (1 : Int) ≤ (n : Int) := by omega
      have HQT := Lib.hid (show if c = 1 then n - 1 = 0 ∧ Que wr w.heap.size (some ⟨g, off, none⟩) 0 0 ws' else Que wr w.heap.size (some ⟨g, off + 1, none⟩) (n - 1) (c - 1) ws' from Que.tail (by rw [show n - 1 + 1 = n by omega]; exact HQ.out))
      have hlk := fun (v : Bool) (hv : decide (k ∈ ks) = v) => look_bool (x := v) HM.out law Tryz.underlying106 Tryz.underlying4 (zeroBo _) HKEY.out (by rw [HSE.out.val, hv])
      have HLK := Lib.hid hlk
      clear hlk hst hql
      by_cases hc1 : c = 1
      · subst hc1
        have HQ3 := Lib.hid (show Que wr w.heap.size (some ⟨g, off, none⟩) 0 0 ws' from by have h := HQT.out; rw [if_pos rfl] at h; exact h.2)
        have hn1 : n = 1 := by omega
        subst hn1
        by_cases hk : k ∈ ks
        · have hl1 := HLK.out true (decide_eq_true hk)
          have HS2 := Lib.hid (HSR.out.skip hk)
          clear hk
          go_wp2
          go_roundw
          case rel => exact ⟨ks, ws', Dm, _, 0, 0, rfl, HS2, HSE, HM, HQ3, HB, by omega⟩
          case measure => simp [qLen]; try omega
        · have hl1 := HLK.out false (decide_eq_false hk)
          have HS2 := Lib.hid (HSR.out.step hk (fun t => mem_suc0 (x := x) (k := k) (t := t)))
          have HSE2 := Lib.hid (HSE.out.put (HM.out.tidy law) hk)
          have HK2 := gs_len TV.out HIN.out HS2.out
          have hkl : (ks ++ [k]).length = ks.length + 1 := by simp
          clear hk
          go_wp2_with (first
            | (at_mapUpdate; refine wpList_mapUpdate_own _ rfl _ _ _ 106 rfl 2 4 law Tryz.underlying106 _ w.heap.size ks.length Dm rfl HM.out (by unfold maxLen; omega) _ _ (.int .i64 k) rfl rfl HKEY.out _ [] (plainElem_bool Tryz.underlying4 true) ?_; intro w2 hmap2 hg2; have HM2 := Lib.hid hmap2; have HQ4 := Lib.hid (que_map HQ3.out HM.out hg2); have HB2 := Lib.hid (HB.out.grown hg2 hsz (fun j hj => by cases hj; exact Nat.le_refl _)); clear hmap2 hg2)
            | (go_at_call 63; refine (CN.out _ _ HB2.out).mono ?_; rintro e w3 ⟨A5, c5, rfl, hO, hb3⟩; have HO5 := Lib.hid hO; have HB3 := Lib.hid (HB2.out.trans (hb3.mono HB2.out.size)); have HQ5 := Lib.hid (HQ4.out.keep hb3); have HM3 := Lib.hid (owns_bel HM2.out hb3); have hx300 := HNX.out k; clear hO hb3)
            | (at_builtin; refine wpList_append_que rfl _ _ rfl (lo := w.heap.size) (A := (some ⟨g, off, none⟩)) (n := 0) (c := 0) (ws := ws') rfl HQ5.out HB3.out.size (A2 := A5) (m := (sucE x k 0).length) (c2 := c5) (news := sucE x k 0) rfl HO5.out.lrow rfl (by omega) ?_; intro A6 c6 w6 hq6 hb6 hk6; have HQ6 := Lib.hid hq6; have HB6 := Lib.hid (HB3.out.trans hb6); have HM6 := Lib.hid (owns_kpt HM3.out hk6); clear hq6 hb6 hk6))
          have HMN2 := Lib.hid (show mapSize w6 w.heap.size = ks.length + 1 by rw [mapN HM6.out, HSE2.out.size, hkl])
          have HQ6 := Lib.hid (show Que w6 w.heap.size A6 (sucE x k 0).length c6 (ws' ++ sucE x k 0) from by have h := HQ6.out; rwa [Nat.zero_add] at h)
          go_roundw
          case rel => exact ⟨ks ++ [k], ws' ++ sucE x k 0, _, A6, _, c6, rfl, HS2, HSE2, by rw [hkl]; exact HM6, HQ6, HB6, by rw [hkl]; omega⟩
          case measure =>
            have h1 := HMN.out
            have h2 := HMN2.out
            have h3 := HNX.out k
            simp only [h1, h2]
            simp [qLen]
            omega
      · have hc2 : ¬ c - 1 = 0 := by omega
        have HQ3 := Lib.hid (show Que wr w.heap.size (some ⟨g, off + 1, none⟩) (n - 1) (c - 1) ws' from by have h := HQT.out; rw [if_neg hc1] at h; exact h)
        by_cases hk : k ∈ ks
        · have hl1 := HLK.out true (decide_eq_true hk)
          have HS2 := Lib.hid (HSR.out.skip hk)
          clear hk
          go_wp2
          go_roundw
          case rel => exact ⟨ks, ws', Dm, _, (n - 1), (c - 1), rfl, HS2, HSE, HM, HQ3, HB, by omega⟩
          case measure => simp [qLen]; try omega
        · have hl1 := HLK.out false (decide_eq_false hk)
          have HS2 := Lib.hid (HSR.out.step hk (fun t => mem_suc0 (x := x) (k := k) (t := t)))
          have HSE2 := Lib.hid (HSE.out.put (HM.out.tidy law) hk)
          have HK2 := gs_len TV.out HIN.out HS2.out
          have hkl : (ks ++ [k]).length = ks.length + 1 := by simp
          clear hk
          go_wp2_with (first
            | (at_mapUpdate; refine wpList_mapUpdate_own _ rfl _ _ _ 106 rfl 2 4 law Tryz.underlying106 _ w.heap.size ks.length Dm rfl HM.out (by unfold maxLen; omega) _ _ (.int .i64 k) rfl rfl HKEY.out _ [] (plainElem_bool Tryz.underlying4 true) ?_; intro w2 hmap2 hg2; have HM2 := Lib.hid hmap2; have HQ4 := Lib.hid (que_map HQ3.out HM.out hg2); have HB2 := Lib.hid (HB.out.grown hg2 hsz (fun j hj => by cases hj; exact Nat.le_refl _)); clear hmap2 hg2)
            | (go_at_call 63; refine (CN.out _ _ HB2.out).mono ?_; rintro e w3 ⟨A5, c5, rfl, hO, hb3⟩; have HO5 := Lib.hid hO; have HB3 := Lib.hid (HB2.out.trans (hb3.mono HB2.out.size)); have HQ5 := Lib.hid (HQ4.out.keep hb3); have HM3 := Lib.hid (owns_bel HM2.out hb3); have hx300 := HNX.out k; clear hO hb3)
            | (at_builtin; refine wpList_append_que rfl _ _ rfl (lo := w.heap.size) (A := (some ⟨g, off + 1, none⟩)) (n := (n - 1)) (c := (c - 1)) (ws := ws') rfl HQ5.out HB3.out.size (A2 := A5) (m := (sucE x k 0).length) (c2 := c5) (news := sucE x k 0) rfl HO5.out.lrow rfl (by omega) ?_; intro A6 c6 w6 hq6 hb6 hk6; have HQ6 := Lib.hid hq6; have HB6 := Lib.hid (HB3.out.trans hb6); have HM6 := Lib.hid (owns_kpt HM3.out hk6); clear hq6 hb6 hk6))
          have HMN2 := Lib.hid (show mapSize w6 w.heap.size = ks.length + 1 by rw [mapN HM6.out, HSE2.out.size, hkl])
          go_roundw
          case rel => exact ⟨ks ++ [k], ws' ++ sucE x k 0, _, A6, _, c6, rfl, HS2, HSE2, by rw [hkl]; exact HM6, HQ6, HB6, by rw [hkl]; omega⟩
          case measure =>
            have h1 := HMN.out
            have h2 := HMN2.out
            have h3 := HNX.out k
            simp only [h1, h2]
            simp [qLen]
            omega
set_option maxRecDepth 100000 in
set_option maxHeartbeats 2000000 in
theorem closureOf_any (x : Lt) (A1 A2 : Option Addr) (c1 c2 : Nat) (B : Option Addr) (n d : Nat) (st : List Int) (w : World) (S S2 : Nat → Prop) (h1 : LRow txtR w S A1 x.ls) (h2 : LRow edR w S A2 x.es) (hS : ∀ b, S b → b < w.heap.size) (tv : ltB x = true) (hr : LRow intR w S2 B st) (hS2 : ∀ b, S2 b → b < w.heap.size) (l : st.length = n) (m : n ≤ 100000) (hin : inSt x st) :
    Calls Tryz.prog 36 #[ltCells x A1 A2 c1 c2, .slice B n d] w fun e w' => ∃ A c, e = .returned (.slice A (cloL x st).length c) ∧ OL intO 2 w' (In w.heap.size w'.heap.size) A (cloL x st).length c (cloL x st) ∧ Below w.heap.size w w' := by
  have HB := Lib.hid (fun o : Obj => (Below.refl w.heap.size w).alloc (Nat.le_refl _) o)
  have CC := Lib.hid (fun (W : World) (hW : Below w.heap.size w W) (y : Box4 W w.heap.size x A1 A2 c1 c2) => closed_any x w.heap.size A1 A2 c1 c2 B n d st W S S2 y (h1.keep (SameOn.of_below hW hS)) (h2.keep (SameOn.of_below hW hS)) (fun b hb => Nat.lt_of_lt_of_le (hS b hb) hW.size) tv (LRow.keep (F := intR) hr (SameOn.of_below hW hS2)) (fun b hb => Nat.lt_of_lt_of_le (hS2 b hb) hW.size) l m hin)
  clear h1 h2 hS tv hr hS2 l hin
  go_enter Tryz.func36, Tryz.ntmps36
  go_wp2_with fail
  refine (CC.out _ (HB.out _) ⟨by simp [go_sem], by simp [go_sem], by simp [go_sem], by simp [go_sem]⟩).mono ?_
  rintro e w4 ⟨A, c, rfl, hO, hb4⟩
  have HB4 := Lib.hid ((HB.out _).trans (hb4.mono (HB.out _).size))
  have HO := Lib.hid (hO.more (S' := In w.heap.size w4.heap.size) (fun b hb => ⟨Nat.le_trans (by simp) hb.1, hb.2⟩))
  clear hb4 hO
  go_wp2
  go_ret
  exact ⟨A, c, rfl, HO.out, HB4.out⟩
set_option maxRecDepth 100000 in
set_option maxHeartbeats 2000000 in
theorem implIc_any {x : Lt} {cs : List Value} {B : Option Addr} {p : List Int} {w : World} {S S2 : Nat → Prop} (h : ltR.R w S x cs) (hp : LRow intR w S2 B p) (hS : ∀ b, S b → b < w.heap.size) (hS2 : ∀ b, S2 b → b < w.heap.size) (ok : okLt x) (okp : okList okAny p) (ht : TxtTabs w) :
    Calls Tryz.prog 11 #[.agg cs.toArray, .slice B p.length p.length] w fun e w' => ∃ A c, e = .returned (.tuple #[.slice A (icR x p).length c, .int .i64 (icC x p)]) ∧ OL intO 2 w' (In w.heap.size w'.heap.size) A (icR x p).length c (icR x p) ∧ Below w.heap.size w w' := by
  obtain ⟨A1, c1, A2, c2, rfl, ⟨_, _, r1⟩, ⟨_, _, r2⟩⟩ := h
  have HB := Lib.hid (fun o : Obj => (Below.refl w.heap.size w).alloc (Nat.le_refl _) o)
  have CF := Lib.hid (fun (W : World) (hW : Below w.heap.size w W) => statesFault_any x A1 A2 c1 c2 B p.length p.length p W S S2 (r1.keep (SameOn.of_below hW hS)) (r2.keep (SameOn.of_below hW hS)) (fun b hb => Nat.lt_of_lt_of_le (hS b hb) hW.size) (hp.keep (SameOn.of_below hW hS2)) (fun b hb => Nat.lt_of_lt_of_le (hS2 b hb) hW.size) rfl okp.1 ok (ht.below hW))
  have CC := Lib.hid (fun (tv : ltB x = true) (hin : inSt x p) (hl : p.length ≤ 40) (W : World) (hW : Below w.heap.size w W) => closureOf_any x A1 A2 c1 c2 B p.length p.length p W S S2 (r1.keep (SameOn.of_below hW hS)) (r2.keep (SameOn.of_below hW hS)) (fun b hb => Nat.lt_of_lt_of_le (hS b hb) hW.size) tv (hp.keep (SameOn.of_below hW hS2)) (fun b hb => Nat.lt_of_lt_of_le (hS2 b hb) hW.size) rfl (by omega) hin)
  clear r1 r2 hS ok hp hS2 okp ht
  go_enter Tryz.func11, Tryz.ntmps11
  go_wp2_with fail
  refine (CF.out _ (HB.out _)).mono ?_
  rintro e w2 ⟨rfl, hb2⟩
  have hs2 := hb2.size
  simp at hs2
  obtain ⟨hcc, _⟩ := bcell hb2
  have HB2 := Lib.hid ((HB.out _).trans (hb2.mono (HB.out _).size))
  have y0 : w2.cell? ⟨w.heap.size, 0, none⟩ = some (.int .i64 x.st) := (hcc _ _ (by simp)).trans (by simp [go_sem])
  have y1 : w2.cell? ⟨w.heap.size, 1, none⟩ = some (.int .i64 x.ini) := (hcc _ _ (by simp)).trans (by simp [go_sem])
  have y2 : w2.cell? ⟨w.heap.size, 2, none⟩ = some (.slice A1 x.ls.length c1) := (hcc _ _ (by simp)).trans (by simp [go_sem])
  have y3 : w2.cell? ⟨w.heap.size, 3, none⟩ = some (.slice A2 x.es.length c2) := (hcc _ _ (by simp)).trans (by simp [go_sem])
  have hpb : w.heap.size < w2.heap.size := by omega
  clear hb2 hcc hs2
  by_cases hc : icC x p = 0
  · have hne : (icC x p != 0) = false := by simp [hc]
    have HG := Lib.hid (icR_ok hc)
    have HC := Lib.hid hc
    have C2 := Lib.hid (CC.out (icC_parts hc).1 (riB_in (icC_parts hc).2) (riB_len (icC_parts hc).1 (icC_parts hc).2) w2 HB2.out)
    have HS2 := Lib.hid HB2.out.size
    clear hc
    go_wp2_with (go_at_call 36; refine (C2.out).mono ?_; rintro e w4 ⟨A, c, rfl, hO, hb4⟩; have HB4 := Lib.hid (HB2.out.trans (hb4.mono HB2.out.size)); have HO := Lib.hid (hO.more (S' := In w.heap.size w4.heap.size) (fun b hb => ⟨Nat.le_trans HS2.out hb.1, hb.2⟩)); clear hb4 hO)
    go_ret2
    exact ⟨A, c, by (rw [HG.out, HC.out]; rfl), by rw [HG.out]; exact HO.out, HB4.out⟩
  · have hne : (icC x p != 0) = true := by simp [hc]
    have HG := Lib.hid (icR_no hc)
    clear hc
    go_wp2
    go_ret2
    exact ⟨none, 0, by rw [HG.out]; rfl, by rw [HG.out]; exact OL.nil, HB2.out⟩
end Go.Proofs.YtbailpfjgjcbdaaGreatDoor
