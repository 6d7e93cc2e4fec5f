/- States behind traces: the model's function. -/
import Derived.StillTailTactics
import Derived.Test.YtbailpfjgjcbdaaGreatDoorAfN
import Derived.Test.YtbailpfjgjcbdaaGreatDoorAfF
namespace Go.Proofs.YtbailpfjgjcbdaaGreatDoor
open Go.RowKit
set_option linter.unusedVariables false
set_option linter.unusedSimpArgs false
set_option maxRecDepth 100000 in
set_option maxHeartbeats 4000000 in
theorem l12Visible_any (A : Option Addr) (n c : Nat) (xs : List ByteArray) (w : World) (S : Nat → Prop) (h : LRow txtR w S A xs) (l : xs.length = n) (m : n ≤ 1048576) (hS : ∀ b, S b → b < w.heap.size) (ok : ∀ x ∈ xs, okTx x) :
    Calls Tryz.prog 39 #[.slice A n c] w fun e w' => e = .returned (.bool (xs.all visB)) ∧ Below w.heap.size w w' := by
  have L := Lib.hid l
  have HR := Lib.hid h
  have HS := Lib.hid hS
  have OK := Lib.hid ok
  clear h l hS ok
  go_enter Tryz.func39, Tryz.ntmps39
  go_wp2
  go_loopw [3] (fun i wr => ∃ k : Nat, k ≤ n ∧ i = .int .i64 k ∧ Hid (Below w.heap.size w wr) ∧ Hid ((xs.take k).all visB = true)) (fun i _ => n - (intOf i).toNat)
  case atStart => exact ⟨0, Nat.zero_le _, rfl, Lib.hid (Below.refl _ _), Lib.hid rfl⟩
  case round =>
    obtain ⟨k, hk, rfl, HB, HE⟩ := hrel
    have hsz := HB.out.size
    by_cases hlt : k < n
    · obtain ⟨b, o, cs, u, rfl, hb, hR, hu, hc⟩ := (HR.out.keep (SameOn.of_below HB.out HS.out)).at_ (k := k) (by rw [L.out]; exact hlt)
      obtain ⟨rfl, _⟩ := hR
      have r0 : wr.cell? ⟨b, o + k, none⟩ = some (.string u) := by have := hc 0 _ rfl; simpa [txtR] using this
      have lb := World.block_lt_of_cell? wr _ r0
      have CL := Lib.hid (specLabel_any u wr (OK.out u (List.mem_of_getElem? hu.out)))
      have HLV := Lib.hid (show (lvR u.data.toList).2 = labB u from rfl)
      have hTv : (u.toList == [116, 97, 117]) = isT u := rfl
      clear hc
      rcases ta : labB u with _ | _
      · have HF := Lib.hid (all_false (p := visB) hu.out (by unfold visB; rw [ta]; rfl))
        have TA := Lib.hid ta
        clear ta hTv
        go_wp2_with (go_at_call 67; refine (CL.out).mono ?_; rw [HLV.out, TA.out]; rintro e w3 ⟨rfl, hb3⟩; have HB3 := Lib.hid (HB.out.trans (hb3.mono hsz)); clear hb3)
        go_ret
        exact ⟨by rw [HF.out]; rfl, HB3.out⟩
      · have TA := Lib.hid ta
        rcases tt : isT u with _ | _
        · have HN := Lib.hid (all_take_next (p := visB) HE.out hu.out (by unfold visB; rw [ta, tt]; rfl))
          rw [tt] at hTv
          clear ta tt
          go_wp2_with (go_at_call 67; refine (CL.out).mono ?_; rw [HLV.out, TA.out]; rintro e w3 ⟨rfl, hb3⟩; have r3 := (hb3.cell (p := ⟨b, o + k, none⟩) lb).trans r0; have lb3 := Nat.lt_of_lt_of_le lb hb3.size; have HB3 := Lib.hid (HB.out.trans (hb3.mono hsz)); clear hb3)
          go_roundw
          case rel => exact ⟨k + 1, by omega, by go_num, HB3, HN⟩
          case measure => simp [intOf]; omega
        · have HF := Lib.hid (all_false (p := visB) hu.out (by unfold visB; rw [ta, tt]; rfl))
          rw [tt] at hTv
          clear ta tt
          go_wp2_with (go_at_call 67; refine (CL.out).mono ?_; rw [HLV.out, TA.out]; rintro e w3 ⟨rfl, hb3⟩; have r3 := (hb3.cell (p := ⟨b, o + k, none⟩) lb).trans r0; have lb3 := Nat.lt_of_lt_of_le lb hb3.size; have HB3 := Lib.hid (HB.out.trans (hb3.mono hsz)); clear hb3)
          go_ret
          exact ⟨by rw [HF.out]; rfl, HB3.out⟩
    · have HF := Lib.hid (show xs.all visB = true by
        have ht := HE.out
        rwa [List.take_of_length_le (by rw [L.out]; omega)] at ht)
      go_wp2
      go_ret
      exact ⟨by rw [HF.out]; rfl, HB.out⟩
set_option maxRecDepth 100000 in
set_option maxHeartbeats 4000000 in
theorem l12After_any (x : Lt) (p : Nat) (A1 A2 : Option Addr) (c1 c2 N : Nat) (B : Option Addr) (n d : Nat) (tr : List ByteArray) (w : World) (S S2 : Nat → Prop) (y0 : w.cell? ⟨p, 0, none⟩ = some (.int .i64 x.st)) (y1 : w.cell? ⟨p, 1, none⟩ = some (.int .i64 x.ini)) (y2 : w.cell? ⟨p, 2, none⟩ = some (.slice A1 x.ls.length c1)) (y3 : w.cell? ⟨p, 3, none⟩ = some (.slice A2 x.es.length c2)) (h1 : LRow txtR w S A1 x.ls) (h2 : LRow edR w S A2 x.es) (hS : ∀ b, S b → b < w.heap.size) (hr : LRow txtR w S2 B tr) (l : tr.length = n) (m : n ≤ 1048576) (hS2 : ∀ b, S2 b → b < w.heap.size) (ok : okLt x) (tv : ltB x = true) (hN : x.st = (N : Int)) :
    Calls Tryz.prog 40 #[.pointer (some ⟨p, 0, none⟩), .slice B n d] w fun e w' => ∃ A c, e = .returned (.slice A (aftT x tr).length c) ∧ OL intO 2 w' (In w.heap.size w'.heap.size) A (aftT x tr).length c (aftT x tr) ∧ Below w.heap.size w w' := by
  have hp := World.block_lt_of_cell? w _ y0
  have M1 := ok.1.1
  have C1 := Lib.hid (l12First_any x p A2 c2 N w S y0 y1 y3 h2 hS tv hN)
  have Y := Lib.hid (fun (W : World) (hW : Below w.heap.size w W) => (⟨(hW.cell (p := ⟨p, 2, none⟩) hp).trans y2, Nat.lt_of_lt_of_le hp hW.size⟩ : W.cell? ⟨p, 2, none⟩ = some (.slice A1 x.ls.length c1) ∧ p < W.heap.size))
  have CF := Lib.hid (fun (u : ByteArray) (W : World) (hW : Below w.heap.size w W) => l11FindQ_any A1 x.ls.length c1 x.ls u W S (h1.keep (SameOn.of_below hW hS)) rfl M1 (fun b hb => Nat.lt_of_lt_of_le (hS b hb) hW.size))
  have CN := Lib.hid (fun (A : Option Addr) (k c : Nat) (ss : List Int) (nl : Int) (W : World) (hW : Below w.heap.size w W) (S' : Nat → Prop) (hr : LRow intR W S' A ss) (hS' : ∀ b, S' b → b < W.heap.size) (hl : ss.length = k) (hk : k ≤ 40) => l12Next_any x p A2 c2 N A k c ss nl W S S' ((hW.cell (p := ⟨p, 0, none⟩) hp).trans y0) ((hW.cell (p := ⟨p, 3, none⟩) hp).trans y3) (h2.keep (SameOn.of_below hW hS)) (fun b hb => Nat.lt_of_lt_of_le (hS b hb) hW.size) hr hl (by omega) hS' tv hN)
  have HR := Lib.hid hr
  have HS2 := Lib.hid hS2
  have L := Lib.hid l
  have TV := Lib.hid tv
  clear y0 y1 y2 y3 h1 h2 hS hr hS2 l ok tv hN
  go_enter Tryz.func40, Tryz.ntmps40
  go_wp2_with fail
  refine (C1.out).mono ?_
  rintro e w2 ⟨A, c, rfl, hO, hb2⟩
  have HO2 := Lib.hid hO
  have HB2 := Lib.hid hb2
  clear hO hb2 C1
  go_wp2
  go_loopw [5, 6] (fun v i wr => ∃ (j k : Nat) (A : Option Addr) (c : Nat), j ≤ n ∧ i = .int .i64 (j : Int) ∧ v = .slice A k c ∧ Hid (k = (aftT x (tr.take j)).length) ∧ Hid (OL intO 2 wr (In w.heap.size wr.heap.size) A k c (aftT x (tr.take j))) ∧ Hid (Below w.heap.size w wr)) (fun _ i _ => n - (intOf i).toNat)
  case atStart => exact ⟨0, _, _, _, Nat.zero_le _, rfl, rfl, Lib.hid rfl, HO2, HB2⟩
  case round =>
    clear HO2 HB2
    obtain ⟨j, k, A, c, hj, rfl, rfl, HK, HO, HB⟩ := hrel
    have hsz := HB.out.size
    have hk40 : k ≤ 40 := by rw [HK.out]; exact aftT_40 TV.out _
    obtain ⟨z2, hpr⟩ := Y.out _ HB.out
    by_cases hlt : j < n
    · rcases Nat.eq_zero_or_pos k with h0 | h0
      · subst h0
        have HD := Lib.hid (show aftT x tr = [] from aftT_dead (List.eq_nil_of_length_eq_zero HK.out.symm))
        have HE := Lib.hid (show aftT x (tr.take j) = [] from List.eq_nil_of_length_eq_zero HK.out.symm)
        go_wp2
        go_ret
        refine ⟨A, c, by rw [HD.out]; rfl, ?_, HB.out⟩
        have h := HO.out
        rw [HE.out] at h
        rw [HD.out]
        exact h
      · obtain ⟨b, o, cs, u, rfl, hb, hR, hu, hc⟩ := (HR.out.keep (SameOn.of_below HB.out HS2.out)).at_ (k := j) (by rw [L.out]; exact hlt)
        obtain ⟨rfl, _⟩ := hR
        have r0 : wr.drew.cell? ⟨b, o + j, none⟩ = some (.string u) := by have := hc 0 _ rfl; simpa [txtR] using this
        have q2 : wr.drew.cell? ⟨p, 2, none⟩ = some (.slice A1 x.ls.length c1) := z2
        have hkp : (0 : Int) < (k : Int) := by omega
        have HX := Lib.hid (aftT_next (x := x) hu.out)
        have HBD := Lib.hid (HB.out.drew)
        have CF1 := CF.out u wr.drew HBD.out
        have CN1 := Lib.hid (CN.out A k c (aftT x (tr.take j)) (fndI x.ls u) wr.drew HBD.out _ (HO.out.lrow) (fun b hb => hb.2) HK.out.symm hk40)
        have HSS := Lib.hid HBD.out.size
        clear hc z2
        go_wp2
        refine wp_region_still_tail 11 (by kernel_rfl) (by kernel_rfl) ?_
        simp only [List.take_succ_cons, List.take_zero, List.drop_succ_cons, List.drop_zero]
        repeat still_step
        still_call CF1
        repeat still_step
        refine wpStill_nil ?_
        change wpList _ _ _ _ _ wr.drew
        go_wp2_with (go_at_call 69; refine (CN1.out).mono ?_; rintro e w4 ⟨A4, c4, rfl, hO4, hb4⟩; have HB4 := Lib.hid (HBD.out.trans (hb4.mono HSS.out)); have HO4 := Lib.hid (hO4.more (S' := In w.heap.size w4.heap.size) (fun b hb => ⟨Nat.le_trans HSS.out hb.1, hb.2⟩)); clear hb4 hO4)
        go_roundw
        case rel => exact ⟨j + 1, _, A4, c4, by omega, by go_num, rfl, Lib.hid (by rw [HX.out]), Lib.hid (by rw [HX.out]; exact HO4.out), HB4⟩
        case measure => simp [intOf]; omega
    · have HE := Lib.hid (show tr.take j = tr from List.take_of_length_le (by rw [L.out]; omega))
      go_wp2
      go_ret
      have h1 := HK.out
      have h2 := HO.out
      rw [HE.out] at h1 h2
      subst h1
      exact ⟨A, c, rfl, h2, HB.out⟩
set_option maxRecDepth 100000 in
set_option maxHeartbeats 4000000 in
theorem specAf_any {x : Lt} {cs : List Value} {B : Option Addr} {d : Nat} {tr : List ByteArray} {w : World} {S S2 : Nat → Prop} (h : ltR.R w S x cs) (hp : LRow txtR w S2 B tr) (hS : ∀ b, S b → b < w.heap.size) (hS2 : ∀ b, S2 b → b < w.heap.size) (ok : okLt x) (okp : okList okTx tr) :
    Calls Tryz.prog 18 #[.agg cs.toArray, .slice B tr.length d] w fun e w' => ∃ A c, e = .returned (.tuple #[.slice A (afR x tr).length c, .int .i64 (afC x tr)]) ∧ OL intO 2 w' (In w.heap.size w'.heap.size) A (afR x tr).length c (afR x tr) ∧ Below w.heap.size w w' := by
  obtain ⟨A1, c1, A2, c2, rfl, ⟨_, _, r1⟩, ⟨_, _, r2⟩⟩ := h
  have HB := Lib.hid (fun o : Obj => (Below.refl w.heap.size w).alloc (Nat.le_refl _) o)
  have C := Lib.hid (fun (W : World) (hW : Below w.heap.size w W) (q : Nat) (y0 : W.cell? ⟨q, 0, none⟩ = some (.int .i64 x.st)) (y1 : W.cell? ⟨q, 1, none⟩ = some (.int .i64 x.ini)) (y2 : W.cell? ⟨q, 2, none⟩ = some (.slice A1 x.ls.length c1)) (y3 : W.cell? ⟨q, 3, none⟩ = some (.slice A2 x.es.length c2)) => l11Is_any x q A1 A2 c1 c2 W S y0 y1 y2 y3 (r1.keep (SameOn.of_below hW hS)) (r2.keep (SameOn.of_below hW hS)) (fun b hb => Nat.lt_of_lt_of_le (hS b hb) hW.size) ok)
  have CV := Lib.hid (fun (W : World) (hW : Below w.heap.size w W) => l12Visible_any B tr.length d tr W S2 (hp.keep (SameOn.of_below hW hS2)) rfl okp.1 (fun b hb => Nat.lt_of_lt_of_le (hS2 b hb) hW.size) okp.2)
  have CA := Lib.hid (fun (tv : ltB x = true) (N : Nat) (hN : x.st = (N : Int)) (W : World) (hW : Below w.heap.size w W) (y0 : W.cell? ⟨w.heap.size, 0, none⟩ = some (.int .i64 x.st)) (y1 : W.cell? ⟨w.heap.size, 1, none⟩ = some (.int .i64 x.ini)) (y2 : W.cell? ⟨w.heap.size, 2, none⟩ = some (.slice A1 x.ls.length c1)) (y3 : W.cell? ⟨w.heap.size, 3, none⟩ = some (.slice A2 x.es.length c2)) => l12After_any x w.heap.size A1 A2 c1 c2 N B tr.length d tr W S S2 y0 y1 y2 y3 (r1.keep (SameOn.of_below hW hS)) (r2.keep (SameOn.of_below hW hS)) (fun b hb => Nat.lt_of_lt_of_le (hS b hb) hW.size) (hp.keep (SameOn.of_below hW hS2)) rfl okp.1 (fun b hb => Nat.lt_of_lt_of_le (hS2 b hb) hW.size) ok tv hN)
  clear r1 r2 hS ok hp hS2 okp
  go_enter Tryz.func18, Tryz.ntmps18
  go_wp2_with fail
  refine (C.out _ (HB.out _) w.heap.size (by simp [go_sem]) (by simp [go_sem]) (by simp [go_sem]) (by simp [go_sem])).mono ?_
  rintro e w2 ⟨rfl, hb2⟩
  have hs2 := hb2.size
  simp at hs2
  obtain ⟨hcc, _⟩ := bcell hb2
  have HB2 := Lib.hid ((HB.out _).trans (hb2.mono (HB.out _).size))
  have y0 : w2.cell? ⟨w.heap.size, 0, none⟩ = some (.int .i64 x.st) := (hcc _ _ (by simp)).trans (by simp [go_sem])
  have y1 : w2.cell? ⟨w.heap.size, 1, none⟩ = some (.int .i64 x.ini) := (hcc _ _ (by simp)).trans (by simp [go_sem])
  have y2 : w2.cell? ⟨w.heap.size, 2, none⟩ = some (.slice A1 x.ls.length c1) := (hcc _ _ (by simp)).trans (by simp [go_sem])
  have y3 : w2.cell? ⟨w.heap.size, 3, none⟩ = some (.slice A2 x.es.length c2) := (hcc _ _ (by simp)).trans (by simp [go_sem])
  have hpb : w.heap.size < w2.heap.size := by omega
  clear hb2 hcc hs2
  rcases tv : ltB x with _ | _
  · have HF := Lib.hid (afC_inv (tr := tr) tv)
    have HG := Lib.hid (afR_no (x := x) (tr := tr) (by rw [HF.out]; decide))
    clear tv
    go_wp2
    go_ret2
    exact ⟨none, 0, by rw [HF.out, HG.out]; rfl, by rw [HG.out]; exact OL.nil, HB2.out⟩
  · have hst := (ltB_parts tv).1
    obtain ⟨N, hN⟩ : ∃ N : Nat, x.st = (N : Int) := ⟨x.st.toNat, by omega⟩
    have HTV := Lib.hid tv
    have HNX := Lib.hid hN
    have CV2 := Lib.hid (CV.out w2 HB2.out)
    clear tv hst hN
    rcases tr' : tr.all visB with _ | _
    · have HF := Lib.hid (afC_rng HTV.out tr')
      have HG := Lib.hid (afR_no (x := x) (tr := tr) (by rw [HF.out]; decide))
      rw [tr'] at CV2
      clear tr'
      go_wp2_with (go_at_call 39; refine (CV2.out).mono ?_; rintro e w3 ⟨rfl, hb3⟩; have HB3 := Lib.hid (HB2.out.trans (hb3.mono HB2.out.size)); clear hb3)
      go_ret2
      exact ⟨none, 0, by rw [HF.out, HG.out]; rfl, by rw [HG.out]; exact OL.nil, HB3.out⟩
    · have HTR := Lib.hid tr'
      rw [tr'] at CV2
      clear tr'
      go_wp2_with fail
      refine (CV2.out).mono ?_
      rintro e w3 ⟨rfl, hb3⟩
      have HB3 := Lib.hid (HB2.out.trans (hb3.mono HB2.out.size))
      have C3 := Lib.hid (CA.out HTV.out N HNX.out w3 HB3.out ((hb3.cell (p := ⟨w.heap.size, 0, none⟩) hpb).trans y0) ((hb3.cell (p := ⟨w.heap.size, 1, none⟩) hpb).trans y1) ((hb3.cell (p := ⟨w.heap.size, 2, none⟩) hpb).trans y2) ((hb3.cell (p := ⟨w.heap.size, 3, none⟩) hpb).trans y3))
      have HS3 := Lib.hid HB3.out.size
      clear hb3 y0 y1 y2 y3 CV2
      obtain ⟨ss, hss⟩ : ∃ ss, ss = aftT x tr := ⟨_, rfl⟩
      rw [← hss] at C3
      by_cases h0 : ss.length = 0
      · have HF := Lib.hid (afC_not HTV.out HTR.out (by rw [← hss]; exact h0))
        have HG := Lib.hid (afR_no (x := x) (tr := tr) (by rw [HF.out]; decide))
        rw [h0] at C3
        clear h0 hss
        go_wp2_with (go_at_call 40; refine (C3.out).mono ?_; rintro e w4 ⟨A, c, rfl, hO, hb4⟩; have HB4 := Lib.hid (HB3.out.trans (hb4.mono HB3.out.size)); clear hb4 hO)
        go_ret2
        exact ⟨none, 0, by rw [HF.out, HG.out]; rfl, by rw [HG.out]; exact OL.nil, HB4.out⟩
      · have HF := Lib.hid (afC_ok HTV.out HTR.out (by rw [← hss]; exact h0))
        have HG := Lib.hid (show afR x tr = ss by rw [afR_ok HF.out, hss])
        have hne : ((ss.length : Int) == 0) = false := beq_eq_false_iff_ne.2 (by omega)
        clear h0 hss
        go_wp2_with (go_at_call 40; refine (C3.out).mono ?_; rintro e w4 ⟨A, c, rfl, hO, hb4⟩; have HB4 := Lib.hid (HB3.out.trans (hb4.mono HB3.out.size)); have HO := Lib.hid (hO.more (S' := In w.heap.size w4.heap.size) (fun b hb => ⟨Nat.le_trans HS3.out hb.1, hb.2⟩)); clear hb4 hO)
        go_ret2
        exact ⟨A, c, by (rw [HG.out, HF.out]; rfl), by rw [HG.out]; exact HO.out, HB4.out⟩
end Go.Proofs.YtbailpfjgjcbdaaGreatDoor
