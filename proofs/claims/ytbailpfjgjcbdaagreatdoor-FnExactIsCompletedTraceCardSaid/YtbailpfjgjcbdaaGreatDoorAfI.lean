/- States behind traces: the program's function. -/
import Derived.Test.YtbailpfjgjcbdaaGreatDoorAfP
namespace Go.Proofs.YtbailpfjgjcbdaaGreatDoor
open Go.RowKit
set_option linter.unusedVariables false
set_option linter.unusedSimpArgs false
theorem one_rowI {W : World} {g : Nat} {i : Int} (hg : g < W.heap.size) (z : W.cell? ⟨g, 0, none⟩ = some (.int .i64 i)) : LRow intR W (· < W.heap.size) (some ⟨g, 0, none⟩) [i] :=
  ⟨[.int .i64 i], fun _ => ⟨g, 0, rfl, hg, fun j v hj => by
    match j, hj with
    | 0, hj => injection hj with hj; subst hj; exact z⟩, rfl, fun j y hy => by
    match j, hy with
    | 0, hy => injection hy with hy; subst hy; rfl⟩
set_option maxRecDepth 100000 in
set_option maxHeartbeats 4000000 in
theorem implAf_any {x : Lt} {cs : List Value} {B : Option Addr} {d : Nat} {tr : List ByteArray} {w : World} {S S2 : Nat → Prop} (h : ltR.R w S x cs) (hp : LRow txtR w S2 B tr) (hS : ∀ b, S b → b < w.heap.size) (hS2 : ∀ b, S2 b → b < w.heap.size) (ok : okLt x) (okp : okList okTx tr) (ht : TxtTabs w) :
    Calls Tryz.prog 20 #[.agg cs.toArray, .slice B tr.length d] w fun e w' => ∃ A c, e = .returned (.tuple #[.slice A (afR x tr).length c, .int .i64 (afC x tr)]) ∧ OL intO 2 w' (In w.heap.size w'.heap.size) A (afR x tr).length c (afR x tr) ∧ Below w.heap.size w w' := by
  obtain ⟨A1, c1, A2, c2, rfl, ⟨_, _, r1⟩, ⟨_, _, r2⟩⟩ := h
  have HB := Lib.hid (fun o : Obj => (Below.refl w.heap.size w).alloc (Nat.le_refl _) o)
  have hle := okp.1
  have CV0 := Lib.hid (fun (W : World) (hW : Below w.heap.size w W) => implValidC_any x A1 A2 c1 c2 W S (r1.keep (SameOn.of_below hW hS)) (r2.keep (SameOn.of_below hW hS)) (fun b hb => Nat.lt_of_lt_of_le (hS b hb) hW.size) ok (ht.below hW))
  have CV := Lib.hid (fun (W : World) (hW : Below w.heap.size w W) => conVis_any B tr.length d tr W S2 (hp.keep (SameOn.of_below hW hS2)) rfl okp.1 (fun b hb => Nat.lt_of_lt_of_le (hS2 b hb) hW.size) okp.2 (ht.below hW))
  have CC := Lib.hid (fun (tv : ltB x = true) (W : World) (hW : Below w.heap.size w W) (g : Nat) (hg : g < W.heap.size) (z : W.cell? ⟨g, 0, none⟩ = some (.int .i64 x.ini)) => closureOf_any x A1 A2 c1 c2 (some ⟨g, 0, none⟩) 1 1 [x.ini] W S (· < W.heap.size) (r1.keep (SameOn.of_below hW hS)) (r2.keep (SameOn.of_below hW hS)) (fun b hb => Nat.lt_of_lt_of_le (hS b hb) hW.size) tv (one_rowI hg z) (fun b hb => hb) rfl (by decide) (fun k hk => by rw [List.mem_singleton] at hk; subst hk; exact (ltB_parts tv).2.1))
  have CB := Lib.hid (fun (tv : ltB x = true) (u : ByteArray) (A : Option Addr) (k c : Nat) (ss : List Int) (W : World) (hW : Below w.heap.size w W) (S' : Nat → Prop) (hr : LRow intR W S' A ss) (hS' : ∀ b, S' b → b < W.heap.size) (hl : ss.length = k) (hk : k ≤ 40) => behind_any x (fndI x.ls u) u A1 A2 c1 c2 A k c ss W S S' (r1.keep (SameOn.of_below hW hS)) (r2.keep (SameOn.of_below hW hS)) (fun b hb => Nat.lt_of_lt_of_le (hS b hb) hW.size) tv (fndI_lf tv u) hr hS' hl hk)
  have HRT := Lib.hid (fun (W : World) (hW : Below w.heap.size w W) => (hp.keep (SameOn.of_below hW hS2) : LRow txtR W S2 B tr))
  clear r1 r2 hS ok hp hS2 okp ht
  go_enter Tryz.func20, Tryz.ntmps20
  go_wp2_with fail
  refine (CV0.out _ (HB.out _)).mono ?_
  rintro e w2 ⟨rfl, hb2⟩
  have hs2 := hb2.size
  simp at hs2
  obtain ⟨hcc, _⟩ := bcell hb2
  have HB2 := Lib.hid ((HB.out _).trans (hb2.mono (HB.out _).size))
  have HX2 := Lib.hid (show Box4 w2 w.heap.size x A1 A2 c1 c2 from ⟨(hcc _ _ (by simp)).trans (by simp [go_sem]), (hcc _ _ (by simp)).trans (by simp [go_sem]), (hcc _ _ (by simp)).trans (by simp [go_sem]), (hcc _ _ (by simp)).trans (by simp [go_sem])⟩)
  clear hb2 hcc
  rcases tv : ltB x with _ | _
  · have HF := Lib.hid (afC_inv (tr := tr) tv)
    have HG := Lib.hid (afR_no (x := x) (tr := tr) (by rw [HF.out]; decide))
    clear tv
    go_wp2
    go_ret2
    exact ⟨none, 0, by rw [HF.out, HG.out]; rfl, by rw [HG.out]; exact OL.nil, HB2.out⟩
  · have HTV := Lib.hid tv
    have CV2 := Lib.hid (CV.out w2 HB2.out)
    clear tv
    rcases tr' : tr.all visB with _ | _
    · have HF := Lib.hid (afC_rng HTV.out tr')
      have HG := Lib.hid (afR_no (x := x) (tr := tr) (by rw [HF.out]; decide))
      rw [tr'] at CV2
      clear tr'
      go_wp2_with (go_at_call 42; refine (CV2.out).mono ?_; rintro e w3 ⟨rfl, hb3⟩; have HB3 := Lib.hid (HB2.out.trans (hb3.mono HB2.out.size)); clear hb3)
      go_ret2
      exact ⟨none, 0, by rw [HF.out, HG.out]; rfl, by rw [HG.out]; exact OL.nil, HB3.out⟩
    · have HTR := Lib.hid tr'
      rw [tr'] at CV2
      clear tr'
      go_wp2_with fail
      refine (CV2.out).mono ?_
      rintro e w3 ⟨rfl, hb3⟩
      have HB3 := Lib.hid (HB2.out.trans (hb3.mono HB2.out.size))
      have HX3 := Lib.hid (HX2.out.next hb3)
      obtain ⟨z0, z1, z2, z3⟩ := HX3.out
      have hbx3 := HX3.out.lt
      have HA3 := Lib.hid (fun o : Obj => (HB3.out.alloc HB3.out.size o))
      have C3 := CC.out HTV.out
      clear hb3 CV2
      go_wp2_with fail
      refine (C3 _ (HA3.out _) w3.heap.size (by simp) (by simp [go_sem])).mono ?_
      rintro e w4 ⟨A, c, rfl, hO, hb4⟩
      have hs4 := hb4.size
      simp at hs4
      have HX4 := Lib.hid (show Box4 w4 w.heap.size x A1 A2 c1 c2 from (HX3.out.keep ((Below.refl w3.heap.size w3).alloc (Nat.le_refl _) _) hbx3).keep hb4 (by simp; omega))
      have HB4 := Lib.hid ((HA3.out _).trans (hb4.mono (HA3.out _).size))
      have HO4 := Lib.hid (hO.more (S' := In w.heap.size w4.heap.size) (fun b hb => ⟨Nat.le_trans (HA3.out _).size hb.1, hb.2⟩))
      clear hb4 hO z0 z1 z2 z3 C3
      go_wp2
      go_loopw [6, 23] (fun v i wr => ∃ (j k : Nat) (A : Option Addr) (c : Nat), j ≤ tr.length ∧ i = .int .i64 (j : Int) ∧ v = .slice A k c ∧ Hid (k = (aftT x (tr.take j)).length) ∧ Hid (k = 0 → j = 0) ∧ Hid (OL intO 2 wr (In w.heap.size wr.heap.size) A k c (aftT x (tr.take j))) ∧ Hid (Box4 wr w.heap.size x A1 A2 c1 c2) ∧ Hid (Below w.heap.size w wr)) (fun _ i _ => tr.length - (intOf i).toNat)
      case atStart => exact ⟨0, _, _, _, Nat.zero_le _, rfl, rfl, Lib.hid rfl, Lib.hid (fun _ => rfl), HO4, HX4, HB4⟩
      case round =>
        clear HO4 HX4 HB4 HX2 HX3 hbx3
        obtain ⟨j, k, A, c, hj, rfl, rfl, HK, HK0, HO, HX, HB⟩ := hrel
        have hsz := HB.out.size
        have hk40 : k ≤ 40 := by rw [HK.out]; exact aftT_40 HTV.out _
        obtain ⟨z0, z1, z2, z3⟩ := HX.out
        have hbx := HX.out.lt
        by_cases hlt : j < tr.length
        · obtain ⟨b, o, cs, u, rfl, hb, hR, hu, hc⟩ := (HRT.out _ HB.out).at_ (k := j) hlt
          obtain ⟨rfl, _⟩ := hR
          have r0 : wr.cell? ⟨b, o + j, none⟩ = some (.string u) := by have := hc 0 _ rfl; simpa [txtR] using this
          have lb := World.block_lt_of_cell? wr _ r0
          have HXN := Lib.hid (aftT_next (x := x) hu.out)
          have CB1 := Lib.hid (CB.out HTV.out u A k c (aftT x (tr.take j)) wr HB.out _ (HO.out.lrow) (fun b hb => hb.2) HK.out.symm hk40)
          clear hc
          obtain ⟨ss, hss⟩ : ∃ ss, ss = nexL x (aftT x (tr.take j)) (fndI x.ls u) := ⟨_, rfl⟩
          rw [← hss] at CB1
          by_cases h0 : ss.length = 0
          · have HD := Lib.hid (show (aftT x tr).length = 0 by
              have h1 : aftT x (tr.take (j + 1)) = [] := by rw [HXN.out, ← hss]; exact List.eq_nil_of_length_eq_zero h0
              rw [aftT_dead h1]; rfl)
            have HF := Lib.hid (afC_not HTV.out HTR.out HD.out)
            have HG := Lib.hid (afR_no (x := x) (tr := tr) (by rw [HF.out]; decide))
            rw [h0] at CB1
            clear h0 hss
            go_wp2_with (go_at_call 44; refine (CB1.out).mono ?_; rintro e w6 ⟨A6, c6, rfl, hO6, hb6⟩; have HB6 := Lib.hid (HB.out.trans (hb6.mono hsz)); clear hb6 hO6)
            go_ret2
            exact ⟨none, 0, by rw [HF.out, HG.out]; rfl, by rw [HG.out]; exact OL.nil, HB6.out⟩
          · have hne : ((ss.length : Int) == 0) = false := beq_eq_false_iff_ne.2 (by omega)
            have HN := Lib.hid (show aftT x (tr.take (j + 1)) = ss by rw [HXN.out, hss])
            have HNZ := Lib.hid (show ss.length = 0 → j + 1 = 0 from fun h => absurd h h0)
            clear h0 hss
            go_wp2_with (go_at_call 44; refine (CB1.out).mono ?_; rintro e w6 ⟨A6, c6, rfl, hO6, hb6⟩; have HB6 := Lib.hid (HB.out.trans (hb6.mono hsz)); have HX6 := Lib.hid (HX.out.next hb6); have HO6 := Lib.hid (hO6.more (S' := In w.heap.size w6.heap.size) (fun b hb => ⟨Nat.le_trans hsz hb.1, hb.2⟩)); clear hb6 hO6)
            go_roundw
            case rel => exact ⟨j + 1, _, A6, c6, by omega, by go_num, rfl, Lib.hid (by rw [HN.out]), HNZ, Lib.hid (by rw [HN.out]; exact HO6.out), HX6, HB6⟩
            case measure => simp [intOf]; omega
        · have HE := Lib.hid (show tr.take j = tr from List.take_of_length_le (by omega))
          have HAF := Lib.hid (show ¬ (aftT x tr).length = 0 from fun h => by
            have h1 := HK.out
            rw [HE.out, h] at h1
            have h2 := HK0.out h1
            have h3 : tr = [] := List.eq_nil_of_length_eq_zero (by omega)
            rw [h3, aftT_zero] at h
            have h4 : x.ini ∈ cloL x [x.ini] := (mem_cloL HTV.out (fun k hk => by rw [List.mem_singleton] at hk; subst hk; exact (ltB_parts HTV.out).2.1)).2 (.ini (by simp))
            rw [List.eq_nil_of_length_eq_zero h] at h4
            cases h4)
          have HF := Lib.hid (afC_ok HTV.out HTR.out HAF.out)
          have HG := Lib.hid (afR_ok HF.out)
          go_wp2
          go_ret2
          have h1 := HK.out
          have h2 := HO.out
          rw [HE.out] at h1 h2
          subst h1
          exact ⟨A, c, by rw [HF.out, HG.out]; rfl, by rw [HG.out]; exact h2, HB.out⟩
end Go.Proofs.YtbailpfjgjcbdaaGreatDoor
