/- The states behind one label: the model. -/
import Derived.Test.YtbailpfjgjcbdaaGreatDoorAfH
namespace Go.Proofs.YtbailpfjgjcbdaaGreatDoor
open Go.RowKit
set_option linter.unusedVariables false
set_option linter.unusedSimpArgs false
set_option maxRecDepth 100000 in
set_option maxHeartbeats 4000000 in
theorem l12Next_any (x : Lt) (p : Nat) (A2 : Option Addr) (c2 N : Nat) (B : Option Addr) (n d : Nat) (ss : List Int) (nl : Int) (w : World) (S S2 : Nat → Prop) (y0 : w.cell? ⟨p, 0, none⟩ = some (.int .i64 x.st)) (y3 : w.cell? ⟨p, 3, none⟩ = some (.slice A2 x.es.length c2)) (h2 : LRow edR w S A2 x.es) (hS : ∀ b, S b → b < w.heap.size) (hr : LRow intR w S2 B ss) (l : ss.length = n) (m : n ≤ 1048576) (hS2 : ∀ b, S2 b → b < w.heap.size) (tv : ltB x = true) (hN : x.st = (N : Int)) :
    Calls Tryz.prog 69 #[.pointer (some ⟨p, 0, none⟩), .slice B n d, .int .i64 nl] w fun e w' => ∃ A c, e = .returned (.slice A (nexL x ss nl).length c) ∧ OL intO 2 w' (In w.heap.size w'.heap.size) A (nexL x ss nl).length c (nexL x ss nl) ∧ Below w.heap.size w w' := by
  obtain ⟨i0, hi, hz0, hz1, hz2⟩ := info_parts (show (Tryz.prog.info? 4).map (fun i => (i.zero, i.size, i.bytes)) = some (some (.bool false), 1, 1) by kernel_rfl)
  have hp := World.block_lt_of_cell? w _ y0
  obtain ⟨hst, _, _, hm, _, hin⟩ := ltB_parts tv
  have HIN := Lib.hid (fun (e : Ed) (he : e ∈ x.es) => inE_iff.1 (List.all_eq_true.1 hin e he))
  have hN40 : N ≤ 40 := by omega
  rw [hN] at y0
  have HN := Lib.hid hN
  have Y := Lib.hid (fun (W : World) (hW : Below w.heap.size w W) => (⟨(hW.cell (p := ⟨p, 3, none⟩) hp).trans y3, Nat.lt_of_lt_of_le hp hW.size⟩ : W.cell? ⟨p, 3, none⟩ = some (.slice A2 x.es.length c2) ∧ p < W.heap.size))
  have R2 := Lib.hid h2
  have HS := Lib.hid hS
  have TV := Lib.hid tv
  have CH := Lib.hid (fun (k : Int) (W : World) (hW : Below w.heap.size w W) => l00HasL_any B n d ss k W S2 (LRow.keep (F := intR) hr (SameOn.of_below hW hS2)) l m (fun b hb => Nat.lt_of_lt_of_le (hS2 b hb) hW.size))
  clear h2 hS hin tv hst hN hr l hS2
  go_enter Tryz.func69, Tryz.ntmps69
  go_wp2_with (at_make; refine wpList_make_full _ rfl _ _ _ rfl w.heap.size 4 i0 (.bool false) 1 Tryz.underlying54 hi hz0 hz1 .i64 .i64 _ _ N rfl rfl rfl rfl (by rw [hz2]; omega) (by unfold maxLen; omega) (Nat.le_refl _) ?_; intro w1 hown1 hg1; have hb1 := Lib.hid (show Below w.heap.size w w1 from (Below.refl _ _).grown hg1 (Nat.le_refl _) (by simp)); have HO1 := Lib.hid hown1; clear hown1 hg1)
  have H0 := Lib.hid (show MkRow w1 w.heap.size w.heap.size N (List.replicate N false) by
    have h := HO1.out
    have e := toList_madeCells_one (.bool false) N
    have e2 : (Value.bool false).cells = #[.bool false] := rfl
    rw [e2, Nat.mul_one, e] at h
    unfold MkRow
    rw [List.map_replicate]
    exact h)
  clear hi hz0 hz1 hz2 HO1 y0 y3
  go_loopw [8] (fun i wr => ∃ (j : Nat) (sb : List Bool), j ≤ x.es.length ∧ i = .int .i64 (j : Int) ∧ Hid (MkS N (nxT x ss nl j) sb) ∧ Hid (MkRow wr w.heap.size w.heap.size N sb) ∧ Hid (Below w.heap.size w wr)) (fun i _ => x.es.length - (intOf i).toNat)
  case atStart => exact ⟨0, _, Nat.zero_le _, rfl, Lib.hid (MkS.zero N), H0, hb1⟩
  case round =>
    clear H0 hb1
    obtain ⟨j, sb, hj, rfl, HM, HO, HB⟩ := hrel
    obtain ⟨z3, hpr⟩ := Y.out _ HB.out
    have hsz := HB.out.size
    by_cases hlt : j < x.es.length
    · obtain ⟨b, o, cs, v, rfl, hb, hR, hv, hc⟩ := (R2.out.keep (SameOn.of_below HB.out HS.out)).at_ (k := j) hlt
      have hR : cs = [Value.int .i64 v.f, Value.int .i64 v.l, Value.int .i64 v.t] := hR
      subst hR
      obtain ⟨_, _, ⟨t0, t1⟩⟩ := HIN.out v (List.mem_of_getElem? hv.out)
      rw [HN.out] at t1
      obtain ⟨T, hT⟩ : ∃ T : Nat, v.t = (T : Int) := ⟨v.t.toNat, by omega⟩
      have hTN : T < N := by omega
      have f0 : wr.cell? ⟨b, o + j * 3, none⟩ = some (.int .i64 v.f) := hc 0 _ rfl
      have f1 : wr.cell? ⟨b, o + j * 3 + 1, none⟩ = some (.int .i64 v.l) := hc 1 _ rfl
      have f2 : wr.cell? ⟨b, o + j * 3 + 2, none⟩ = some (.int .i64 (T : Int)) := by rw [← hT]; exact hc 2 _ rfl
      have lb := World.block_lt_of_cell? wr _ f0
      have hrow : wr.ownsRow w.heap.size 4 1 (.slice (some ⟨w.heap.size, 0, none⟩) N N) N (sb.map Value.bool) := HO.out
      obtain ⟨⟨old0, hx0⟩, hf0⟩ := own_some hrow (k := T) (by omega)
      have lw : w.heap.size < wr.heap.size := World.block_lt_of_cell? wr _ hx0
      have HVT := Lib.hid hT
      have HO2 := Lib.hid (show MkRow (wr.setCell ⟨w.heap.size, T, none⟩ (.bool true)) w.heap.size w.heap.size N (sb.set T true) by unfold MkRow; rw [List.map_set]; exact (hrow.stored T (.bool true)).1)
      have HB2 := Lib.hid (HB.out.setCell (p := ⟨w.heap.size, T, none⟩) (Nat.le_refl _) (.bool true))
      have CH1 := Lib.hid (CH.out v.f wr HB.out)
      clear hc hrow t0 t1 hT
      rcases tl : (v.l == nl) with _ | _
      · have HT := Lib.hid (nxT_no hv.out (show nxP ss nl v = false by unfold nxP; rw [tl]; rfl))
        go_wp2
        go_roundw
        case rel => exact ⟨j + 1, sb, by omega, by go_num, Lib.hid (by rw [HT.out]; exact HM.out), HO, HB⟩
        case measure => simp [intOf]; omega
      · rcases th : hasI ss v.f with _ | _
        · have HT := Lib.hid (nxT_no hv.out (show nxP ss nl v = false by unfold nxP; rw [tl, th]; rfl))
          rw [th] at CH1
          clear th
          go_wp2_with (go_at_call 92; refine (CH1.out).mono ?_; rintro e w3 ⟨rfl, rfl⟩)
          go_roundw
          case rel => exact ⟨j + 1, sb, by omega, by go_num, Lib.hid (by rw [HT.out]; exact HM.out), HO, HB⟩
          case measure => simp [intOf]; omega
        · have HT := Lib.hid (nxT_yes hv.out (show nxP ss nl v = true by unfold nxP; rw [tl, th]; rfl))
          have HM2 := Lib.hid (show MkS N (nxT x ss nl (j + 1)) (sb.set T true) by rw [HT.out, HVT.out]; exact HM.out.set hTN)
          rw [th] at CH1
          clear th
          go_wp2_with (go_at_call 92; refine (CH1.out).mono ?_; rintro e w3 ⟨rfl, rfl⟩)
          go_roundw
          case rel => exact ⟨j + 1, _, by omega, by go_num, HM2, HO2, HB2⟩
          case measure => simp [intOf]; omega
    · have HMID := Lib.hid (show GMid N (tauE x) (nxT x ss nl j) sb from HM.out.mid (fun k hk => by have := nxT_in TV.out ss nl j k hk; have := HN.out; omega))
      have HE := Lib.hid (show cloL x (nxT x ss nl j) = nexL x ss nl from nexL_nxT (by omega))
      have C4 := Lib.hid (l12Close_any x p A2 c2 N w.heap.size w.heap.size (nxT x ss nl j) sb wr S z3 (R2.out.keep (SameOn.of_below HB.out HS.out)) HS.out hp hsz (Nat.le_refl _) TV.out HN.out HMID.out HO.out)
      clear HM HO
      go_wp2_with fail
      refine (C4.out).mono ?_
      rintro e w5 ⟨⟨v, rfl⟩, ⟨sb2, hmid, hclo, hrow⟩, hb5⟩
      have HB5 := Lib.hid (HB.out.trans hb5)
      have HSL := Lib.hid (show selB sb2 N = nexL x ss nl by
        rw [← HE.out]
        have hn := HN.out
        have e : x.st.toNat = N := by omega
        rw [← e] at hmid ⊢
        exact gmid_all hmid hclo)
      have C5 := Lib.hid (l14List_any N w.heap.size w.heap.size sb2 w5 hN40 hmid.len hrow)
      have HS5 := Lib.hid HB5.out.size
      clear hb5 hmid hclo hrow C4
      rw [HSL.out] at C5
      go_wp2_with (go_at_call 33; refine (C5.out).mono ?_; rintro e w6 ⟨A, c, rfl, hO, hb6⟩; have HB6 := Lib.hid (HB5.out.trans (hb6.mono HB5.out.size)); have HO := Lib.hid (hO.more (S' := In w.heap.size w6.heap.size) (fun b hb => ⟨Nat.le_trans HS5.out hb.1, hb.2⟩)); clear hb6 hO)
      go_ret
      exact ⟨A, c, rfl, HO.out, HB6.out⟩
end Go.Proofs.YtbailpfjgjcbdaaGreatDoor
