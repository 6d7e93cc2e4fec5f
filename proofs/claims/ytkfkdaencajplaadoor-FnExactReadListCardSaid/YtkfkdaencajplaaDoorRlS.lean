/- ReadList: the model's answer is what the mathematics reads. -/
import Derived.Test.YtkfkdaencajplaaDoorRlW
namespace Go.Proofs.YtkfkdaencajplaaDoor
open Go.RowKit Go.Lib
set_option maxHeartbeats 3200000 in
set_option maxRecDepth 100000 in
theorem specReadList_any (s : ByteArray) (w : World) (hsz : s.size ≤ 1048576) :
    Calls Tryd.prog 13 #[.string s] w fun e w' => RetIb w (rlR s.data.toList) e w' := by
  obtain ⟨i0, hi, hz0, hz1, hz2⟩ := info_parts info_i64
  rcases hd : (s.toList == [45]) with _ | _
  · have HD := Lib.hid (dash_no hd)
    have HSum := Lib.hid (show ∀ p ∈ pcs 44 s.data.toList, p.length ≤ 1048576 from fun p hp => by
      have := pcs_sum 44 s.data.toList p hp
      rw [byte_len] at this
      omega)
    have HC := Lib.hid (split_any s 44 w hsz)
    have HQ := Lib.hid (fun (h : readL s.data.toList = none) => rlR_no h)
    have HQ2 := Lib.hid (fun (vs : List Int) (h : readL s.data.toList = some vs) => rlR_yes h)
    have HX := Lib.hid (fun (h : ∀ vs, Read inMax (pcs 44 s.data.toList) vs → ¬ vs.length ≤ 64) => readL_no HD.out h)
    have HX2 := Lib.hid (fun (vs : List Int) (h : Read inMax (pcs 44 s.data.toList) vs) (h2 : vs.length ≤ 64) => readL_yes HD.out h h2)
    have hcnt : (pcs 44 s.data.toList).length ≤ 1048577 := by
      rw [pcs_count]
      have := List.count_le_length (a := (44 : UInt8)) (l := s.data.toList)
      rw [byte_len] at this
      omega
    generalize rlR s.data.toList = r at *
    generalize readL s.data.toList = rd at *
    generalize hps : pcs 44 s.data.toList = ps at *
    clear hps
    generalize hN : ps.length = N at *
    have HN := Lib.hid hN
    clear hN
    by_cases hbig : 64 < N
    · have hbig' : (64 : Int) < (N : Int) := by omega
      have HR := Lib.hid (HQ.out (HX.out (fun vs hv h => by have := hv.length; rw [HN.out] at this; omega)))
      clear HX2 HQ2
      go_enter Tryd.func13, Tryd.ntmps13
      go_wp2_with fail
      refine HC.out.mono ?_; rintro e w1 ⟨A0, c0, rfl, ho, hb⟩
      have HB := Lib.hid hb
      clear ho hb
      go_wp2
      go_ret2
      exact RetIb.nil HR.out HB.out
    · have hbig' : ¬ (64 : Int) < (N : Int) := by omega
      go_enter Tryd.func13, Tryd.ntmps13
      go_wp2_with fail
      refine HC.out.mono ?_; rintro e w1 ⟨A0, c0, rfl, ho, hb⟩
      have HB1 := Lib.hid hb
      have hs1 := hb.size
      have HRow := Lib.hid (Row.of_own ho.own)
      clear ho hb
      have HO := Lib.hid (World.ownsRow_made (e := 2) (size := 1) w1 #[] 0 (Nat.le_refl _) (Nat.zero_le _) rfl)
      have HBL := Lib.hid (show Below w1.heap.size w1 (w1.alloc (.cells #[] 2)) from (Below.refl _ _).alloc (Nat.le_refl _) _)
      go_wp2
      go_loopw [5, 6, 7, 8] (fun ov iv _ _ wr => ∃ (k : Nat) (vs : List Int) (A : Option Addr) (c : Nat), k ≤ N ∧ vs.length = k ∧ iv = .int .i64 k ∧ ov = .slice A k c ∧ Below w1.heap.size w1 wr ∧ wr.ownsRow w1.heap.size 2 1 ov k (vs.map (Value.int .i64)) ∧ Hid (Read inMax (ps.take k) vs)) (fun _ iv _ _ _ => N - (intOf iv).toNat)
      case atStart => exact ⟨0, [], _, _, Nat.zero_le _, rfl, rfl, rfl, HBL.out, HO.out, Lib.hid Read.start⟩
      case round =>
        obtain ⟨k, vs, A, c, hk, hvl, rfl, rfl, hb, hown, HI⟩ := hrel
        obtain ⟨wo, rfl⟩ : ∃ wo : World, wo = wr := ⟨_, rfl⟩
        have HB := Lib.hid hb
        have HOW := Lib.hid hown
        have hsz2 := hb.size
        have HVL := Lib.hid hvl
        clear HO HBL hb hown hvl
        by_cases hlt : k < N
        · obtain ⟨b, off, rfl, hbb, hc⟩ := (HRow.out.below HB.out).at_ (k := k) (by rw [strs_len, HN.out]; exact hlt)
          obtain ⟨p, hp⟩ : ∃ p, ps[k]? = some p := ⟨_, List.getElem?_eq_getElem (by rw [HN.out]; exact hlt)⟩
          have hc' : wo.cell? ⟨b, off + k, none⟩ = some (.string ⟨p.toArray⟩) := by
            rw [hc]
            have : (strs ps)[k]? = some (.string ⟨p.toArray⟩) := by unfold strs; rw [List.getElem?_map, hp]; rfl
            rw [List.getElem?_eq_getElem (by rw [strs_len, HN.out]; exact hlt)] at this
            exact this
          have HP := Lib.hid hp
          have hple : (⟨p.toArray⟩ : ByteArray).size ≤ 1048576 := by
            rw [list_size]
            have := HSum.out p (List.mem_of_getElem? hp)
            omega
          have HRd := Lib.hid (specNumber_any ⟨p.toArray⟩ wo hple)
          have ep : (⟨p.toArray⟩ : ByteArray).data.toList = p := rfl
          rw [ep] at HRd
          clear hc hp ep hple
          generalize (⟨p.toArray⟩ : ByteArray) = word at *
          rcases hnum : num p with _ | v
          · have H := Lib.hid (fun vs => read_stop (P := inMax) HP.out hnum vs)
            rw [hnum] at HRd
            go_wp2_with fail
            refine HRd.out.mono ?_; rintro e w3 ⟨rfl, rfl⟩
            unfold numRet
            go_wp2
            go_ret2
            have HR := HQ.out (HX.out (fun vs hv _ => H.out vs hv))
            exact RetIb.nil HR (HB1.out.trans (HB.out.mono hs1))
          · rw [hnum] at HRd
            by_cases hin : -1000000000000 ≤ v ∧ v ≤ 1000000000000
            · have HS := Lib.hid (HI.out.step HP.out hnum (show inMax v = true by unfold inMax; exact decide_eq_true hin))
              go_wp2_with (first
                | (go_at_call 31; refine HRd.out.mono ?_; rintro e w3 ⟨rfl, rfl⟩; unfold numRet)
                | (go_at_call 32; refine (l00In_yes v _ _ hin _).mono ?_; rintro e w3 ⟨rfl, rfl⟩)
                | (at_builtin; refine wpList_append_own _ rfl _ _ 22 rfl w1.heap.size 2 i0 (.int .i64 0) 1 8 Tryd.underlying22 hi hz0 hz1 hz2 rfl (by decide) (.slice A k c) k (vs.map (Value.int .i64)) rfl (by exact HOW.out.alloc _) ⟨wo.heap.size, 0, none⟩ 1 1 [.int .i64 v] rfl rfl (cell_one_new _ _ _) (by intro u hu; simp at hu; subst hu; rfl) (by unfold maxLen; omega) (by omega) (by simp; omega) ?_; intro v2 w2 ho hg _; have HG := Lib.hid hg; have HO2 := Lib.hid ho; clear ho hg))
              obtain ⟨A4, c4, rfl⟩ := own_shape_s HO2.out
              go_roundw
              case rel => exact ⟨k + 1, vs ++ [v], A4, c4, by omega, by rw [List.length_append, HVL.out]; rfl, by go_num, rfl, (HB.out.alloc hsz2 _).grown HG.out (by simp; omega) (fun q hq => (HOW.out.lt q hq).1), by rw [List.map_append]; exact HO2.out, HS⟩
              case measure => simp [intOf]; omega
            · have H := Lib.hid (fun vs => read_out (P := inMax) HP.out hnum (show inMax v = false by unfold inMax; exact decide_eq_false hin) vs)
              go_wp2_with (first
                | (go_at_call 31; refine HRd.out.mono ?_; rintro e w3 ⟨rfl, rfl⟩; unfold numRet)
                | (go_at_call 32; refine (l00In_no v _ _ (by omega) _).mono ?_; rintro e w3 ⟨rfl, rfl⟩))
              go_ret2
              have HR := HQ.out (HX.out (fun vs hv _ => H.out vs hv))
              exact RetIb.nil HR (HB1.out.trans (HB.out.mono hs1))
        · have hke : k = N := by omega
          subst hke
          have HR := Lib.hid (show Read inMax ps vs by have := HI.out; rwa [List.take_of_length_le (by rw [HN.out]; exact Nat.le_refl _)] at this)
          have HF := Lib.hid (own_lower HOW.out hs1)
          have HB3 := Lib.hid (HB1.out.trans (HB.out.mono hs1))
          have HY := Lib.hid (HQ2.out vs (HX2.out vs HR.out (by rw [HVL.out]; omega)))
          go_wp2
          go_ret2
          exact RetIb.mk' HY.out HF.out HB3.out
  · have HR := Lib.hid (show rlR s.data.toList = ([], true) by rw [dash_iff.1 hd]; exact rlR_yes readL_dash)
    have HO := Lib.hid (World.ownsRow_made (e := 2) (size := 1) w #[] 0 (Nat.le_refl _) (Nat.zero_le _) rfl)
    have HBL := Lib.hid (show Below w.heap.size w (w.alloc (.cells #[] 2)) from (Below.refl _ _).alloc (Nat.le_refl _) _)
    go_enter Tryd.func13, Tryd.ntmps13
    go_wp2
    go_ret2
    exact RetIb.mk' HR.out HO.out HBL.out
end Go.Proofs.YtkfkdaencajplaaDoor
