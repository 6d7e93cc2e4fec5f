/- A label is read: the program's function. -/
import Derived.Test.YtbgmhndmldekbaaDoorLvW
namespace Go.Proofs.YtbgmhndmldekbaaDoor
open Go.RowKit Go.Lib
set_option maxHeartbeats 3200000 in
set_option maxRecDepth 100000 in
theorem implReadLabel_any (s : ByteArray) (w : World) (hsz : s.size ≤ 1048576) (ht : TxtTabs w) :
    Calls Tryd.prog 20 #[.string s] w fun e w' => LabRet w s.data.toList e w' := by
  have HT := Lib.hid ht
  have HC := Lib.hid (cut_call s w hsz ht.max)
  clear ht
  by_cases hm : (40 : UInt8) ∈ s.data.toList
  · obtain ⟨p, r, hl, hp⟩ := pcs_split _ 40 s.data.toList (Nat.le_refl _) hm
    have hlen : p.length + (r.length + 1) = s.size := by rw [← byte_len, hl, List.length_append, List.length_cons]
    rw [hl, cut_one_hit 40 p r hp] at HC
    have HTS := Lib.hid (fun W => trimSuffix_call ⟨r.toArray⟩ W (by rw [list_size]; omega))
    have er : (⟨r.toArray⟩ : ByteArray).data.toList = r := rfl
    rw [er] at HTS
    have HQ := Lib.hid (trim_cases r)
    have hql : (trimSuffix r [41]).length ≤ r.length := by
      rcases trim_cases r with ⟨q, h1, h2⟩ | ⟨_, h2⟩
      · rw [h2, h1, List.length_append]; omega
      · rw [h2]; exact Nat.le_refl _
    have HL := Lib.hid hl
    have HP := Lib.hid hp
    generalize hq : trimSuffix r [41] = q at *
    clear hq hl hp hm er
    have HSp := Lib.hid (fun W (h : TxtTabs W) => implSplit_any ⟨q.toArray⟩ W (by rw [list_size]; omega) h)
    have hcnt : (pcs 44 q).length ≤ 1048576 := by
      rw [pcs_count]
      have := List.count_le_length (a := (44 : UInt8)) (l := q)
      omega
    have eq2 : (⟨q.toArray⟩ : ByteArray).data.toList = q := rfl
    rw [eq2] at HSp
    have ep : (⟨p.toArray⟩ : ByteArray).data.toList = p := rfl
    clear eq2 hql
    obtain ⟨pb, hpb⟩ : ∃ pb : ByteArray, pb = ⟨p.toArray⟩ := ⟨_, rfl⟩
    rw [← hpb] at ep
    have HPB := Lib.hid hpb
    simp only [← hpb] at HC
    clear hpb
    generalize (⟨r.toArray⟩ : ByteArray) = rb at *
    generalize (⟨q.toArray⟩ : ByteArray) = qb at *
    go_enter Tryd.func20, Tryd.ntmps20
    go_wp2_with fail
    refine HC.out.mono ?_; rintro e w1 ⟨rfl, hd⟩
    have HB1 := Lib.hid (hd.below w.heap.size)
    have hs1 := HB1.out.size
    clear hd
    go_wp2_with fail
    refine (HTS.out _).mono ?_; rintro e w2 ⟨rfl, rfl⟩
    go_wp2_with fail
    refine (HSp.out _ (HT.out.below HB1.out)).mono ?_; rintro e w3 ⟨(⟨vs, A, c, hvs, rfl, ho⟩ | ⟨hvs, rfl⟩), hb⟩
    · have HV := Lib.hid hvs
      have HO := Lib.hid ho
      have HB3 := Lib.hid (HB1.out.trans (hb.mono hs1))
      have hs3 := hb.size
      have HLT := Lib.hid (implLabelText_any pb A vs.length c vs w3 (Row.of_own ho.own) rfl (by rw [← hvs.length]; exact hcnt))
      rw [ep] at HLT
      clear hb hvs ho
      have HY := Lib.hid (fun (h : LabR s.data.toList vs) => show labText p vs = s.data.toList by
        rw [HL.out] at h ⊢
        exact lab_back_open HP.out (by rcases HQ.out with ⟨q', h1, h2⟩ | ⟨h1, h2⟩
                                       · exact .inl (by rw [h2]; exact h1)
                                       · exact .inr ⟨h2, h1⟩) HV.out ⟨vs, h⟩)
      rcases lab_decides HY.out with ⟨hR, he, hq⟩ | ⟨hR, hh⟩
      · have HR := Lib.hid hR
        clear hR
        generalize (⟨(labText p vs).toArray⟩ : ByteArray) = tx at *
        go_wp2_with fail
        refine HLT.out.mono ?_; rintro e w4 ⟨rfl, hb4⟩
        have HB4 := Lib.hid (HB3.out.trans (hb4.mono (Nat.le_trans hs1 hs3)))
        have HO4 := Lib.hid (own_lowerS (own_below' HO.out.own hb4) hs1)
        clear hb4
        go_wp2
        go_ret3
        exact ⟨.inl ⟨vs, A, c, HR.out, by rw [HL.out, preL_open HP.out, ← HPB.out]; rfl, OwnV.mk' HO4.out⟩, HB4.out⟩
      · have HN := Lib.hid (show ∀ us, ¬ LabR s.data.toList us from fun us hu => by
          have hu' := hu
          rw [HL.out] at hu'
          obtain ⟨q', e, _, _, h3, _⟩ := (lab_open HP.out).1 hu'
          have : q = q' := by
            rcases HQ.out with ⟨q2, h1, h2⟩ | ⟨h1, h2⟩
            · rw [h2]; exact List.append_cancel_right (h1.symm.trans e)
            · exact absurd (by rw [e]; simp) h1
          subst this
          have := HV.out.inj h3
          subst this
          exact hR hu)
        clear hR
        generalize (⟨(labText p vs).toArray⟩ : ByteArray) = tx at *
        rcases hh with he | ⟨he, hq⟩
        · go_wp2_with fail
          refine HLT.out.mono ?_; rintro e w4 ⟨rfl, hb4⟩
          have HB4 := Lib.hid (HB3.out.trans (hb4.mono (Nat.le_trans hs1 hs3)))
          clear hb4
          go_wp2
          go_ret3
          exact ⟨.inr ⟨HN.out, rfl⟩, HB4.out⟩
        · go_wp2_with fail
          refine HLT.out.mono ?_; rintro e w4 ⟨rfl, hb4⟩
          have HB4 := Lib.hid (HB3.out.trans (hb4.mono (Nat.le_trans hs1 hs3)))
          clear hb4
          go_wp2
          go_ret3
          exact ⟨.inr ⟨HN.out, rfl⟩, HB4.out⟩
    · have HN := Lib.hid (show ∀ us, ¬ LabR s.data.toList us from fun us hu => by
        rw [HL.out] at hu
        obtain ⟨q', e, _, _, h3, _⟩ := (lab_open HP.out).1 hu
        have : q = q' := by
          rcases HQ.out with ⟨q2, h1, h2⟩ | ⟨h1, h2⟩
          · rw [h2]; exact List.append_cancel_right (h1.symm.trans e)
          · exact absurd (by rw [e]; simp) h1
        subst this
        exact hvs us (h3.weaken (all_yes us)))
      have HB3 := Lib.hid (HB1.out.trans (hb.mono hs1))
      clear hb hvs
      go_wp2
      go_ret3
      exact ⟨.inr ⟨HN.out, rfl⟩, HB3.out⟩
  · rw [cut_one_none 40 _ hm, self_bytes] at HC
    have HM := Lib.hid hm
    have HY := Lib.hid (fun (h : LabR s.data.toList []) => show labText s.data.toList [] = s.data.toList by
      have := ((lab_plain HM.out).1 h).1
      rw [labText_yes ⟨this, by simp, fun _ => rfl, rfl⟩]
      simp [make])
    clear hm
    go_enter Tryd.func20, Tryd.ntmps20
    go_wp2_with fail
    refine HC.out.mono ?_; rintro e w1 ⟨rfl, hd⟩
    have HB1 := Lib.hid (hd.below w.heap.size)
    have hs1 := HB1.out.size
    clear hd
    have HLT := Lib.hid (implLabelText_any s none 0 0 [] w1 Row.nil rfl (Nat.zero_le _))
    rcases lab_decides HY.out with ⟨hR, he, hq⟩ | ⟨hR, hh⟩
    · have HR := Lib.hid hR
      clear hR
      generalize (⟨(labText s.data.toList []).toArray⟩ : ByteArray) = tx at *
      go_wp2_with fail
      refine HLT.out.mono ?_; rintro e w4 ⟨rfl, hb4⟩
      have HB4 := Lib.hid (HB1.out.trans (hb4.mono hs1))
      clear hb4
      go_wp2
      go_ret3
      exact ⟨.inl ⟨[], none, 0, HR.out, by rw [preL_plain HM.out, self_bytes]; rfl, own_nil0 w w4⟩, HB4.out⟩
    · have HN := Lib.hid (show ∀ us, ¬ LabR s.data.toList us from fun us hu => by
        have := ((lab_plain HM.out).1 hu).2
        subst this
        exact hR hu)
      clear hR
      generalize (⟨(labText s.data.toList []).toArray⟩ : ByteArray) = tx at *
      rcases hh with he | ⟨he, hq⟩
      · go_wp2_with fail
        refine HLT.out.mono ?_; rintro e w4 ⟨rfl, hb4⟩
        have HB4 := Lib.hid (HB1.out.trans (hb4.mono hs1))
        clear hb4
        go_wp2
        go_ret3
        exact ⟨.inr ⟨HN.out, rfl⟩, HB4.out⟩
      · go_wp2_with fail
        refine HLT.out.mono ?_; rintro e w4 ⟨rfl, hb4⟩
        have HB4 := Lib.hid (HB1.out.trans (hb4.mono hs1))
        clear hb4
        go_wp2
        go_ret3
        exact ⟨.inr ⟨HN.out, rfl⟩, HB4.out⟩
/-! the public functions -/
/-- The name of a label, nothing if it is none. -/
noncomputable def labName (l : List UInt8) : List UInt8 := if (labVals l).isSome then preL l else []
noncomputable def lvR (l : List UInt8) : List Int × Bool := match labVals l with
  | some vs => (vs, true)
  | none => ([], false)
theorem lvR_yes {l : List UInt8} {vs : List Int} (h : LabR l vs) : lvR l = (vs, true) := by unfold lvR; rw [labVals_yes h]
theorem lvR_no {l : List UInt8} (h : ∀ vs, ¬ LabR l vs) : lvR l = ([], false) := by unfold lvR; rw [labVals_no h]
theorem labR_len {l : List UInt8} {vs : List Int} (h : LabR l vs) : vs.length ≤ 2 := by obtain ⟨_, hok, _⟩ := h; exact hok.2.1
theorem lvR_len (l : List UInt8) : (lvR l).1.length ≤ 2000000 := by
  by_cases h : ∃ vs, LabR l vs
  · obtain ⟨vs, h⟩ := h
    have := labR_len h
    rw [lvR_yes h]
    simp only
    omega
  · rw [lvR_no (fun vs hv => h ⟨vs, hv⟩)]; simp
theorem labName_yes {l : List UInt8} {vs : List Int} (h : LabR l vs) : labName l = preL l := by unfold labName; rw [labVals_yes h]; rfl
theorem labName_no {l : List UInt8} (h : ∀ vs, ¬ LabR l vs) : labName l = [] := by unfold labName; rw [labVals_no h]; rfl
theorem implIsLabel_any (s : ByteArray) (w : World) (hsz : s.size ≤ 1048576) (ht : TxtTabs w) :
    Calls Tryd.prog 8 #[.string s] w fun e w' => e = .returned (.bool (lvR s.data.toList).2) ∧ Below w.heap.size w w' := by
  have HC := Lib.hid (implReadLabel_any s w hsz ht)
  clear ht
  go_enter Tryd.func8, Tryd.ntmps8
  go_wp2_with fail
  refine HC.out.mono ?_; rintro e w1 ⟨(⟨vs, A, c, hvs, rfl, ho⟩ | ⟨hvs, rfl⟩), hb⟩
  · have HR := Lib.hid (lvR_yes hvs)
    have HB := Lib.hid hb
    clear hb ho
    go_wp2
    go_ret
    exact ⟨by rw [HR.out]; rfl, HB.out⟩
  · have HR := Lib.hid (lvR_no hvs)
    have HB := Lib.hid hb
    clear hb
    go_wp2
    go_ret
    exact ⟨by rw [HR.out]; rfl, HB.out⟩
theorem implLabelName_any (s : ByteArray) (w : World) (hsz : s.size ≤ 1048576) (ht : TxtTabs w) :
    Calls Tryd.prog 9 #[.string s] w fun e w' => e = .returned (.string ⟨(labName s.data.toList).toArray⟩) ∧ Below w.heap.size w w' := by
  have HC := Lib.hid (implReadLabel_any s w hsz ht)
  clear ht
  go_enter Tryd.func9, Tryd.ntmps9
  go_wp2_with fail
  refine HC.out.mono ?_; rintro e w1 ⟨(⟨vs, A, c, hvs, rfl, ho⟩ | ⟨hvs, rfl⟩), hb⟩
  · have HR := Lib.hid (labName_yes hvs)
    have HB := Lib.hid hb
    clear hb ho
    go_wp2
    go_ret
    exact ⟨by rw [HR.out]; rfl, HB.out⟩
  · have HR := Lib.hid (labName_no hvs)
    have HB := Lib.hid hb
    clear hb
    go_wp2
    go_ret
    exact ⟨by rw [HR.out]; rfl, HB.out⟩
theorem implLabelValues_any (s : ByteArray) (w : World) (hsz : s.size ≤ 1048576) (ht : TxtTabs w) :
    Calls Tryd.prog 7 #[.string s] w fun e w' => RetIb w (lvR s.data.toList) e w' := by
  have HC := Lib.hid (implReadLabel_any s w hsz ht)
  clear ht
  go_enter Tryd.func7, Tryd.ntmps7
  go_wp2_with fail
  refine HC.out.mono ?_; rintro e w1 ⟨(⟨vs, A, c, hvs, rfl, ho⟩ | ⟨hvs, rfl⟩), hb⟩
  · have HR := Lib.hid (lvR_yes hvs)
    have HB := Lib.hid hb
    have HO := Lib.hid ho
    clear hb ho
    go_wp2
    go_ret2
    exact RetIb.mk' HR.out HO.out.own HB.out
  · have HR := Lib.hid (lvR_no hvs)
    have HB := Lib.hid hb
    clear hb
    go_wp2
    go_ret2
    exact RetIb.nil HR.out HB.out
end Go.Proofs.YtbgmhndmldekbaaDoor
