/- A label is read: the program's way. -/
/- A label is read: the program's function. -/
/- A label is read: the model's function. -/
import Derived.Test.YtbailpfjgjcbdaaGreatDoorSpR
import Derived.Test.YtbailpfjgjcbdaaGreatDoorLis
import Derived.Shelf.Strings.Cut
namespace Go.Proofs
open Go.Shelf
shelf_lay Lays.n145 Nm 145 at Tryz as Tryz.laysCut
shelf_lay Lays.n102 Nm 102 at Tryz as Tryz.laysTrimSuffix
end Go.Proofs
namespace Go.Proofs.YtbailpfjgjcbdaaGreatDoor
open Go.RowKit Go.Lib
theorem cut_call (s : ByteArray) (w : World) (hsz : s.size ≤ 1048576) (hm : ∃ m, w.cell? ⟨0, 0, none⟩ = some (.int .i64 m)) :
    Calls Tryz.prog 112 #[.string s, .string ⟨#[40]⟩] w fun e w' => e = .returned (.tuple #[.string ⟨(cut s.data.toList [40]).1.toArray⟩, .string ⟨(cut s.data.toList [40]).2.1.toArray⟩, .bool (cut s.data.toList [40]).2.2]) ∧ Drawn w w' := by
  obtain ⟨m, hm⟩ := hm
  exact Any.strings_Cut Tryz.laysCut s ⟨#[40]⟩ m w (by omega) hm
theorem trimSuffix_call (s : ByteArray) (w : World) (hsz : s.size ≤ 1048576) :
    Calls Tryz.prog 114 #[.string s, .string ⟨#[41]⟩] w fun e w' => e = .returned (.string ⟨(trimSuffix s.data.toList [41]).toArray⟩) ∧ w' = w :=
  Any.strings_TrimSuffix Tryz.laysTrimSuffix s ⟨#[41]⟩ w (by omega)
theorem trim_hit (q : List UInt8) : trimSuffix (q ++ [41]) [41] = q := by
  have h : hasSuffix (q ++ [41]) [41] = true := by unfold hasSuffix; rw [List.isSuffixOf_iff_suffix]; exact List.suffix_append _ _
  unfold trimSuffix
  rw [h]
  simp
theorem trim_miss {r : List UInt8} (h : r.getLast? ≠ some 41) : trimSuffix r [41] = r := by
  have h2 : hasSuffix r [41] = false := by
    unfold hasSuffix
    rw [Bool.eq_false_iff]
    intro e
    rw [List.isSuffixOf_iff_suffix] at e
    obtain ⟨q, rfl⟩ := e
    simp at h
  unfold trimSuffix
  rw [h2]
  rfl
/-- What is taken for the values' text: the rest without a parenthesis at its end. -/
theorem trim_cases (r : List UInt8) : (∃ q, r = q ++ [41] ∧ trimSuffix r [41] = q) ∨ (r.getLast? ≠ some 41 ∧ trimSuffix r [41] = r) := by
  by_cases h : r.getLast? = some 41
  · obtain ⟨q, hq⟩ := List.getLast?_eq_some_iff.1 h
    exact .inl ⟨q, hq, by rw [hq]; exact trim_hit q⟩
  · exact .inr ⟨h, trim_miss h⟩
/-- What is read of a label: its name, its values, and whether it is one. -/
def LabRet (w : World) (l : List UInt8) (e : Ending) (w' : World) : Prop :=
  ((∃ vs A c, LabR l vs ∧ e = .returned (.tuple #[.string ⟨(preL l).toArray⟩, .slice A vs.length c, .bool true]) ∧ OwnV w' w.heap.size w'.heap.size 2 1 A vs.length c (vs.map (Value.int .i64))) ∨
   ((∀ vs, ¬ LabR l vs) ∧ e = .returned (.tuple #[.string ⟨#[]⟩, .slice none 0 0, .bool false]))) ∧ Below w.heap.size w w'
theorem own_nil0 (w w' : World) : OwnV w' w.heap.size w'.heap.size 2 1 none ([] : List Int).length 0 (([] : List Int).map (Value.int .i64)) := own_nil w w'
theorem byte_list (l : List UInt8) : (⟨l.toArray⟩ : ByteArray).data.toList = l := rfl
theorem self_bytes (s : ByteArray) : (⟨s.data.toList.toArray⟩ : ByteArray) = s := by cases s; rfl
theorem str_ne {a s : ByteArray} (h : a.data.toList ≠ s.data.toList) : (a.toList == s.toList) = false := by
  rw [ByteArray.toList_eq, ByteArray.toList_eq]
  simpa using h
theorem str_eq {a s : ByteArray} (h : a.data.toList = s.data.toList) : (a.toList == s.toList) = true := by
  rw [ByteArray.toList_eq, ByteArray.toList_eq]
  simpa using h
theorem emp_no {a : ByteArray} (h : a.data.toList ≠ []) : a.toList.isEmpty = false := by
  rw [ByteArray.toList_eq]
  simpa using h
theorem emp_yes {a : ByteArray} (h : a.data.toList = []) : a.toList.isEmpty = true := by
  rw [ByteArray.toList_eq]
  simpa using h
/-- The comparisons of the text that is made with the text that was given decide whether it is a label. -/
theorem lab_decides {s : ByteArray} {nm : List UInt8} {vs : List Int} (hyes : LabR s.data.toList vs → labText nm vs = s.data.toList) :
    (LabR s.data.toList vs ∧ (⟨(labText nm vs).toArray⟩ : ByteArray).toList.isEmpty = false ∧ ((⟨(labText nm vs).toArray⟩ : ByteArray).toList == s.toList) = true) ∨
    (¬ LabR s.data.toList vs ∧ ((⟨(labText nm vs).toArray⟩ : ByteArray).toList.isEmpty = true ∨ ((⟨(labText nm vs).toArray⟩ : ByteArray).toList.isEmpty = false ∧ ((⟨(labText nm vs).toArray⟩ : ByteArray).toList == s.toList) = false))) := by
  by_cases h : LabR s.data.toList vs
  · refine .inl ⟨h, ?_, str_eq (hyes h)⟩
    refine emp_no ?_
    show labText nm vs ≠ []
    rw [hyes h]
    obtain ⟨nm', hok, hm⟩ := h
    rw [← hm]
    exact make_ne hok.1
  · refine .inr ⟨h, ?_⟩
    by_cases he : labText nm vs = []
    · exact .inl (emp_yes he)
    · refine .inr ⟨emp_no he, str_ne ?_⟩
      intro e
      have e' : labText nm vs = s.data.toList := e
      exact h (lab_text e' (by rw [← e']; exact he))
end Go.Proofs.YtbailpfjgjcbdaaGreatDoor

namespace Go.Proofs.YtbailpfjgjcbdaaGreatDoor
open Go.RowKit Go.Lib
set_option maxHeartbeats 3200000 in
set_option maxRecDepth 100000 in
theorem implReadLabel_any (s : ByteArray) (w : World) (hsz : s.size ≤ 1048576) (ht : TxtTabs w) :
    Calls Tryz.prog 99 #[.string s] w fun e w' => LabRet w s.data.toList e w' := by
  have HT := Lib.hid ht
  have HC := Lib.hid (cut_call s w hsz ht.max)
  clear ht
  by_cases hm : (40 : UInt8) ∈ s.data.toList
  · obtain ⟨p, r, hl, hp⟩ := pcs_split _ 40 s.data.toList (Nat.le_refl _) hm
    have hlen : p.length + (r.length + 1) = s.size := by rw [← byte_len, hl, List.length_append, List.length_cons]
    rw [hl, cut_one_hit 40 p r hp] at HC
    have HTS := Lib.hid (fun W => trimSuffix_call ⟨r.toArray⟩ W (by rw [list_size]; omega))
    have er : (⟨r.toArray⟩ : ByteArray).data.toList = r := rfl
    rw [er] at HTS
    have HQ := Lib.hid (trim_cases r)
    have hql : (trimSuffix r [41]).length ≤ r.length := by
      rcases trim_cases r with ⟨q, h1, h2⟩ | ⟨_, h2⟩
      · rw [h2, h1, List.length_append]; omega
      · rw [h2]; exact Nat.le_refl _
    have HL := Lib.hid hl
    have HP := Lib.hid hp
    generalize hq : trimSuffix r [41] = q at *
    clear hq hl hp hm er
    have HSp := Lib.hid (fun W (h : TxtTabs W) => implSplit_any ⟨q.toArray⟩ W (by rw [list_size]; omega) h)
    have hcnt : (pcs 44 q).length ≤ 1048576 := by
      rw [pcs_count]
      have := List.count_le_length (a := (44 : UInt8)) (l := q)
      omega
    have eq2 : (⟨q.toArray⟩ : ByteArray).data.toList = q := rfl
    rw [eq2] at HSp
    have ep : (⟨p.toArray⟩ : ByteArray).data.toList = p := rfl
    clear eq2 hql
    obtain ⟨pb, hpb⟩ : ∃ pb : ByteArray, pb = ⟨p.toArray⟩ := ⟨_, rfl⟩
    rw [← hpb] at ep
    have HPB := Lib.hid hpb
    simp only [← hpb] at HC
    clear hpb
    generalize (⟨r.toArray⟩ : ByteArray) = rb at *
    generalize (⟨q.toArray⟩ : ByteArray) = qb at *
    go_enter Tryz.func99, Tryz.ntmps99
    go_wp2_with fail
    refine HC.out.mono ?_; rintro e w1 ⟨rfl, hd⟩
    have HB1 := Lib.hid (hd.below w.heap.size)
    have hs1 := HB1.out.size
    clear hd
    go_wp2_with fail
    refine (HTS.out _).mono ?_; rintro e w2 ⟨rfl, rfl⟩
    go_wp2_with fail
    refine (HSp.out _ (HT.out.below HB1.out)).mono ?_; rintro e w3 ⟨(⟨vs, A, c, hvs, rfl, ho⟩ | ⟨hvs, rfl⟩), hb⟩
    · have HV := Lib.hid hvs
      have HO := Lib.hid ho
      have HB3 := Lib.hid (HB1.out.trans (hb.mono hs1))
      have hs3 := hb.size
      have HLT := Lib.hid (implLabelText_any pb A vs.length c vs w3 (Row.of_own ho.own) rfl (by rw [← hvs.length]; exact hcnt))
      rw [ep] at HLT
      clear hb hvs ho
      have HY := Lib.hid (fun (h : LabR s.data.toList vs) => show labText p vs = s.data.toList by
        rw [HL.out] at h ⊢
        exact lab_back_open HP.out (by rcases HQ.out with ⟨q', h1, h2⟩ | ⟨h1, h2⟩
                                       · exact .inl (by rw [h2]; exact h1)
                                       · exact .inr ⟨h2, h1⟩) HV.out ⟨vs, h⟩)
      rcases lab_decides HY.out with ⟨hR, he, hq⟩ | ⟨hR, hh⟩
      · have HR := Lib.hid hR
        clear hR
        generalize (⟨(labText p vs).toArray⟩ : ByteArray) = tx at *
        go_wp2_with fail
        refine HLT.out.mono ?_; rintro e w4 ⟨rfl, hb4⟩
        have HB4 := Lib.hid (HB3.out.trans (hb4.mono (Nat.le_trans hs1 hs3)))
        have HO4 := Lib.hid (own_lowerS (own_below' HO.out.own hb4) hs1)
        clear hb4
        go_wp2
        go_ret3
        exact ⟨.inl ⟨vs, A, c, HR.out, by rw [HL.out, preL_open HP.out, ← HPB.out]; rfl, OwnV.mk' HO4.out⟩, HB4.out⟩
      · have HN := Lib.hid (show ∀ us, ¬ LabR s.data.toList us from fun us hu => by
          have hu' := hu
          rw [HL.out] at hu'
          obtain ⟨q', e, _, _, h3, _⟩ := (lab_open HP.out).1 hu'
          have : q = q' := by
            rcases HQ.out with ⟨q2, h1, h2⟩ | ⟨h1, h2⟩
            · rw [h2]; exact List.append_cancel_right (h1.symm.trans e)
            · exact absurd (by rw [e]; simp) h1
          subst this
          have := HV.out.inj h3
          subst this
          exact hR hu)
        clear hR
        generalize (⟨(labText p vs).toArray⟩ : ByteArray) = tx at *
        rcases hh with he | ⟨he, hq⟩
        · go_wp2_with fail
          refine HLT.out.mono ?_; rintro e w4 ⟨rfl, hb4⟩
          have HB4 := Lib.hid (HB3.out.trans (hb4.mono (Nat.le_trans hs1 hs3)))
          clear hb4
          go_wp2
          go_ret3
          exact ⟨.inr ⟨HN.out, rfl⟩, HB4.out⟩
        · go_wp2_with fail
          refine HLT.out.mono ?_; rintro e w4 ⟨rfl, hb4⟩
          have HB4 := Lib.hid (HB3.out.trans (hb4.mono (Nat.le_trans hs1 hs3)))
          clear hb4
          go_wp2
          go_ret3
          exact ⟨.inr ⟨HN.out, rfl⟩, HB4.out⟩
    · have HN := Lib.hid (show ∀ us, ¬ LabR s.data.toList us from fun us hu => by
        rw [HL.out] at hu
        obtain ⟨q', e, _, _, h3, _⟩ := (lab_open HP.out).1 hu
        have : q = q' := by
          rcases HQ.out with ⟨q2, h1, h2⟩ | ⟨h1, h2⟩
          · rw [h2]; exact List.append_cancel_right (h1.symm.trans e)
          · exact absurd (by rw [e]; simp) h1
        subst this
        exact hvs us (h3.weaken (all_yes us)))
      have HB3 := Lib.hid (HB1.out.trans (hb.mono hs1))
      clear hb hvs
      go_wp2
      go_ret3
      exact ⟨.inr ⟨HN.out, rfl⟩, HB3.out⟩
  · rw [cut_one_none 40 _ hm, self_bytes] at HC
    have HM := Lib.hid hm
    have HY := Lib.hid (fun (h : LabR s.data.toList []) => show labText s.data.toList [] = s.data.toList by
      have := ((lab_plain HM.out).1 h).1
      rw [labText_yes ⟨this, by simp, fun _ => rfl, rfl⟩]
      simp [make])
    clear hm
    go_enter Tryz.func99, Tryz.ntmps99
    go_wp2_with fail
    refine HC.out.mono ?_; rintro e w1 ⟨rfl, hd⟩
    have HB1 := Lib.hid (hd.below w.heap.size)
    have hs1 := HB1.out.size
    clear hd
    have HLT := Lib.hid (implLabelText_any s none 0 0 [] w1 Row.nil rfl (Nat.zero_le _))
    rcases lab_decides HY.out with ⟨hR, he, hq⟩ | ⟨hR, hh⟩
    · have HR := Lib.hid hR
      clear hR
      generalize (⟨(labText s.data.toList []).toArray⟩ : ByteArray) = tx at *
      go_wp2_with fail
      refine HLT.out.mono ?_; rintro e w4 ⟨rfl, hb4⟩
      have HB4 := Lib.hid (HB1.out.trans (hb4.mono hs1))
      clear hb4
      go_wp2
      go_ret3
      exact ⟨.inl ⟨[], none, 0, HR.out, by rw [preL_plain HM.out, self_bytes]; rfl, own_nil0 w w4⟩, HB4.out⟩
    · have HN := Lib.hid (show ∀ us, ¬ LabR s.data.toList us from fun us hu => by
        have := ((lab_plain HM.out).1 hu).2
        subst this
        exact hR hu)
      clear hR
      generalize (⟨(labText s.data.toList []).toArray⟩ : ByteArray) = tx at *
      rcases hh with he | ⟨he, hq⟩
      · go_wp2_with fail
        refine HLT.out.mono ?_; rintro e w4 ⟨rfl, hb4⟩
        have HB4 := Lib.hid (HB1.out.trans (hb4.mono hs1))
        clear hb4
        go_wp2
        go_ret3
        exact ⟨.inr ⟨HN.out, rfl⟩, HB4.out⟩
      · go_wp2_with fail
        refine HLT.out.mono ?_; rintro e w4 ⟨rfl, hb4⟩
        have HB4 := Lib.hid (HB1.out.trans (hb4.mono hs1))
        clear hb4
        go_wp2
        go_ret3
        exact ⟨.inr ⟨HN.out, rfl⟩, HB4.out⟩
/-! the public functions -/
/-- The name of a label, nothing if it is none. -/
noncomputable def labName (l : List UInt8) : List UInt8 := if (labVals l).isSome then preL l else []
noncomputable def lvR (l : List UInt8) : List Int × Bool := match labVals l with
  | some vs => (vs, true)
  | none => ([], false)
theorem lvR_yes {l : List UInt8} {vs : List Int} (h : LabR l vs) : lvR l = (vs, true) := by unfold lvR; rw [labVals_yes h]
theorem lvR_no {l : List UInt8} (h : ∀ vs, ¬ LabR l vs) : lvR l = ([], false) := by unfold lvR; rw [labVals_no h]
theorem labR_len {l : List UInt8} {vs : List Int} (h : LabR l vs) : vs.length ≤ 2 := by obtain ⟨_, hok, _⟩ := h; exact hok.2.1
theorem lvR_len (l : List UInt8) : (lvR l).1.length ≤ 2000000 := by
  by_cases h : ∃ vs, LabR l vs
  · obtain ⟨vs, h⟩ := h
    have := labR_len h
    rw [lvR_yes h]
    simp only
    omega
  · rw [lvR_no (fun vs hv => h ⟨vs, hv⟩)]; simp
theorem labName_yes {l : List UInt8} {vs : List Int} (h : LabR l vs) : labName l = preL l := by unfold labName; rw [labVals_yes h]; rfl
theorem labName_no {l : List UInt8} (h : ∀ vs, ¬ LabR l vs) : labName l = [] := by unfold labName; rw [labVals_no h]; rfl
theorem implIsLabel_any (s : ByteArray) (w : World) (hsz : s.size ≤ 1048576) (ht : TxtTabs w) :
    Calls Tryz.prog 78 #[.string s] w fun e w' => e = .returned (.bool (lvR s.data.toList).2) ∧ Below w.heap.size w w' := by
  have HC := Lib.hid (implReadLabel_any s w hsz ht)
  clear ht
  go_enter Tryz.func78, Tryz.ntmps78
  go_wp2_with fail
  refine HC.out.mono ?_; rintro e w1 ⟨(⟨vs, A, c, hvs, rfl, ho⟩ | ⟨hvs, rfl⟩), hb⟩
  · have HR := Lib.hid (lvR_yes hvs)
    have HB := Lib.hid hb
    clear hb ho
    go_wp2
    go_ret
    exact ⟨by rw [HR.out]; rfl, HB.out⟩
  · have HR := Lib.hid (lvR_no hvs)
    have HB := Lib.hid hb
    clear hb
    go_wp2
    go_ret
    exact ⟨by rw [HR.out]; rfl, HB.out⟩
end Go.Proofs.YtbailpfjgjcbdaaGreatDoor

namespace Go.Proofs.YtbailpfjgjcbdaaGreatDoor
open Go.RowKit Go.Lib
theorem byte_no {c d : UInt8} (h : c ≠ d) : ((c.toNat : Int) == (d.toNat : Int)) = false := ib_ne (fun e => h (UInt8.toNat_inj.1 (by omega)))
theorem take_no {s : ByteArray} {k : Nat} (h : k < s.size) (hn : s[k] ≠ 40) (hk : (40 : UInt8) ∉ s.data.toList.take k) : (40 : UInt8) ∉ s.data.toList.take (k + 1) := by
  rw [take_snoc s k h, List.mem_append, List.mem_singleton]
  exact fun e => e.elim hk (fun e => hn e.symm)
theorem specOpen_any (s : ByteArray) (w : World) (hsz : s.size ≤ 1048576) :
    Calls Tryz.prog 105 #[.string s] w fun e w' => e = .returned (.int .i64 ((preL s.data.toList).length : Int)) ∧ w = w' := by
  go_enter Tryz.func105, Tryz.ntmps105
  go_wp2
  go_loop [3] (fun i => ∃ k : Nat, k ≤ s.size ∧ i = .int .i64 k ∧ Hid ((40 : UInt8) ∉ s.data.toList.take k)) (fun i => s.size - (intOf i).toNat)
  case atStart => exact ⟨0, Nat.zero_le _, rfl, Lib.hid (by simp)⟩
  case round =>
    obtain ⟨k, hk, rfl, HK⟩ := hrel
    by_cases hlt : k < s.size
    · have hb := (s[k]).toNat_lt
      by_cases he : s[k] = 40
      · have H := Lib.hid (show (preL s.data.toList).length = k by
          have : s.data.toList = s.data.toList.take k ++ 40 :: s.data.toList.drop (k + 1) := by
            have := drop_one s.data.toList k 40 (by rw [byte_at s k hlt, he])
            rw [← this, List.take_append_drop]
          rw [this, preL_open HK.out, List.length_take, byte_len]
          omega)
        have he' : (((s[k]).toNat : Int) == 40) = true := by rw [he]; rfl
        clear he
        go_wp2
        go_ret
        exact ⟨by rw [H.out]; rfl, rfl⟩
      · have HM := Lib.hid (take_no hlt he HK.out)
        have he' : (((s[k]).toNat : Int) == 40) = false := ib_ne (fun e => he (UInt8.toNat_inj.1 (by have h40 : (40 : UInt8).toNat = 40 := rfl
                                                                                                     omega)))
        clear he
        go_wp2
        go_round
        case rel => exact ⟨k + 1, by omega, by go_num, HM⟩
        case measure => simp [intOf]; omega
    · have hke : k = s.size := by omega
      have H := Lib.hid (show (preL s.data.toList).length = s.size by
        have := HK.out
        rw [List.take_of_length_le (by rw [byte_len]; omega)] at this
        rw [preL_plain this, byte_len])
      clear hke
      go_wp2
      go_ret
      exact ⟨by rw [H.out]; rfl, rfl⟩
/-- What the model reads of a label: its values in a slice of its own, or that it is none. -/
def LvRet (w : World) (l : List UInt8) (e : Ending) (w' : World) : Prop :=
  ((∃ vs A c, LabR l vs ∧ e = .returned (.tuple #[.slice A vs.length c, .bool true]) ∧ OwnV w' w.heap.size w'.heap.size 2 1 A vs.length c (vs.map (Value.int .i64))) ∨
   ((∀ vs, ¬ LabR l vs) ∧ ∃ A n c, e = .returned (.tuple #[.slice A n c, .bool false]))) ∧ Below w.heap.size w w'
theorem last_byte {s : ByteArray} (h : 0 < s.size) : s.data.toList.getLast? = some (s[s.size - 1]'(by omega)) := by
  rw [List.getLast?_eq_getElem?, byte_len]
  exact byte_at s (s.size - 1) (by omega)
theorem act_iff {l : List UInt8} : actionB l = true ↔ nameP l ∧ l ≠ tauB := by
  constructor
  · intro h
    exact ⟨nameB_iff.1 (act_ok h).1, (act_ok h).2⟩
  · rintro ⟨h1, h2⟩
    unfold actionB
    rw [nameB_yes h1, Bool.true_and]
    simpa [tauBytes, tauB] using h2
theorem slice_mid (s : ByteArray) (a b : Nat) (i j : Int) (hi : i = a) (hj : j = b) (h1 : a ≤ b) (h2 : b ≤ s.size) (W : World) :
    (Instr.slice 9 (.string s) (some (.int .i64 i)) (some (.int .i64 j)) none).run Tryz.prog W = .ok (.string (s.extract a b)) W := by
  subst hi hj
  simp [Instr.slice, Instr.sliceBounds, Instr.sliceBound, asIntOf, run_underlying Tryz.underlying9, h1, h2]
theorem ext_bytes (s : ByteArray) (a b : Nat) : (s.extract a b).data.toList = (s.data.toList.drop a).take (b - a) := by rw [extract_data]
set_option maxHeartbeats 3200000 in
set_option maxRecDepth 100000 in
theorem specValues_any (s : ByteArray) (w : World) (hsz : s.size ≤ 1048576) :
    Calls Tryz.prog 91 #[.string s] w fun e w' => LvRet w s.data.toList e w' := by
  obtain ⟨i0, hi, hz0, hz1, hz2⟩ := info_parts info_i64
  have HOp := Lib.hid (specOpen_any s w hsz)
  by_cases hm : (40 : UInt8) ∈ s.data.toList
  · obtain ⟨p, r, hl, hp⟩ := pcs_split _ 40 s.data.toList (Nat.le_refl _) hm
    have hlen : p.length + (r.length + 1) = s.size := by rw [← byte_len, hl, List.length_append, List.length_cons]
    rw [hl, preL_open hp] at HOp
    have HL := Lib.hid hl
    have HP := Lib.hid hp
    have hat : ((p.length : Int) == (s.size : Int)) = false := ib_ne (by omega)
    have hpre : (s.extract 0 p.length).data.toList = p := by rw [ext_bytes, hl]; simp
    have HAc := Lib.hid (fun W => specAction_any (s.extract 0 p.length) W)
    rw [hpre] at HAc
    have hlast := last_byte (s := s) (by omega)
    have hb := (s[s.size - 1]'(by omega)).toNat_lt
    clear hl hp hm hpre
    rcases hac : actionB p with _ | _
    · have HN := Lib.hid (show ∀ us, ¬ LabR s.data.toList us from fun us hu => by
        rw [HL.out] at hu
        obtain ⟨q', e, h1, h2, _⟩ := (lab_open HP.out).1 hu
        rw [act_iff.2 ⟨h1, h2⟩] at hac
        cases hac)
      rw [hac] at HAc
      clear hlast hac
      go_enter Tryz.func91, Tryz.ntmps91
      go_wp2_with fail
      refine HOp.out.mono ?_; rintro e w1 ⟨rfl, rfl⟩
      go_wp2_with fail
      refine (HAc.out _).mono ?_; rintro e w1 ⟨rfl, rfl⟩
      go_wp2
      go_ret2
      exact ⟨.inr ⟨HN.out, _, _, _, rfl⟩, Below.refl _ _⟩
    · rw [hac] at HAc
      have HA := Lib.hid (act_iff.1 hac)
      clear hac
      by_cases h41 : s[s.size - 1]'(by omega) = 41
      · rw [h41] at hlast
        have h41' : (((s[s.size - 1]'(by omega)).toNat : Int) == 41) = true := by rw [h41]; rfl
        obtain ⟨q, hq⟩ : ∃ q, r = q ++ [41] := by
          rw [HL.out, List.getLast?_append] at hlast
          cases r with
          | nil => simp at hlast
          | cons b r' =>
            have : (b :: r').getLast? = some 41 := by simpa [List.getLast?_cons_cons] using hlast
            obtain ⟨q, hq⟩ := List.getLast?_eq_some_iff.1 this
            exact ⟨q, hq⟩
        have hql : q.length + 1 = r.length := by rw [hq]; simp
        have hmid : (s.extract (p.length + 1) (s.size - 1)).data.toList = q := by
          have e1 : p ++ 40 :: (q ++ [41]) = (p ++ [40]) ++ (q ++ [41]) := by simp
          rw [ext_bytes, HL.out, hq, e1, List.drop_left' (show (p ++ [40]).length = p.length + 1 by simp), List.take_left' (show q.length = s.size - 1 - (p.length + 1) by omega)]
        have hmsz : (s.extract (p.length + 1) (s.size - 1)).size = q.length := by rw [← byte_len, hmid]
        have HC := Lib.hid (fun W => split_any (s.extract (p.length + 1) (s.size - 1)) 44 W (by omega))
        rw [hmid] at HC
        have HSum := Lib.hid (show ∀ x ∈ pcs 44 q, x.length ≤ 1048576 from fun x hx => by
          have := pcs_sum 44 q x hx
          omega)
        have HX := Lib.hid (show ∀ us, LabR s.data.toList us ↔ Read inMod (pcs 44 q) us ∧ us.length ≤ 2 from fun us => by
          rw [HL.out, lab_open HP.out]
          constructor
          · rintro ⟨q', e, _, _, h3, h4⟩
            have : q = q' := List.append_cancel_right (hq.symm.trans e)
            subst this
            exact ⟨h3, h4⟩
          · rintro ⟨h3, h4⟩
            exact ⟨q, hq, HA.out.1, HA.out.2, h3, h4⟩)
        have hcnt : (pcs 44 q).length ≤ 1048577 := by
          rw [pcs_count]
          have := List.count_le_length (a := (44 : UInt8)) (l := q)
          omega
        have hslice := slice_mid s (p.length + 1) (s.size - 1) ((p.length : Int) + 1) ((s.size : Int) - 1) (by omega) (by omega) (by omega) (by omega)
        clear hlast hmid hmsz hq h41
        generalize hps : pcs 44 q = ps at *
        clear hps
        generalize hN : ps.length = N at *
        have HN := Lib.hid hN
        clear hN
        go_enter Tryz.func91, Tryz.ntmps91
        go_wp2_with fail
        refine HOp.out.mono ?_; rintro e w1 ⟨rfl, rfl⟩
        go_wp2_with fail
        refine (HAc.out _).mono ?_; rintro e w1 ⟨rfl, rfl⟩
        go_wp2_with fail
        refine (HC.out _).mono ?_; rintro e w1 ⟨A0, c0, rfl, ho, hb⟩
        have HB1 := Lib.hid hb
        have hs1 := hb.size
        have HRow := Lib.hid (Row.of_own ho.own)
        clear ho hb
        have HO := Lib.hid (World.ownsRow_made (e := 2) (size := 1) w1 #[] 0 (Nat.le_refl _) (Nat.zero_le _) rfl)
        have HBL := Lib.hid (show Below w1.heap.size w1 (w1.alloc (.cells #[] 2)) from (Below.refl _ _).alloc (Nat.le_refl _) _)
        go_wp2
        go_loopw [6, 7, 8, 9] (fun ov iv _ _ wr => ∃ (k : Nat) (vs : List Int) (A : Option Addr) (c : Nat), k ≤ N ∧ vs.length = k ∧ iv = .int .i64 k ∧ ov = .slice A k c ∧ Below w1.heap.size w1 wr ∧ wr.ownsRow w1.heap.size 2 1 ov k (vs.map (Value.int .i64)) ∧ Hid (Read inMod (ps.take k) vs)) (fun _ iv _ _ _ => N - (intOf iv).toNat)
        case atStart => exact ⟨0, [], _, _, Nat.zero_le _, rfl, rfl, rfl, HBL.out, HO.out, Lib.hid Read.start⟩
        case round =>
          obtain ⟨k, vs, A, c, hk, hvl, rfl, rfl, hb, hown, HI⟩ := hrel
          obtain ⟨wo, rfl⟩ : ∃ wo : World, wo = wr := ⟨_, rfl⟩
          have HB := Lib.hid hb
          have HOW := Lib.hid hown
          have hsz2 := hb.size
          have HVL := Lib.hid hvl
          clear HO HBL hb hown hvl
          by_cases hlt : k < N
          · obtain ⟨b, off, rfl, hbb, hc⟩ := (HRow.out.below HB.out).at_ (k := k) (by rw [strs_len, HN.out]; exact hlt)
            obtain ⟨p, hp⟩ : ∃ p, ps[k]? = some p := ⟨_, List.getElem?_eq_getElem (by rw [HN.out]; exact hlt)⟩
            have hc' : wo.cell? ⟨b, off + k, none⟩ = some (.string ⟨p.toArray⟩) := by
              rw [hc]
              have : (strs ps)[k]? = some (.string ⟨p.toArray⟩) := by unfold strs; rw [List.getElem?_map, hp]; rfl
              rw [List.getElem?_eq_getElem (by rw [strs_len, HN.out]; exact hlt)] at this
              exact this
            have HP := Lib.hid hp
            have hple : (⟨p.toArray⟩ : ByteArray).size ≤ 1048576 := by
              rw [list_size]
              have := HSum.out p (List.mem_of_getElem? hp)
              omega
            have HRd := Lib.hid (specNumber_any ⟨p.toArray⟩ wo hple)
            have ep : (⟨p.toArray⟩ : ByteArray).data.toList = p := rfl
            rw [ep] at HRd
            clear hc hp ep hple
            generalize (⟨p.toArray⟩ : ByteArray) = word at *
            rcases hnum : num p with _ | v
            · have H := Lib.hid (fun vs => read_stop (P := inMod) HP.out hnum vs)
              rw [hnum] at HRd
              go_wp2_with fail
              refine HRd.out.mono ?_; rintro e w3 ⟨rfl, rfl⟩
              unfold numRet
              go_wp2
              go_ret2
              have HNo := Lib.hid (show ∀ us, ¬ LabR s.data.toList us from fun us hu => H.out us ((HX.out us).1 hu).1)
              exact ⟨.inr ⟨HNo.out, _, _, _, rfl⟩, HB1.out.trans (HB.out.mono hs1)⟩
            · rw [hnum] at HRd
              by_cases hin : 0 ≤ v ∧ v ≤ 63
              · have HS := Lib.hid (HI.out.step HP.out hnum (show inMod v = true by unfold inMod; exact decide_eq_true hin))
                go_wp2_with (first
                  | (go_at_call 109; refine HRd.out.mono ?_; rintro e w3 ⟨rfl, rfl⟩; unfold numRet)
                  | (go_at_call 57; refine (l00In_yes v _ _ hin _).mono ?_; rintro e w3 ⟨rfl, rfl⟩)
                  | (at_builtin; refine wpList_append_own _ rfl _ _ 26 rfl w1.heap.size 2 i0 (.int .i64 0) 1 8 Tryz.underlying26 hi hz0 hz1 hz2 rfl (by decide) (.slice A k c) k (vs.map (Value.int .i64)) rfl (by exact HOW.out.alloc _) ⟨wo.heap.size, 0, none⟩ 1 1 [.int .i64 v] rfl rfl (cell_one_new _ _ _) (by intro u hu; simp at hu; subst hu; rfl) (by unfold maxLen; omega) (by omega) (by simp; omega) ?_; intro v2 w2 ho hg _; have HG := Lib.hid hg; have HO2 := Lib.hid ho; clear ho hg))
                obtain ⟨A4, c4, rfl⟩ := own_shape_s HO2.out
                go_roundw
                case rel => exact ⟨k + 1, vs ++ [v], A4, c4, by omega, by rw [List.length_append, HVL.out]; rfl, by go_num, rfl, (HB.out.alloc hsz2 _).grown HG.out (by simp; omega) (fun q hq => (HOW.out.lt q hq).1), by rw [List.map_append]; exact HO2.out, HS⟩
                case measure => simp [intOf]; omega
              · have H := Lib.hid (fun vs => read_out (P := inMod) HP.out hnum (show inMod v = false by unfold inMod; exact decide_eq_false hin) vs)
                go_wp2_with (first
                  | (go_at_call 109; refine HRd.out.mono ?_; rintro e w3 ⟨rfl, rfl⟩; unfold numRet)
                  | (go_at_call 57; refine (l00In_no v _ _ (by omega) _).mono ?_; rintro e w3 ⟨rfl, rfl⟩))
                go_ret2
                have HNo := Lib.hid (show ∀ us, ¬ LabR s.data.toList us from fun us hu => H.out us ((HX.out us).1 hu).1)
                exact ⟨.inr ⟨HNo.out, _, _, _, rfl⟩, HB1.out.trans (HB.out.mono hs1)⟩
          · have hke : k = N := by omega
            subst hke
            have HR := Lib.hid (show Read inMod ps vs by have := HI.out; rwa [List.take_of_length_le (by rw [HN.out]; exact Nat.le_refl _)] at this)
            have HF := Lib.hid (own_lowerS HOW.out hs1)
            have HB3 := Lib.hid (HB1.out.trans (HB.out.mono hs1))
            by_cases h2 : k ≤ 2
            · have h2' : (k : Int) ≤ 2 := by omega
              have HY := Lib.hid ((HX.out vs).2 ⟨HR.out, by rw [HVL.out]; exact h2⟩)
              clear h2
              go_wp2
              go_ret2
              exact ⟨.inl ⟨vs, A, c, HY.out, by rw [HVL.out]; rfl, by rw [HVL.out]; exact OwnV.mk' HF.out⟩, HB3.out⟩
            · have h2' : ¬ (k : Int) ≤ 2 := by omega
              have HNo := Lib.hid (show ∀ us, ¬ LabR s.data.toList us from fun us hu => by
                obtain ⟨h3, h4⟩ := (HX.out us).1 hu
                have := HR.out.inj h3
                subst this
                rw [HVL.out] at h4
                exact h2 h4)
              clear h2
              go_wp2
              go_ret2
              exact ⟨.inr ⟨HNo.out, _, _, _, rfl⟩, HB3.out⟩
      · have HN := Lib.hid (show ∀ us, ¬ LabR s.data.toList us from fun us hu => by
          rw [HL.out] at hu
          obtain ⟨q', e, _⟩ := (lab_open HP.out).1 hu
          have h9 : s.data.toList.getLast? = some 41 := by rw [HL.out, e, show p ++ 40 :: (q' ++ [41]) = (p ++ 40 :: q') ++ [41] by simp]; exact List.getLast?_concat
          rw [hlast] at h9
          injection h9 with h9
          exact h41 h9)
        have h41' : (((s[s.size - 1]'(by omega)).toNat : Int) == 41) = false := byte_no h41
        clear h41 hlast
        go_enter Tryz.func91, Tryz.ntmps91
        go_wp2_with fail
        refine HOp.out.mono ?_; rintro e w1 ⟨rfl, rfl⟩
        go_wp2_with fail
        refine (HAc.out _).mono ?_; rintro e w1 ⟨rfl, rfl⟩
        go_wp2
        go_ret2
        exact ⟨.inr ⟨HN.out, _, _, _, rfl⟩, Below.refl _ _⟩
  · have hpl : (preL s.data.toList).length = s.size := by rw [preL_plain hm, byte_len]
    rw [hpl] at HOp
    have HM := Lib.hid hm
    have hat : ((s.size : Int) == (s.size : Int)) = true := ib_eq rfl
    clear hm hpl
    have HO := Lib.hid (World.ownsRow_made (e := 2) (size := 1) w #[] 0 (Nat.le_refl _) (Nat.zero_le _) rfl)
    have HBL := Lib.hid (show Below w.heap.size w (w.alloc (.cells #[] 2)) from (Below.refl _ _).alloc (Nat.le_refl _) _)
    rcases hn : nameB s.data.toList with _ | _
    · have HN := Lib.hid (show ∀ us, ¬ LabR s.data.toList us from fun us hu => by
        have := ((lab_plain HM.out).1 hu).1
        rw [nameB_yes this] at hn
        cases hn)
      go_enter Tryz.func91, Tryz.ntmps91
      go_wp2_with fail
      refine HOp.out.mono ?_; rintro e w1 ⟨rfl, rfl⟩
      go_wp2_with (go_at_call 106; refine (specName_any _ _).mono ?_; rw [hn]; rintro e w' ⟨rfl, rfl⟩)
      go_ret2
      exact ⟨.inr ⟨HN.out, _, _, _, rfl⟩, HBL.out⟩
    · have HY := Lib.hid (show LabR s.data.toList [] from (lab_plain HM.out).2 ⟨nameB_iff.1 hn, rfl⟩)
      go_enter Tryz.func91, Tryz.ntmps91
      go_wp2_with fail
      refine HOp.out.mono ?_; rintro e w1 ⟨rfl, rfl⟩
      go_wp2_with (go_at_call 106; refine (specName_any _ _).mono ?_; rw [hn]; rintro e w' ⟨rfl, rfl⟩)
      go_ret2
      exact ⟨.inl ⟨[], _, _, HY.out, rfl, OwnV.mk' HO.out⟩, HBL.out⟩
theorem specLabel_any (s : ByteArray) (w : World) (hsz : s.size ≤ 1048576) :
    Calls Tryz.prog 67 #[.string s] w fun e w' => e = .returned (.bool (lvR s.data.toList).2) ∧ Below w.heap.size w w' := by
  have HC := Lib.hid (specValues_any s w hsz)
  go_enter Tryz.func67, Tryz.ntmps67
  go_wp2_with fail
  refine HC.out.mono ?_; rintro e w1 ⟨(⟨vs, A, c, hvs, rfl, ho⟩ | ⟨hvs, A, n, c, rfl⟩), hb⟩
  · have HR := Lib.hid (lvR_yes hvs)
    have HB := Lib.hid hb
    clear hb ho
    go_wp2
    go_ret
    exact ⟨by rw [HR.out]; rfl, HB.out⟩
  · have HR := Lib.hid (lvR_no hvs)
    have HB := Lib.hid hb
    clear hb
    go_wp2
    go_ret
    exact ⟨by rw [HR.out]; rfl, HB.out⟩
theorem pre_bytes (s : ByteArray) : (s.extract 0 (preL s.data.toList).length) = ⟨(preL s.data.toList).toArray⟩ := by
  apply ByteArray.ext
  apply Array.ext'
  rw [ext_bytes]
  show _ = preL s.data.toList
  by_cases hm : (40 : UInt8) ∈ s.data.toList
  · obtain ⟨p, r, hl, hp⟩ := pcs_split _ 40 s.data.toList (Nat.le_refl _) hm
    rw [hl, preL_open hp]
    simp
  · rw [preL_plain hm, List.drop_zero, Nat.sub_zero, List.take_length]
theorem pre_le (s : ByteArray) : (preL s.data.toList).length ≤ s.size := by
  rw [← byte_len]
  unfold preL
  exact (List.takeWhile_sublist _).length_le
end Go.Proofs.YtbailpfjgjcbdaaGreatDoor
