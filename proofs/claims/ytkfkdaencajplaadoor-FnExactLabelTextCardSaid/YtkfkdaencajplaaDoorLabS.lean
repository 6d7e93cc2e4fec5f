/- The text of a label: the model's function. -/
import Derived.Test.YtkfkdaencajplaaDoorLabN
import Derived.Test.YtkfkdaencajplaaDoorLisW
namespace Go.Proofs.YtkfkdaencajplaaDoor
open Go.RowKit Go.Lib
set_option maxHeartbeats 800000 in
theorem specMake_any (s : ByteArray) (A : Option Addr) (n c : Nat) (vs : List Int) (w : World) (hr : IRow w w.heap.size A vs) (hn : vs.length = n) (h2 : n ≤ 2) (hs : s.size ≤ 10) (hwf : Wf vs) :
    Calls Tryd.prog 39 #[.string s, .slice A n c] w fun e w' => e = .returned (.string ⟨(make s.data.toList vs).toArray⟩) ∧ Below w.heap.size w w' := by
  by_cases h0 : n = 0
  · have hz : ((n : Int) == 0) = true := ib_eq (by omega)
    have H := Lib.hid (show (⟨(make s.data.toList vs).toArray⟩ : ByteArray) = s by unfold make; rw [if_pos (List.length_eq_zero_iff.1 (hn.trans h0))])
    clear h0 hn
    go_enter Tryd.func39, Tryd.ntmps39
    go_wp2
    go_ret
    exact ⟨by rw [H.out]; rfl, Below.refl _ _⟩
  · have hz : ((n : Int) == 0) = false := ib_ne (by omega)
    have HC := Lib.hid (specList_any A n c vs w hr hn (by omega) hwf)
    have hv : vs ≠ [] := fun e => h0 (by rw [← hn, e]; rfl)
    have H := Lib.hid (show (⟨(make s.data.toList vs).toArray⟩ : ByteArray) = s ++ ⟨#[40]⟩ ++ ⟨(listT vs).toArray⟩ ++ ⟨#[41]⟩ by
      unfold make listT
      rw [if_neg hv, if_neg hv, str_app, str_app, str_app]
      simp)
    have hl : (⟨(listT vs).toArray⟩ : ByteArray).size ≤ 100 := by
      rw [list_size]
      have := decs_short vs hwf
      unfold listT
      rw [if_neg hv]
      omega
    clear h0 hn hv hr hwf
    generalize (⟨(listT vs).toArray⟩ : ByteArray) = tx at *
    go_enter Tryd.func39, Tryd.ntmps39
    go_wp2_with fail
    refine HC.out.mono ?_; rintro e w1 ⟨rfl, hb⟩
    have HB := Lib.hid hb
    clear hb
    go_wp2
    go_ret
    exact ⟨by rw [H.out]; rfl, HB.out⟩
set_option maxHeartbeats 1600000 in
theorem specLabelText_any (s : ByteArray) (A : Option Addr) (n c : Nat) (vs : List Int) (w : World) (hr : IRow w w.heap.size A vs) (hn : vs.length = n) (hm : n ≤ 1048576) (hwf : Wf vs) :
    Calls Tryd.prog 23 #[.string s, .slice A n c] w fun e w' => e = .returned (.string ⟨(labText s.data.toList vs).toArray⟩) ∧ Below w.heap.size w w' := by
  have HR := Lib.hid hr
  have HL := Lib.hid hn
  have HW := Lib.hid hwf
  clear hr hn hwf
  rcases hnm : nameB s.data.toList with _ | _
  · have H := Lib.hid (lab_none (vs := vs) (ok_name hnm))
    go_enter Tryd.func23, Tryd.ntmps23
    go_wp2_with (go_at_call 38; refine (specName_any _ _).mono ?_; rw [hnm]; rintro e w' ⟨rfl, rfl⟩)
    go_ret
    exact ⟨by rw [H.out]; rfl, Below.refl _ _⟩
  have hle := name_le hnm
  rw [byte_len] at hle
  by_cases h2 : 2 < n
  · have H := Lib.hid (lab_none (nm := s.data.toList) (vs := vs) (ok_long (by rw [HL.out]; exact h2)))
    have h2' : (2 : Int) < (n : Int) := by omega
    go_enter Tryd.func23, Tryd.ntmps23
    go_wp2_with (go_at_call 38; refine (specName_any _ _).mono ?_; rw [hnm]; rintro e w' ⟨rfl, rfl⟩)
    go_ret
    exact ⟨by rw [H.out]; rfl, Below.refl _ _⟩
  have h2' : ¬ (2 : Int) < (n : Int) := by omega
  rcases htau : (s.toList == [116, 97, 117]) with _ | _
  · have HT := Lib.hid (show s.data.toList = tauB → vs = [] from fun e => absurd e (tau_no htau))
    go_enter Tryd.func23, Tryd.ntmps23
    go_wp2_with (go_at_call 38; refine (specName_any _ _).mono ?_; rw [hnm]; rintro e w' ⟨rfl, rfl⟩)
    have HN := Lib.hid hnm
    clear hnm htau
    go_loopw [5] (fun iv wr => ∃ k : Nat, k ≤ n ∧ iv = .int .i64 k ∧ Drawn w wr ∧ Hid ((vs.take k).all inMod = true)) (fun i _ => n - (intOf i).toNat)
    case atStart => exact ⟨0, Nat.zero_le _, rfl, Drawn.refl _, Lib.hid (by simp)⟩
    case round =>
      obtain ⟨k, hk, rfl, hd, HI⟩ := hrel
      obtain ⟨wo, rfl⟩ : ∃ wo : World, wo = wr := ⟨_, rfl⟩
      have HD := Lib.hid hd
      have hsz := (hd.below w.heap.size).size
      clear hd
      by_cases hlt : k < n
      · obtain ⟨b, off, u, rfl, hbb, hc, HU⟩ := (HR.out.drawn HD.out).at_ (k := k) (by rw [HL.out]; exact hlt)
        by_cases hin : 0 ≤ u ∧ u ≤ 63
        · have HS := Lib.hid (show (vs.take (k + 1)).all inMod = true by rw [take_one vs k u HU.out, List.all_append, HI.out]; simp [show inMod u = true by unfold inMod; exact decide_eq_true hin])
          go_wp2_with (refine (l00In_yes u _ _ hin _).mono ?_; rintro e w' ⟨rfl, rfl⟩)
          go_roundw
          case rel => exact ⟨k + 1, by omega, by go_num, by first | exact HD.out.drew | exact HD.out.drew.drew | exact HD.out, HS.out⟩
          case measure => simp [intOf]; omega
        · have H := Lib.hid (lab_none (nm := s.data.toList) (ok_val (ok_bad HU.out (show inMod u = false by unfold inMod; exact decide_eq_false hin))))
          go_wp2_with (refine (l00In_no u _ _ (by omega) _).mono ?_; rintro e w' ⟨rfl, rfl⟩)
          go_ret
          exact ⟨by rw [H.out]; rfl, by first | exact HD.out.drew.below _ | exact HD.out.drew.drew.below _ | exact HD.out.below _⟩
      · have HOK := Lib.hid (show LabOk s.data.toList vs from ⟨nameB_iff.1 HN.out, by rw [HL.out]; omega, HT.out, by have := HI.out; rwa [List.take_of_length_le (by rw [HL.out]; omega)] at this⟩)
        have H := Lib.hid (show (⟨(labText s.data.toList vs).toArray⟩ : ByteArray) = ⟨(make s.data.toList vs).toArray⟩ by rw [labText_yes HOK.out])
        have HM := Lib.hid (specMake_any s A n c vs wo ((HR.out.drawn HD.out).more hsz) HL.out (by omega) hle.2 HW.out)
        go_wp2_with fail
        refine HM.out.mono ?_; rintro e w2 ⟨rfl, hb2⟩
        have HB := Lib.hid ((HD.out.below w.heap.size).trans (hb2.mono hsz))
        clear hb2
        go_wp2
        go_ret
        exact ⟨by rw [H.out]; rfl, HB.out⟩
  · by_cases h0 : 0 < n
    · have H := Lib.hid (lab_none (nm := s.data.toList) (vs := vs) (ok_tau (tau_iff.1 htau) (fun e => by rw [← HL.out, e] at h0; simp at h0)))
      have h0' : (0 : Int) < (n : Int) := by omega
      go_enter Tryd.func23, Tryd.ntmps23
      go_wp2_with (go_at_call 38; refine (specName_any _ _).mono ?_; rw [hnm]; rintro e w' ⟨rfl, rfl⟩)
      go_ret
      exact ⟨by rw [H.out]; rfl, Below.refl _ _⟩
    · have HT := Lib.hid (show s.data.toList = tauB → vs = [] from fun _ => List.length_eq_zero_iff.1 (by rw [HL.out]; omega))
      have h0' : ¬ (0 : Int) < (n : Int) := by omega
      clear h0
      go_enter Tryd.func23, Tryd.ntmps23
      go_wp2_with (go_at_call 38; refine (specName_any _ _).mono ?_; rw [hnm]; rintro e w' ⟨rfl, rfl⟩)
      have HN := Lib.hid hnm
      clear hnm htau
      go_loopw [5] (fun iv wr => ∃ k : Nat, k ≤ n ∧ iv = .int .i64 k ∧ Drawn w wr ∧ Hid ((vs.take k).all inMod = true)) (fun i _ => n - (intOf i).toNat)
      case atStart => exact ⟨0, Nat.zero_le _, rfl, Drawn.refl _, Lib.hid (by simp)⟩
      case round =>
        obtain ⟨k, hk, rfl, hd, HI⟩ := hrel
        obtain ⟨wo, rfl⟩ : ∃ wo : World, wo = wr := ⟨_, rfl⟩
        have HD := Lib.hid hd
        have hsz := (hd.below w.heap.size).size
        clear hd
        by_cases hlt : k < n
        · exfalso
          omega
        · have HOK := Lib.hid (show LabOk s.data.toList vs from ⟨nameB_iff.1 HN.out, by rw [HL.out]; omega, HT.out, by have := HI.out; rwa [List.take_of_length_le (by rw [HL.out]; omega)] at this⟩)
          have H := Lib.hid (show (⟨(labText s.data.toList vs).toArray⟩ : ByteArray) = ⟨(make s.data.toList vs).toArray⟩ by rw [labText_yes HOK.out])
          have HM := Lib.hid (specMake_any s A n c vs wo ((HR.out.drawn HD.out).more hsz) HL.out (by omega) hle.2 HW.out)
          go_wp2_with fail
          refine HM.out.mono ?_; rintro e w2 ⟨rfl, hb2⟩
          have HB := Lib.hid ((HD.out.below w.heap.size).trans (hb2.mono hsz))
          clear hb2
          go_wp2
          go_ret
          exact ⟨by rw [H.out]; rfl, HB.out⟩
end Go.Proofs.YtkfkdaencajplaaDoor
