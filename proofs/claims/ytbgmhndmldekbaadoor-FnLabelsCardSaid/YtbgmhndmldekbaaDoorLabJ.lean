/- The text of a label: the program's function. -/
import Derived.Test.YtbgmhndmldekbaaDoorLabN
import Derived.Test.YtbgmhndmldekbaaDoorLabT
import Derived.Test.YtbgmhndmldekbaaDoorLisI
namespace Go.Proofs.YtbgmhndmldekbaaDoor
open Go.RowKit Go.Lib
theorem BRow.lower {w : World} {B C : Nat} {v : Value} {l : List UInt8} (h : BRow w B v l) (hB : C ≤ B) : BRow w C v l := by
  obtain ⟨g, cap, e, h1, h2⟩ := h
  exact ⟨g, cap, e, Nat.le_trans hB h1, h2⟩
theorem any_not2 (xs : List Int) (p : Int → Bool) : xs.any (fun u => !p u) = !xs.all p := by
  induction xs with
  | nil => rfl
  | cons x r ih => rw [List.any_cons, List.all_cons, ih, Bool.not_and]
theorem ok_act {l : List UInt8} {vs : List Int} (h : actionB l = false) (ht : l = tauB → vs ≠ []) : ¬ LabOk l vs := by
  unfold actionB at h
  rcases hn : nameB l with _ | _
  · exact ok_name hn
  · rw [hn, Bool.true_and] at h
    have e : l = tauB := by simpa [tauBytes, tauB] using h
    exact ok_tau e (ht e)
theorem act_ok {l : List UInt8} (h : actionB l = true) : nameB l = true ∧ l ≠ tauB := by
  unfold actionB at h
  rw [Bool.and_eq_true] at h
  exact ⟨h.1, fun e => by rw [e] at h; exact absurd h.2 (by decide)⟩
theorem back_conv (w : World) {B : Nat} {v : Value} {l : List UInt8} (h : BRow w B v l) : ∃ g cap, v = .slice (some ⟨g, 0, none⟩) l.length cap ∧ (convert 22 9 (.slice (some ⟨g, 0, none⟩) l.length cap)).run Tryd.prog w = .ok (.string ⟨l.toArray⟩) w := by
  obtain ⟨g, cap, e, hc⟩ := h.row
  refine ⟨g, cap, e, run_convert_bytes_back (P := Tryd.prog) w 22 9 5 ⟨g, 0, none⟩ cap l Tryd.underlying22 Tryd.underlying5 Tryd.underlying9 (fun j hj => ?_)⟩
  have := hc j _ (List.getElem?_eq_getElem (by rw [bv_len]; exact hj))
  rw [show (⟨g, 0, none⟩ : Addr).add j = ⟨g, j, none⟩ by unfold Addr.add; split <;> simp_all, this]
  simp [bv]
set_option maxHeartbeats 3200000 in
set_option maxRecDepth 100000 in
theorem implLabelText_any (s : ByteArray) (A : Option Addr) (n c : Nat) (vs : List Int) (w : World) (hr : IRow w w.heap.size A vs) (hn : vs.length = n) (hm : n ≤ 1048576) :
    Calls Tryd.prog 6 #[.string s, .slice A n c] w fun e w' => e = .returned (.string ⟨(labText s.data.toList vs).toArray⟩) ∧ Below w.heap.size w w' := by
  have HR := Lib.hid hr
  have HL := Lib.hid hn
  clear hr hn
  by_cases h0 : n = 0
  · have hz : ((n : Int) == 0) = true := ib_eq (by omega)
    have HV := Lib.hid (show vs = [] from List.length_eq_zero_iff.1 (by rw [HL.out]; exact h0))
    clear h0
    rcases htau : (s.toList == [116, 97, 117]) with _ | _
    · have HT := Lib.hid (show s.data.toList = tauB → vs ≠ [] from fun e => absurd e (tau_no htau))
      rcases hac : actionB s.data.toList with _ | _
      · have H := Lib.hid (lab_none (ok_act hac HT.out))
        go_enter Tryd.func6, Tryd.ntmps6
        go_wp2_with (go_at_call 16; refine (implAction_any _ _).mono ?_; rw [hac]; rintro e w1 ⟨rfl, hb1⟩; have HB1 := Lib.hid hb1; clear hb1)
        go_ret
        exact ⟨by rw [H.out]; rfl, HB1.out⟩
      by_cases h2 : 2 < n
      · have H := Lib.hid (lab_none (nm := s.data.toList) (vs := vs) (ok_long (by rw [HL.out]; exact h2)))
        have h2' : (2 : Int) < (n : Int) := by omega
        go_enter Tryd.func6, Tryd.ntmps6
        go_wp2_with (go_at_call 16; refine (implAction_any _ _).mono ?_; rw [hac]; rintro e w1 ⟨rfl, hb1⟩; have HB1 := Lib.hid hb1; clear hb1)
        go_ret
        exact ⟨by rw [H.out]; rfl, HB1.out⟩
      have h2' : ¬ (2 : Int) < (n : Int) := by omega
      go_enter Tryd.func6, Tryd.ntmps6
      go_wp2_with fail
      refine (implAction_any _ _).mono ?_; rw [hac]; rintro e w1 ⟨rfl, hb1⟩
      have HB1 := Lib.hid hb1
      have hs1 := hb1.size
      clear hb1
      have HC := Lib.hid (containsF_any 18 (fun args w => Go.MuLone.run_callFunc_enter Tryd.func18 rfl rfl args w) (fun u => !inMod u) (fun u W => outMod_any u W) A n c vs w1 ((HR.out.below HB1.out).more hs1) HL.out hm)
      rw [any_not2] at HC
      rcases hall : vs.all inMod with _ | _
      · have H := Lib.hid (lab_none (nm := s.data.toList) (vs := vs) (ok_val hall))
        rw [hall] at HC
        go_wp2_with fail
        refine HC.out.mono ?_; rintro e w2 ⟨rfl, hd⟩
        have HB2 := Lib.hid (HB1.out.trans (hd.below w.heap.size))
        clear hd
        go_wp2
        go_ret
        exact ⟨by rw [H.out]; rfl, HB2.out⟩
      rw [hall] at HC
      go_wp2_with fail
      refine HC.out.mono ?_; rintro e w2 ⟨rfl, hd⟩
      have HB2 := Lib.hid (HB1.out.trans (hd.below w.heap.size))
      have hs2 := HB2.out.size
      clear hd
      have hle := name_le (act_ok hac).1
      have HOK := Lib.hid (show LabOk s.data.toList vs from ⟨nameB_iff.1 (act_ok hac).1, by rw [HL.out]; omega, fun e => absurd e (act_ok hac).2, hall⟩)
      have HP := Lib.hid (part_len (nm := s.data.toList) (vs := vs) hle.2 (by rw [HL.out]; omega) hall)
      have HAll := Lib.hid hall
      have hss : 1 ≤ s.data.toList.length := hle.1
      clear hall hac hle
      have HCV := Lib.run_convert_string_bytes (P := Tryd.prog) w2 9 22 5 s Tryd.underlying9 Tryd.underlying22 Tryd.underlying5
      have HBR := Lib.hid ((BRow.conv w2 s).lower hs2)
      have HB3 := Lib.hid (HB2.out.trans ((bytesWorld_below w2 5 s).mono hs2))
      generalize bytesWorld w2 5 s = w3 at *
      generalize grownCap w2 s.size 0 5 = cap3 at *
      go_wp2
      go_loopw [5, 6, 8, 32] (fun tv mv _ iv wr => ∃ k : Nat, k ≤ n ∧ iv = .int .i64 k ∧ mv = .int .i32 (if k = 0 then 40 else 44) ∧ BRow wr w.heap.size tv (partL s.data.toList vs k) ∧ Below w.heap.size w wr) (fun _ _ _ iv _ => n - (intOf iv).toNat)
      case atStart => exact ⟨0, Nat.zero_le _, rfl, rfl, HBR.out, HB3.out⟩
      case round =>
        obtain ⟨k, hk, rfl, rfl, hbr, hb⟩ := hrel
        obtain ⟨wo, rfl⟩ : ∃ wo : World, wo = wr := ⟨_, rfl⟩
        have HBo := Lib.hid hbr
        have HB := Lib.hid hb
        have hsz := hb.size
        have hpl := HP.out k
        clear hbr hb HBR HB3
        by_cases hlt : k < n
        · obtain ⟨b, off, x, rfl, hbb, hc, HU⟩ := (HR.out.below HB.out).at_ (k := k) (by rw [HL.out]; exact hlt)
          obtain ⟨u, rfl, hu64, _⟩ := itoa_small (List.all_eq_true.1 HAll.out _ (List.mem_of_getElem? HU.out))
          have hu100 : u < 100 := by omega
          by_cases hk0 : k = 0
          · subst hk0
            rw [Nat.add_zero] at hc
            have HF := Lib.hid (part_first (nm := s.data.toList) HU.out)
            simp only [if_true]
            go_wp2_with (first
              | (at_builtin; refine wp_append_bytes _ rfl _ _ rfl w.heap.size _ (partL s.data.toList vs 0) [40] rfl (HBo.out.below ((Below.refl _ _).alloc (Nat.le_refl _) _)) ⟨wo.heap.size, 0, none⟩ 1 1 rfl rfl (Nat.le_refl _) (cell_one_new _ _ _) (by have := hpl.1; omega) (by simp; omega) ?_; intro v2 w4 hr4 hb4; have HR4 := Lib.hid hr4; have HB4 := Lib.hid ((HB.out.alloc hsz _).trans hb4); clear hr4 hb4)
              | (go_at_call 19; refine (appendInt_small w.heap.size u hu100 v2 _ _ HR4.out (by rw [List.length_append, List.length_singleton]; have := hpl.1; omega) HB4.out.size).mono ?_; rintro e w5 ⟨v5, rfl, hr5, hb5⟩; have HR5 := Lib.hid hr5; have HB5 := Lib.hid (HB4.out.trans hb5); clear hr5 hb5))
            go_roundw
            case rel => exact ⟨0 + 1, by omega, by go_num, rfl, by rw [← HF.out]; exact HR5.out, HB5.out⟩
            case measure => simp [intOf]; omega
          · have HF := Lib.hid (part_next (nm := s.data.toList) hk0 HU.out)
            simp only [if_neg hk0]
            go_wp2_with (first
              | (at_builtin; refine wp_append_bytes _ rfl _ _ rfl w.heap.size _ (partL s.data.toList vs k) [44] rfl (HBo.out.below ((Below.refl _ _).alloc (Nat.le_refl _) _)) ⟨wo.heap.size, 0, none⟩ 1 1 rfl rfl (Nat.le_refl _) (cell_one_new _ _ _) (by have := hpl.1; omega) (by simp; omega) ?_; intro v2 w4 hr4 hb4; have HR4 := Lib.hid hr4; have HB4 := Lib.hid ((HB.out.alloc hsz _).trans hb4); clear hr4 hb4)
              | (go_at_call 19; refine (appendInt_small w.heap.size u hu100 v2 _ _ HR4.out (by rw [List.length_append, List.length_singleton]; have := hpl.1; omega) HB4.out.size).mono ?_; rintro e w5 ⟨v5, rfl, hr5, hb5⟩; have HR5 := Lib.hid hr5; have HB5 := Lib.hid (HB4.out.trans hb5); clear hr5 hb5))
            go_roundw
            case rel => exact ⟨k + 1, by omega, by go_num, by rw [if_neg (by omega)], by rw [← HF.out]; exact HR5.out, HB5.out⟩
            case measure => simp [intOf]; omega
        · have hke : k = n := by omega
          subst hke
          by_cases hn0 : 0 < k
          · have hn0' : (0 : Int) < (k : Int) := by omega
            have H := Lib.hid (show (⟨(labText s.data.toList vs).toArray⟩ : ByteArray) = ⟨(partL s.data.toList vs k ++ [41]).toArray⟩ by
              rw [labText_yes HOK.out, ← part_all (fun e => by rw [← HL.out, e] at hn0; simp at hn0), HL.out])
            clear hn0
            go_wp2_with (at_builtin; go_loud (refine wp_append_bytes _ rfl _ _ rfl w.heap.size _ (partL s.data.toList vs k) [41] rfl (HBo.out.below ((Below.refl _ _).alloc (Nat.le_refl _) _)) ⟨wo.heap.size, 0, none⟩ 1 1 rfl rfl (Nat.le_refl _) (cell_one_new _ _ _) (by have := hpl.1; omega) (by simp; omega) ?_; intro v2 w4 hr4 hb4; have HB4 := Lib.hid ((HB.out.alloc hsz _).trans hb4); obtain ⟨g4, cap4, rfl, hcv4⟩ := back_conv _ hr4; simp only [List.length_append, List.length_cons, List.length_nil, Nat.zero_add] at hcv4; clear hr4 hb4))
            go_ret
            exact ⟨by rw [H.out]; rfl, HB4.out⟩
          · have hn0' : ¬ (0 : Int) < (k : Int) := by omega
            have H := Lib.hid (show (⟨(labText s.data.toList vs).toArray⟩ : ByteArray) = ⟨(partL s.data.toList vs k).toArray⟩ by
              have hv : vs = [] := List.length_eq_zero_iff.1 (by rw [HL.out]; omega)
              have hk0 : k = 0 := by omega
              rw [labText_yes HOK.out, hv, hk0, part_none])
            have hk0 : k = 0 := by omega
            clear hn0
            subst hk0
            obtain ⟨g4, cap4, rfl, hcv4⟩ := back_conv _ HBo.out
            go_wp2
            go_ret
            exact ⟨by rw [H.out]; rfl, HB.out⟩
    · have H := Lib.hid (show (⟨(labText s.data.toList vs).toArray⟩ : ByteArray) = ⟨#[116, 97, 117]⟩ by
        rw [HV.out, tau_iff.1 htau, labText_yes ⟨nameB_iff.1 tau_name, by simp, fun _ => rfl, rfl⟩]
        rfl)
      go_enter Tryd.func6, Tryd.ntmps6
      go_wp2
      go_ret
      exact ⟨by rw [H.out]; rfl, Below.refl _ _⟩
  · have hz : ((n : Int) == 0) = false := ib_ne (by omega)
    have HT := Lib.hid (show s.data.toList = tauB → vs ≠ [] from fun _ e => h0 (by rw [← HL.out, e]; rfl))
    clear h0
    rcases hac : actionB s.data.toList with _ | _
    · have H := Lib.hid (lab_none (ok_act hac HT.out))
      go_enter Tryd.func6, Tryd.ntmps6
      go_wp2_with (go_at_call 16; refine (implAction_any _ _).mono ?_; rw [hac]; rintro e w1 ⟨rfl, hb1⟩; have HB1 := Lib.hid hb1; clear hb1)
      go_ret
      exact ⟨by rw [H.out]; rfl, HB1.out⟩
    by_cases h2 : 2 < n
    · have H := Lib.hid (lab_none (nm := s.data.toList) (vs := vs) (ok_long (by rw [HL.out]; exact h2)))
      have h2' : (2 : Int) < (n : Int) := by omega
      go_enter Tryd.func6, Tryd.ntmps6
      go_wp2_with (go_at_call 16; refine (implAction_any _ _).mono ?_; rw [hac]; rintro e w1 ⟨rfl, hb1⟩; have HB1 := Lib.hid hb1; clear hb1)
      go_ret
      exact ⟨by rw [H.out]; rfl, HB1.out⟩
    have h2' : ¬ (2 : Int) < (n : Int) := by omega
    go_enter Tryd.func6, Tryd.ntmps6
    go_wp2_with fail
    refine (implAction_any _ _).mono ?_; rw [hac]; rintro e w1 ⟨rfl, hb1⟩
    have HB1 := Lib.hid hb1
    have hs1 := hb1.size
    clear hb1
    have HC := Lib.hid (containsF_any 18 (fun args w => Go.MuLone.run_callFunc_enter Tryd.func18 rfl rfl args w) (fun u => !inMod u) (fun u W => outMod_any u W) A n c vs w1 ((HR.out.below HB1.out).more hs1) HL.out hm)
    rw [any_not2] at HC
    rcases hall : vs.all inMod with _ | _
    · have H := Lib.hid (lab_none (nm := s.data.toList) (vs := vs) (ok_val hall))
      rw [hall] at HC
      go_wp2_with fail
      refine HC.out.mono ?_; rintro e w2 ⟨rfl, hd⟩
      have HB2 := Lib.hid (HB1.out.trans (hd.below w.heap.size))
      clear hd
      go_wp2
      go_ret
      exact ⟨by rw [H.out]; rfl, HB2.out⟩
    rw [hall] at HC
    go_wp2_with fail
    refine HC.out.mono ?_; rintro e w2 ⟨rfl, hd⟩
    have HB2 := Lib.hid (HB1.out.trans (hd.below w.heap.size))
    have hs2 := HB2.out.size
    clear hd
    have hle := name_le (act_ok hac).1
    have HOK := Lib.hid (show LabOk s.data.toList vs from ⟨nameB_iff.1 (act_ok hac).1, by rw [HL.out]; omega, fun e => absurd e (act_ok hac).2, hall⟩)
    have HP := Lib.hid (part_len (nm := s.data.toList) (vs := vs) hle.2 (by rw [HL.out]; omega) hall)
    have HAll := Lib.hid hall
    have hss : 1 ≤ s.data.toList.length := hle.1
    clear hall hac hle
    have HCV := Lib.run_convert_string_bytes (P := Tryd.prog) w2 9 22 5 s Tryd.underlying9 Tryd.underlying22 Tryd.underlying5
    have HBR := Lib.hid ((BRow.conv w2 s).lower hs2)
    have HB3 := Lib.hid (HB2.out.trans ((bytesWorld_below w2 5 s).mono hs2))
    generalize bytesWorld w2 5 s = w3 at *
    generalize grownCap w2 s.size 0 5 = cap3 at *
    go_wp2
    go_loopw [5, 6, 8, 32] (fun tv mv _ iv wr => ∃ k : Nat, k ≤ n ∧ iv = .int .i64 k ∧ mv = .int .i32 (if k = 0 then 40 else 44) ∧ BRow wr w.heap.size tv (partL s.data.toList vs k) ∧ Below w.heap.size w wr) (fun _ _ _ iv _ => n - (intOf iv).toNat)
    case atStart => exact ⟨0, Nat.zero_le _, rfl, rfl, HBR.out, HB3.out⟩
    case round =>
      obtain ⟨k, hk, rfl, rfl, hbr, hb⟩ := hrel
      obtain ⟨wo, rfl⟩ : ∃ wo : World, wo = wr := ⟨_, rfl⟩
      have HBo := Lib.hid hbr
      have HB := Lib.hid hb
      have hsz := hb.size
      have hpl := HP.out k
      clear hbr hb HBR HB3
      by_cases hlt : k < n
      · obtain ⟨b, off, x, rfl, hbb, hc, HU⟩ := (HR.out.below HB.out).at_ (k := k) (by rw [HL.out]; exact hlt)
        obtain ⟨u, rfl, hu64, _⟩ := itoa_small (List.all_eq_true.1 HAll.out _ (List.mem_of_getElem? HU.out))
        have hu100 : u < 100 := by omega
        by_cases hk0 : k = 0
        · subst hk0
          rw [Nat.add_zero] at hc
          have HF := Lib.hid (part_first (nm := s.data.toList) HU.out)
          simp only [if_true]
          go_wp2_with (first
            | (at_builtin; refine wp_append_bytes _ rfl _ _ rfl w.heap.size _ (partL s.data.toList vs 0) [40] rfl (HBo.out.below ((Below.refl _ _).alloc (Nat.le_refl _) _)) ⟨wo.heap.size, 0, none⟩ 1 1 rfl rfl (Nat.le_refl _) (cell_one_new _ _ _) (by have := hpl.1; omega) (by simp; omega) ?_; intro v2 w4 hr4 hb4; have HR4 := Lib.hid hr4; have HB4 := Lib.hid ((HB.out.alloc hsz _).trans hb4); clear hr4 hb4)
            | (go_at_call 19; refine (appendInt_small w.heap.size u hu100 v2 _ _ HR4.out (by rw [List.length_append, List.length_singleton]; have := hpl.1; omega) HB4.out.size).mono ?_; rintro e w5 ⟨v5, rfl, hr5, hb5⟩; have HR5 := Lib.hid hr5; have HB5 := Lib.hid (HB4.out.trans hb5); clear hr5 hb5))
          go_roundw
          case rel => exact ⟨0 + 1, by omega, by go_num, rfl, by rw [← HF.out]; exact HR5.out, HB5.out⟩
          case measure => simp [intOf]; omega
        · have HF := Lib.hid (part_next (nm := s.data.toList) hk0 HU.out)
          simp only [if_neg hk0]
          go_wp2_with (first
            | (at_builtin; refine wp_append_bytes _ rfl _ _ rfl w.heap.size _ (partL s.data.toList vs k) [44] rfl (HBo.out.below ((Below.refl _ _).alloc (Nat.le_refl _) _)) ⟨wo.heap.size, 0, none⟩ 1 1 rfl rfl (Nat.le_refl _) (cell_one_new _ _ _) (by have := hpl.1; omega) (by simp; omega) ?_; intro v2 w4 hr4 hb4; have HR4 := Lib.hid hr4; have HB4 := Lib.hid ((HB.out.alloc hsz _).trans hb4); clear hr4 hb4)
            | (go_at_call 19; refine (appendInt_small w.heap.size u hu100 v2 _ _ HR4.out (by rw [List.length_append, List.length_singleton]; have := hpl.1; omega) HB4.out.size).mono ?_; rintro e w5 ⟨v5, rfl, hr5, hb5⟩; have HR5 := Lib.hid hr5; have HB5 := Lib.hid (HB4.out.trans hb5); clear hr5 hb5))
          go_roundw
          case rel => exact ⟨k + 1, by omega, by go_num, by rw [if_neg (by omega)], by rw [← HF.out]; exact HR5.out, HB5.out⟩
          case measure => simp [intOf]; omega
      · have hke : k = n := by omega
        subst hke
        by_cases hn0 : 0 < k
        · have hn0' : (0 : Int) < (k : Int) := by omega
          have H := Lib.hid (show (⟨(labText s.data.toList vs).toArray⟩ : ByteArray) = ⟨(partL s.data.toList vs k ++ [41]).toArray⟩ by
            rw [labText_yes HOK.out, ← part_all (fun e => by rw [← HL.out, e] at hn0; simp at hn0), HL.out])
          clear hn0
          go_wp2_with (at_builtin; go_loud (refine wp_append_bytes _ rfl _ _ rfl w.heap.size _ (partL s.data.toList vs k) [41] rfl (HBo.out.below ((Below.refl _ _).alloc (Nat.le_refl _) _)) ⟨wo.heap.size, 0, none⟩ 1 1 rfl rfl (Nat.le_refl _) (cell_one_new _ _ _) (by have := hpl.1; omega) (by simp; omega) ?_; intro v2 w4 hr4 hb4; have HB4 := Lib.hid ((HB.out.alloc hsz _).trans hb4); obtain ⟨g4, cap4, rfl, hcv4⟩ := back_conv _ hr4; simp only [List.length_append, List.length_cons, List.length_nil, Nat.zero_add] at hcv4; clear hr4 hb4))
          go_ret
          exact ⟨by rw [H.out]; rfl, HB4.out⟩
        · have hn0' : ¬ (0 : Int) < (k : Int) := by omega
          have H := Lib.hid (show (⟨(labText s.data.toList vs).toArray⟩ : ByteArray) = ⟨(partL s.data.toList vs k).toArray⟩ by
            have hv : vs = [] := List.length_eq_zero_iff.1 (by rw [HL.out]; omega)
            have hk0 : k = 0 := by omega
            rw [labText_yes HOK.out, hv, hk0, part_none])
          have hk0 : k = 0 := by omega
          clear hn0
          subst hk0
          obtain ⟨g4, cap4, rfl, hcv4⟩ := back_conv _ HBo.out
          go_wp2
          go_ret
          exact ⟨by rw [H.out]; rfl, HB.out⟩
end Go.Proofs.YtbgmhndmldekbaaDoor
