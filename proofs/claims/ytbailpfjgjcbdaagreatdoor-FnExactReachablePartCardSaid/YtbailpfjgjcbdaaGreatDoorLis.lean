/- The text of a list of numbers: the model's function and the program's give one answer. -/
/- The text of a list of numbers, the program's way: a test of each number, the decimal forms in a slice, strings.Join. -/
/- The text of a label: the program's function. -/
/- The text of a list of numbers: mapEach at decimal forms, joinNumbers. -/
/- ListText: the model's and the program's answers are one; the law. -/
/- ReadList: the model's and the program's answers are what the mathematics reads. -/
import Derived.Test.YtbailpfjgjcbdaaGreatDoorProg
import Derived.WalkKit
import Derived.ProofKit
import Derived.Outline
import Derived.Test.YtbailpfjgjcbdaaGreatDoorLow
import Derived.Test.YtbailpfjgjcbdaaGreatDoorDecW
import Derived.Test.YtbailpfjgjcbdaaGreatDoorLbT
import Derived.Test.YtbailpfjgjcbdaaGreatDoorMath
import Derived.Test.YtbailpfjgjcbdaaGreatDoorSpR
import Derived.Conc.MuLone
import Derived.Shelf.Strings.OnBuilder
import Derived.ChangeOld
import Derived.Below
namespace Go.Proofs.YtbailpfjgjcbdaaGreatDoor
open Go.RowKit Go.Lib
theorem str_app (a b : ByteArray) : (a ++ b : ByteArray) = ⟨(a.data.toList ++ b.data.toList).toArray⟩ := by
  apply ByteArray.ext
  apply Array.ext'
  simp [ByteArray.data_append]
def Wf (xs : List Int) : Prop := ∀ x ∈ xs, -9223372036854775808 ≤ x ∧ x ≤ 9223372036854775807
theorem Wf.at_ {xs : List Int} (h : Wf xs) {k : Nat} {u : Int} (hk : xs[k]? = some u) : -9223372036854775808 ≤ u ∧ u ≤ 9223372036854775807 := h u (List.mem_of_getElem? hk)
theorem Wf.take {xs : List Int} (h : Wf xs) (k : Nat) : Wf (xs.take k) := fun x hx => h x (List.mem_of_mem_take hx)
theorem part_short {xs : List Int} (h : Wf xs) (h64 : xs.length ≤ 64) (k : Nat) : (decs (xs.take k)).length ≤ 1408 := by
  have := decs_short (xs.take k) (h.take k)
  rw [List.length_take] at this
  omega
/-! the bounds of a list of numbers -/
theorem fits_bad {xs : List Int} {k : Nat} {u : Int} (hk : xs[k]? = some u) (h : inMax u = false) : fitsL xs = false := by
  unfold fitsL
  have : xs.all inMax = false := by
    rw [Bool.eq_false_iff]
    intro ha
    have := List.all_eq_true.1 ha u (List.mem_of_getElem? hk)
    rw [h] at this; cases this
  rw [this, Bool.and_false]
theorem inMax_yes {u : Int} (h : -1000000000000 ≤ u ∧ u ≤ 1000000000000) : inMax u = true := by unfold inMax; exact decide_eq_true h
theorem inMax_no {u : Int} (h : u < -1000000000000 ∨ 1000000000000 < u) : inMax u = false := by unfold inMax; exact decide_eq_false (by omega)
end Go.Proofs.YtbailpfjgjcbdaaGreatDoor

namespace Go.Proofs
open Go.Shelf
end Go.Proofs
namespace Go.Proofs.YtbailpfjgjcbdaaGreatDoor
open Go.RowKit Go.Lib
theorem inMod_yes {u : Int} (h : 0 ≤ u ∧ u ≤ 63) : inMod u = true := by unfold inMod; exact decide_eq_true h
theorem inMod_no {u : Int} (h : u < 0 ∨ 63 < u) : inMod u = false := by unfold inMod; exact decide_eq_false (by omega)
theorem outMod_any (u : Int) (w : World) : Calls Tryz.prog 126 #[.int .i64 u] w fun e w' => e = .returned (.bool (!inMod u)) ∧ w = w' := by
  by_cases h1 : u < 0
  · have H := Lib.hid (inMod_no (.inl h1))
    go_enter Tryz.func126, Tryz.ntmps126
    go_wp2
    go_ret
    exact ⟨ret_bool (by rw [H.out]; rfl), rfl⟩
  · by_cases h2 : 64 ≤ u
    · have H := Lib.hid (inMod_no (u := u) (.inr (by omega)))
      go_enter Tryz.func126, Tryz.ntmps126
      go_wp2
      go_ret
      exact ⟨ret_bool (by rw [H.out]; rfl), rfl⟩
    · have H := Lib.hid (inMod_yes (u := u) (by omega))
      go_enter Tryz.func126, Tryz.ntmps126
      go_wp2
      go_ret
      exact ⟨ret_bool (by rw [H.out]; rfl), rfl⟩
/-- The place of the first number that a test takes; -1 if it takes none. -/
def idxP (p : Int → Bool) : List Int → Int → Int
  | [], _ => -1
  | x :: r, i => if p x = true then i else idxP p r (i + 1)
theorem idxP_drop (p : Int → Bool) : ∀ (k : Nat) (xs : List Int) (i : Int), (xs.take k).all (fun x => !p x) = true → k ≤ xs.length → idxP p xs i = idxP p (xs.drop k) (i + k)
  | 0, xs, i, _, _ => by simp
  | k + 1, [], i, _, h => by simp at h
  | k + 1, x :: r, i, h, hl => by
    simp only [List.take_succ_cons, List.all_cons, Bool.and_eq_true, Bool.not_eq_true'] at h
    simp only [idxP, List.drop_succ_cons]
    rw [if_neg (by rw [h.1]; exact Bool.false_ne_true), idxP_drop p k r (i + 1) h.2 (by simpa using hl)]
    congr 1
    omega
theorem idxP_hit {p : Int → Bool} {xs : List Int} {k : Nat} {u : Int} (h : (xs.take k).all (fun x => !p x) = true) (hk : xs[k]? = some u) (hp : p u = true) : idxP p xs 0 = k := by
  obtain ⟨hlt, he⟩ := List.getElem?_eq_some_iff.1 hk
  rw [idxP_drop p k xs 0 h (Nat.le_of_lt hlt), List.drop_eq_getElem_cons hlt, he]
  simp only [idxP, hp, if_true]
  omega
theorem idxP_none {p : Int → Bool} {xs : List Int} (h : xs.all (fun x => !p x) = true) : idxP p xs 0 = -1 := by
  rw [idxP_drop p xs.length xs 0 (by rw [List.take_length]; exact h) (Nat.le_refl _), List.drop_length]
  rfl
set_option maxHeartbeats 1600000 in
theorem indexF_any (g : Nat) (eg : ∀ args w, (callFunc g args).run Tryz.prog w = .ok (.enter g args) w) (p : Int → Bool) (hp : ∀ u W, Calls Tryz.prog g #[.int .i64 u] W fun e w' => e = .returned (.bool (p u)) ∧ W = w')
    (A : Option Addr) (n c : Nat) (xs : List Int) (w : World) (hr : IRow w w.heap.size A xs) (hn : xs.length = n) (hm : n ≤ 1048576) :
    Calls Tryz.prog 80 #[.slice A n c, .func (.func g) #[] #[]] w fun e w' => e = .returned (.int .i64 (idxP p xs 0)) ∧ Drawn w w' := by
  subst hn
  have HR := Lib.hid hr
  have HP := Lib.hid hp
  clear hr hp
  go_enter Tryz.func80, Tryz.ntmps80
  go_wp2
  go_loopw [5, 8] (fun _ iv wr => ∃ k : Nat, k ≤ xs.length ∧ iv = .int .i64 k ∧ Drawn w wr ∧ Hid ((xs.take k).all (fun x => !p x) = true)) (fun _ i _ => xs.length - (intOf i).toNat)
  case atStart => exact ⟨0, Nat.zero_le _, rfl, Drawn.refl _, Lib.hid (by simp)⟩
  case round =>
    obtain ⟨k, hk, rfl, hd, HI⟩ := hrel
    obtain ⟨wo, rfl⟩ : ∃ wo : World, wo = wr := ⟨_, rfl⟩
    have HD := Lib.hid hd
    clear hd
    by_cases hlt : k < xs.length
    · obtain ⟨b, off, u, rfl, hbb, hc, HU⟩ := (HR.out.drawn HD.out).at_ hlt
      rcases hpu : p u with _ | _
      · have HS := Lib.hid (show (xs.take (k + 1)).all (fun x => !p x) = true by rw [take_one xs k u HU.out, List.all_append, HI.out]; simp [hpu])
        go_wp2_with (go_at_fn g; refine (HP.out u _).mono ?_; rw [hpu]; rintro e w' ⟨rfl, rfl⟩)
        go_roundw
        case rel => exact ⟨k + 1, by omega, by go_num, by first | exact HD.out.drew | exact HD.out.drew.drew | exact HD.out, HS.out⟩
        case measure => simp [intOf]; omega
      · have H := Lib.hid (idxP_hit HI.out HU.out hpu)
        go_wp2_with (go_at_fn g; refine (HP.out u _).mono ?_; rw [hpu]; rintro e w' ⟨rfl, rfl⟩)
        go_ret
        exact ⟨ret_int H.out.symm, by first | exact HD.out.drew | exact HD.out.drew.drew | exact HD.out⟩
    · have H := Lib.hid (idxP_none (p := p) (xs := xs) (by have := HI.out; rwa [List.take_of_length_le (by omega)] at this))
      go_wp2
      go_ret
      exact ⟨ret_int H.out.symm, by first | exact HD.out.drew | exact HD.out⟩
theorem idxP_ge (p : Int → Bool) (xs : List Int) : ∀ i : Nat, idxP p xs i = -1 ∨ ∃ k : Nat, idxP p xs i = k := by
  induction xs with
  | nil => intro i; exact .inl rfl
  | cons x r ih =>
    intro i
    simp only [idxP]
    by_cases h : p x = true
    · rw [if_pos h]; exact .inr ⟨i, rfl⟩
    · rw [if_neg h]; have := ih (i + 1); simpa using this
theorem idxP_all (p : Int → Bool) : ∀ (xs : List Int) (i : Nat), xs.any p = decide (0 ≤ idxP p xs i)
  | [], _ => by simp [idxP]
  | x :: r, i => by
    by_cases h : p x = true
    · have e : idxP p (x :: r) (i : Int) = (i : Int) := by simp only [idxP]; rw [if_pos h]
      rw [e, List.any_cons, h]
      simp
    · have e : idxP p (x :: r) (i : Int) = idxP p r ((i + 1 : Nat) : Int) := by simp only [idxP]; rw [if_neg h]; rfl
      rw [e, List.any_cons, ← idxP_all p r (i + 1)]
      simp [h]
theorem containsF_any (g : Nat) (eg : ∀ args w, (callFunc g args).run Tryz.prog w = .ok (.enter g args) w) (p : Int → Bool) (hp : ∀ u W, Calls Tryz.prog g #[.int .i64 u] W fun e w' => e = .returned (.bool (p u)) ∧ W = w')
    (A : Option Addr) (n c : Nat) (xs : List Int) (w : World) (hr : IRow w w.heap.size A xs) (hn : xs.length = n) (hm : n ≤ 1048576) :
    Calls Tryz.prog 47 #[.slice A n c, .func (.func g) #[] #[]] w fun e w' => e = .returned (.bool (xs.any p)) ∧ Drawn w w' := by
  have HC := Lib.hid (indexF_any g eg p hp A n c xs w hr hn hm)
  have HA := Lib.hid (idxP_all p xs 0)
  clear hr hp
  rcases idxP_ge p xs 0 with h | ⟨k, h⟩
  · have h' : idxP p xs 0 = -1 := h
    rw [h'] at HC
    have H := Lib.hid (show xs.any p = false by rw [HA.out]; show decide (0 ≤ idxP p xs 0) = false; rw [h']; rfl)
    go_enter Tryz.func47, Tryz.ntmps47
    go_wp2_with fail
    refine HC.out.mono ?_; rintro e w1 ⟨rfl, hd⟩
    have HD := Lib.hid hd
    clear hd
    go_wp2
    go_ret
    exact ⟨ret_bool H.out.symm, HD.out⟩
  · have h' : idxP p xs 0 = (k : Int) := h
    rw [h'] at HC
    have H := Lib.hid (show xs.any p = true by rw [HA.out]; show decide (0 ≤ idxP p xs 0) = true; rw [h']; exact decide_eq_true (by omega))
    go_enter Tryz.func47, Tryz.ntmps47
    go_wp2_with fail
    refine HC.out.mono ?_; rintro e w1 ⟨rfl, hd⟩
    have HD := Lib.hid hd
    clear hd
    go_wp2
    go_ret
    exact ⟨ret_bool H.out.symm, HD.out⟩
end Go.Proofs.YtbailpfjgjcbdaaGreatDoor

namespace Go.Proofs.YtbailpfjgjcbdaaGreatDoor
open Go.RowKit Go.Lib
theorem BRow.lower {w : World} {B C : Nat} {v : Value} {l : List UInt8} (h : BRow w B v l) (hB : C ≤ B) : BRow w C v l := by
  obtain ⟨g, cap, e, h1, h2⟩ := h
  exact ⟨g, cap, e, Nat.le_trans hB h1, h2⟩
theorem any_not2 (xs : List Int) (p : Int → Bool) : xs.any (fun u => !p u) = !xs.all p := by
  induction xs with
  | nil => rfl
  | cons x r ih => rw [List.any_cons, List.all_cons, ih, Bool.not_and]
theorem ok_act {l : List UInt8} {vs : List Int} (h : actionB l = false) (ht : l = tauB → vs ≠ []) : ¬ LabOk l vs := by
  unfold actionB at h
  rcases hn : nameB l with _ | _
  · exact ok_name hn
  · rw [hn, Bool.true_and] at h
    have e : l = tauB := by simpa [tauBytes, tauB] using h
    exact ok_tau e (ht e)
theorem act_ok {l : List UInt8} (h : actionB l = true) : nameB l = true ∧ l ≠ tauB := by
  unfold actionB at h
  rw [Bool.and_eq_true] at h
  exact ⟨h.1, fun e => by rw [e] at h; exact absurd h.2 (by decide)⟩
theorem back_conv (w : World) {B : Nat} {v : Value} {l : List UInt8} (h : BRow w B v l) : ∃ g cap, v = .slice (some ⟨g, 0, none⟩) l.length cap ∧ (convert 101 9 (.slice (some ⟨g, 0, none⟩) l.length cap)).run Tryz.prog w = .ok (.string ⟨l.toArray⟩) w := by
  obtain ⟨g, cap, e, hc⟩ := h.row
  refine ⟨g, cap, e, run_convert_bytes_back (P := Tryz.prog) w 101 9 5 ⟨g, 0, none⟩ cap l Tryz.underlying101 Tryz.underlying5 Tryz.underlying9 (fun j hj => ?_)⟩
  have := hc j _ (List.getElem?_eq_getElem (by rw [bv_len]; exact hj))
  rw [show (⟨g, 0, none⟩ : Addr).add j = ⟨g, j, none⟩ by unfold Addr.add; split <;> simp_all, this]
  simp [bv]
set_option maxHeartbeats 3200000 in
set_option maxRecDepth 100000 in
theorem implLabelText_any (s : ByteArray) (A : Option Addr) (n c : Nat) (vs : List Int) (w : World) (hr : IRow w w.heap.size A vs) (hn : vs.length = n) (hm : n ≤ 1048576) :
    Calls Tryz.prog 115 #[.string s, .slice A n c] w fun e w' => e = .returned (.string ⟨(labText s.data.toList vs).toArray⟩) ∧ Below w.heap.size w w' := by
  have HR := Lib.hid hr
  have HL := Lib.hid hn
  clear hr hn
  by_cases h0 : n = 0
  · have hz : ((n : Int) == 0) = true := ib_eq (by omega)
    have HV := Lib.hid (show vs = [] from List.length_eq_zero_iff.1 (by rw [HL.out]; exact h0))
    clear h0
    rcases htau : (s.toList == [116, 97, 117]) with _ | _
    · have HT := Lib.hid (show s.data.toList = tauB → vs ≠ [] from fun e => absurd e (tau_no htau))
      rcases hac : actionB s.data.toList with _ | _
      · have H := Lib.hid (lab_none (ok_act hac HT.out))
        go_enter Tryz.func115, Tryz.ntmps115
        go_wp2_with (go_at_call 125; refine (implAction_any _ _).mono ?_; rw [hac]; rintro e w1 ⟨rfl, hb1⟩; have HB1 := Lib.hid hb1; clear hb1)
        go_ret
        exact ⟨by rw [H.out]; rfl, HB1.out⟩
      by_cases h2 : 2 < n
      · have H := Lib.hid (lab_none (nm := s.data.toList) (vs := vs) (ok_long (by rw [HL.out]; exact h2)))
        have h2' : (2 : Int) < (n : Int) := by omega
        go_enter Tryz.func115, Tryz.ntmps115
        go_wp2_with (go_at_call 125; refine (implAction_any _ _).mono ?_; rw [hac]; rintro e w1 ⟨rfl, hb1⟩; have HB1 := Lib.hid hb1; clear hb1)
        go_ret
        exact ⟨by rw [H.out]; rfl, HB1.out⟩
      have h2' : ¬ (2 : Int) < (n : Int) := by omega
      go_enter Tryz.func115, Tryz.ntmps115
      go_wp2_with fail
      refine (implAction_any _ _).mono ?_; rw [hac]; rintro e w1 ⟨rfl, hb1⟩
      have HB1 := Lib.hid hb1
      have hs1 := hb1.size
      clear hb1
      have HC := Lib.hid (containsF_any 126 (fun args w => Go.MuLone.run_callFunc_enter Tryz.func126 rfl rfl args w) (fun u => !inMod u) (fun u W => outMod_any u W) A n c vs w1 ((HR.out.below HB1.out).more hs1) HL.out hm)
      rw [any_not2] at HC
      rcases hall : vs.all inMod with _ | _
      · have H := Lib.hid (lab_none (nm := s.data.toList) (vs := vs) (ok_val hall))
        rw [hall] at HC
        go_wp2_with fail
        refine HC.out.mono ?_; rintro e w2 ⟨rfl, hd⟩
        have HB2 := Lib.hid (HB1.out.trans (hd.below w.heap.size))
        clear hd
        go_wp2
        go_ret
        exact ⟨by rw [H.out]; rfl, HB2.out⟩
      rw [hall] at HC
      go_wp2_with fail
      refine HC.out.mono ?_; rintro e w2 ⟨rfl, hd⟩
      have HB2 := Lib.hid (HB1.out.trans (hd.below w.heap.size))
      have hs2 := HB2.out.size
      clear hd
      have hle := name_le (act_ok hac).1
      have HOK := Lib.hid (show LabOk s.data.toList vs from ⟨nameB_iff.1 (act_ok hac).1, by rw [HL.out]; omega, fun e => absurd e (act_ok hac).2, hall⟩)
      have HP := Lib.hid (part_len (nm := s.data.toList) (vs := vs) hle.2 (by rw [HL.out]; omega) hall)
      have HAll := Lib.hid hall
      have hss : 1 ≤ s.data.toList.length := hle.1
      clear hall hac hle
      have HCV := Lib.run_convert_string_bytes (P := Tryz.prog) w2 9 101 5 s Tryz.underlying9 Tryz.underlying101 Tryz.underlying5
      have HBR := Lib.hid ((BRow.conv w2 s).lower hs2)
      have HB3 := Lib.hid (HB2.out.trans ((bytesWorld_below w2 5 s).mono hs2))
      generalize bytesWorld w2 5 s = w3 at *
      generalize grownCap w2 s.size 0 5 = cap3 at *
      go_wp2
      go_loopw [5, 6, 8, 32] (fun tv mv _ iv wr => ∃ k : Nat, k ≤ n ∧ iv = .int .i64 k ∧ mv = .int .i32 (if k = 0 then 40 else 44) ∧ BRow wr w.heap.size tv (partL s.data.toList vs k) ∧ Below w.heap.size w wr) (fun _ _ _ iv _ => n - (intOf iv).toNat)
      case atStart => exact ⟨0, Nat.zero_le _, rfl, rfl, HBR.out, HB3.out⟩
      case round =>
        obtain ⟨k, hk, rfl, rfl, hbr, hb⟩ := hrel
        obtain ⟨wo, rfl⟩ : ∃ wo : World, wo = wr := ⟨_, rfl⟩
        have HBo := Lib.hid hbr
        have HB := Lib.hid hb
        have hsz := hb.size
        have hpl := HP.out k
        clear hbr hb HBR HB3
        by_cases hlt : k < n
        · obtain ⟨b, off, x, rfl, hbb, hc, HU⟩ := (HR.out.below HB.out).at_ (k := k) (by rw [HL.out]; exact hlt)
          obtain ⟨u, rfl, hu64, _⟩ := itoa_small (List.all_eq_true.1 HAll.out _ (List.mem_of_getElem? HU.out))
          have hu100 : u < 100 := by omega
          by_cases hk0 : k = 0
          · subst hk0
            rw [Nat.add_zero] at hc
            have HF := Lib.hid (part_first (nm := s.data.toList) HU.out)
            simp only [if_true]
            go_wp2_with (first
              | (at_builtin; refine wp_append_bytes _ rfl _ _ rfl w.heap.size _ (partL s.data.toList vs 0) [40] rfl (HBo.out.below ((Below.refl _ _).alloc (Nat.le_refl _) _)) ⟨wo.heap.size, 0, none⟩ 1 1 rfl rfl (Nat.le_refl _) (cell_one_new _ _ _) (by have := hpl.1; omega) (by simp; omega) ?_; intro v2 w4 hr4 hb4; have HR4 := Lib.hid hr4; have HB4 := Lib.hid ((HB.out.alloc hsz _).trans hb4); clear hr4 hb4)
              | (go_at_call 127; refine (appendInt_small w.heap.size u hu100 v2 _ _ HR4.out (by rw [List.length_append, List.length_singleton]; have := hpl.1; omega) HB4.out.size).mono ?_; rintro e w5 ⟨v5, rfl, hr5, hb5⟩; have HR5 := Lib.hid hr5; have HB5 := Lib.hid (HB4.out.trans hb5); clear hr5 hb5))
            go_roundw
            case rel => exact ⟨0 + 1, by omega, by go_num, rfl, by rw [← HF.out]; exact HR5.out, HB5.out⟩
            case measure => simp [intOf]; omega
          · have HF := Lib.hid (part_next (nm := s.data.toList) hk0 HU.out)
            simp only [if_neg hk0]
            go_wp2_with (first
              | (at_builtin; refine wp_append_bytes _ rfl _ _ rfl w.heap.size _ (partL s.data.toList vs k) [44] rfl (HBo.out.below ((Below.refl _ _).alloc (Nat.le_refl _) _)) ⟨wo.heap.size, 0, none⟩ 1 1 rfl rfl (Nat.le_refl _) (cell_one_new _ _ _) (by have := hpl.1; omega) (by simp; omega) ?_; intro v2 w4 hr4 hb4; have HR4 := Lib.hid hr4; have HB4 := Lib.hid ((HB.out.alloc hsz _).trans hb4); clear hr4 hb4)
              | (go_at_call 127; refine (appendInt_small w.heap.size u hu100 v2 _ _ HR4.out (by rw [List.length_append, List.length_singleton]; have := hpl.1; omega) HB4.out.size).mono ?_; rintro e w5 ⟨v5, rfl, hr5, hb5⟩; have HR5 := Lib.hid hr5; have HB5 := Lib.hid (HB4.out.trans hb5); clear hr5 hb5))
            go_roundw
            case rel => exact ⟨k + 1, by omega, by go_num, by rw [if_neg (by omega)], by rw [← HF.out]; exact HR5.out, HB5.out⟩
            case measure => simp [intOf]; omega
        · have hke : k = n := by omega
          subst hke
          by_cases hn0 : 0 < k
          · have hn0' : (0 : Int) < (k : Int) := by omega
            have H := Lib.hid (show (⟨(labText s.data.toList vs).toArray⟩ : ByteArray) = ⟨(partL s.data.toList vs k ++ [41]).toArray⟩ by
              rw [labText_yes HOK.out, ← part_all (fun e => by rw [← HL.out, e] at hn0; simp at hn0), HL.out])
            clear hn0
            go_wp2_with (at_builtin; go_loud (refine wp_append_bytes _ rfl _ _ rfl w.heap.size _ (partL s.data.toList vs k) [41] rfl (HBo.out.below ((Below.refl _ _).alloc (Nat.le_refl _) _)) ⟨wo.heap.size, 0, none⟩ 1 1 rfl rfl (Nat.le_refl _) (cell_one_new _ _ _) (by have := hpl.1; omega) (by simp; omega) ?_; intro v2 w4 hr4 hb4; have HB4 := Lib.hid ((HB.out.alloc hsz _).trans hb4); obtain ⟨g4, cap4, rfl, hcv4⟩ := back_conv _ hr4; simp only [List.length_append, List.length_cons, List.length_nil, Nat.zero_add] at hcv4; clear hr4 hb4))
            go_ret
            exact ⟨by rw [H.out]; rfl, HB4.out⟩
          · have hn0' : ¬ (0 : Int) < (k : Int) := by omega
            have H := Lib.hid (show (⟨(labText s.data.toList vs).toArray⟩ : ByteArray) = ⟨(partL s.data.toList vs k).toArray⟩ by
              have hv : vs = [] := List.length_eq_zero_iff.1 (by rw [HL.out]; omega)
              have hk0 : k = 0 := by omega
              rw [labText_yes HOK.out, hv, hk0, part_none])
            have hk0 : k = 0 := by omega
            clear hn0
            subst hk0
            obtain ⟨g4, cap4, rfl, hcv4⟩ := back_conv _ HBo.out
            go_wp2
            go_ret
            exact ⟨by rw [H.out]; rfl, HB.out⟩
    · have H := Lib.hid (show (⟨(labText s.data.toList vs).toArray⟩ : ByteArray) = ⟨#[116, 97, 117]⟩ by
        rw [HV.out, tau_iff.1 htau, labText_yes ⟨nameB_iff.1 tau_name, by simp, fun _ => rfl, rfl⟩]
        rfl)
      go_enter Tryz.func115, Tryz.ntmps115
      go_wp2
      go_ret
      exact ⟨by rw [H.out]; rfl, Below.refl _ _⟩
  · have hz : ((n : Int) == 0) = false := ib_ne (by omega)
    have HT := Lib.hid (show s.data.toList = tauB → vs ≠ [] from fun _ e => h0 (by rw [← HL.out, e]; rfl))
    clear h0
    rcases hac : actionB s.data.toList with _ | _
    · have H := Lib.hid (lab_none (ok_act hac HT.out))
      go_enter Tryz.func115, Tryz.ntmps115
      go_wp2_with (go_at_call 125; refine (implAction_any _ _).mono ?_; rw [hac]; rintro e w1 ⟨rfl, hb1⟩; have HB1 := Lib.hid hb1; clear hb1)
      go_ret
      exact ⟨by rw [H.out]; rfl, HB1.out⟩
    by_cases h2 : 2 < n
    · have H := Lib.hid (lab_none (nm := s.data.toList) (vs := vs) (ok_long (by rw [HL.out]; exact h2)))
      have h2' : (2 : Int) < (n : Int) := by omega
      go_enter Tryz.func115, Tryz.ntmps115
      go_wp2_with (go_at_call 125; refine (implAction_any _ _).mono ?_; rw [hac]; rintro e w1 ⟨rfl, hb1⟩; have HB1 := Lib.hid hb1; clear hb1)
      go_ret
      exact ⟨by rw [H.out]; rfl, HB1.out⟩
    have h2' : ¬ (2 : Int) < (n : Int) := by omega
    go_enter Tryz.func115, Tryz.ntmps115
    go_wp2_with fail
    refine (implAction_any _ _).mono ?_; rw [hac]; rintro e w1 ⟨rfl, hb1⟩
    have HB1 := Lib.hid hb1
    have hs1 := hb1.size
    clear hb1
    have HC := Lib.hid (containsF_any 126 (fun args w => Go.MuLone.run_callFunc_enter Tryz.func126 rfl rfl args w) (fun u => !inMod u) (fun u W => outMod_any u W) A n c vs w1 ((HR.out.below HB1.out).more hs1) HL.out hm)
    rw [any_not2] at HC
    rcases hall : vs.all inMod with _ | _
    · have H := Lib.hid (lab_none (nm := s.data.toList) (vs := vs) (ok_val hall))
      rw [hall] at HC
      go_wp2_with fail
      refine HC.out.mono ?_; rintro e w2 ⟨rfl, hd⟩
      have HB2 := Lib.hid (HB1.out.trans (hd.below w.heap.size))
      clear hd
      go_wp2
      go_ret
      exact ⟨by rw [H.out]; rfl, HB2.out⟩
    rw [hall] at HC
    go_wp2_with fail
    refine HC.out.mono ?_; rintro e w2 ⟨rfl, hd⟩
    have HB2 := Lib.hid (HB1.out.trans (hd.below w.heap.size))
    have hs2 := HB2.out.size
    clear hd
    have hle := name_le (act_ok hac).1
    have HOK := Lib.hid (show LabOk s.data.toList vs from ⟨nameB_iff.1 (act_ok hac).1, by rw [HL.out]; omega, fun e => absurd e (act_ok hac).2, hall⟩)
    have HP := Lib.hid (part_len (nm := s.data.toList) (vs := vs) hle.2 (by rw [HL.out]; omega) hall)
    have HAll := Lib.hid hall
    have hss : 1 ≤ s.data.toList.length := hle.1
    clear hall hac hle
    have HCV := Lib.run_convert_string_bytes (P := Tryz.prog) w2 9 101 5 s Tryz.underlying9 Tryz.underlying101 Tryz.underlying5
    have HBR := Lib.hid ((BRow.conv w2 s).lower hs2)
    have HB3 := Lib.hid (HB2.out.trans ((bytesWorld_below w2 5 s).mono hs2))
    generalize bytesWorld w2 5 s = w3 at *
    generalize grownCap w2 s.size 0 5 = cap3 at *
    go_wp2
    go_loopw [5, 6, 8, 32] (fun tv mv _ iv wr => ∃ k : Nat, k ≤ n ∧ iv = .int .i64 k ∧ mv = .int .i32 (if k = 0 then 40 else 44) ∧ BRow wr w.heap.size tv (partL s.data.toList vs k) ∧ Below w.heap.size w wr) (fun _ _ _ iv _ => n - (intOf iv).toNat)
    case atStart => exact ⟨0, Nat.zero_le _, rfl, rfl, HBR.out, HB3.out⟩
    case round =>
      obtain ⟨k, hk, rfl, rfl, hbr, hb⟩ := hrel
      obtain ⟨wo, rfl⟩ : ∃ wo : World, wo = wr := ⟨_, rfl⟩
      have HBo := Lib.hid hbr
      have HB := Lib.hid hb
      have hsz := hb.size
      have hpl := HP.out k
      clear hbr hb HBR HB3
      by_cases hlt : k < n
      · obtain ⟨b, off, x, rfl, hbb, hc, HU⟩ := (HR.out.below HB.out).at_ (k := k) (by rw [HL.out]; exact hlt)
        obtain ⟨u, rfl, hu64, _⟩ := itoa_small (List.all_eq_true.1 HAll.out _ (List.mem_of_getElem? HU.out))
        have hu100 : u < 100 := by omega
        by_cases hk0 : k = 0
        · subst hk0
          rw [Nat.add_zero] at hc
          have HF := Lib.hid (part_first (nm := s.data.toList) HU.out)
          simp only [if_true]
          go_wp2_with (first
            | (at_builtin; refine wp_append_bytes _ rfl _ _ rfl w.heap.size _ (partL s.data.toList vs 0) [40] rfl (HBo.out.below ((Below.refl _ _).alloc (Nat.le_refl _) _)) ⟨wo.heap.size, 0, none⟩ 1 1 rfl rfl (Nat.le_refl _) (cell_one_new _ _ _) (by have := hpl.1; omega) (by simp; omega) ?_; intro v2 w4 hr4 hb4; have HR4 := Lib.hid hr4; have HB4 := Lib.hid ((HB.out.alloc hsz _).trans hb4); clear hr4 hb4)
            | (go_at_call 127; refine (appendInt_small w.heap.size u hu100 v2 _ _ HR4.out (by rw [List.length_append, List.length_singleton]; have := hpl.1; omega) HB4.out.size).mono ?_; rintro e w5 ⟨v5, rfl, hr5, hb5⟩; have HR5 := Lib.hid hr5; have HB5 := Lib.hid (HB4.out.trans hb5); clear hr5 hb5))
          go_roundw
          case rel => exact ⟨0 + 1, by omega, by go_num, rfl, by rw [← HF.out]; exact HR5.out, HB5.out⟩
          case measure => simp [intOf]; omega
        · have HF := Lib.hid (part_next (nm := s.data.toList) hk0 HU.out)
          simp only [if_neg hk0]
          go_wp2_with (first
            | (at_builtin; refine wp_append_bytes _ rfl _ _ rfl w.heap.size _ (partL s.data.toList vs k) [44] rfl (HBo.out.below ((Below.refl _ _).alloc (Nat.le_refl _) _)) ⟨wo.heap.size, 0, none⟩ 1 1 rfl rfl (Nat.le_refl _) (cell_one_new _ _ _) (by have := hpl.1; omega) (by simp; omega) ?_; intro v2 w4 hr4 hb4; have HR4 := Lib.hid hr4; have HB4 := Lib.hid ((HB.out.alloc hsz _).trans hb4); clear hr4 hb4)
            | (go_at_call 127; refine (appendInt_small w.heap.size u hu100 v2 _ _ HR4.out (by rw [List.length_append, List.length_singleton]; have := hpl.1; omega) HB4.out.size).mono ?_; rintro e w5 ⟨v5, rfl, hr5, hb5⟩; have HR5 := Lib.hid hr5; have HB5 := Lib.hid (HB4.out.trans hb5); clear hr5 hb5))
          go_roundw
          case rel => exact ⟨k + 1, by omega, by go_num, by rw [if_neg (by omega)], by rw [← HF.out]; exact HR5.out, HB5.out⟩
          case measure => simp [intOf]; omega
      · have hke : k = n := by omega
        subst hke
        by_cases hn0 : 0 < k
        · have hn0' : (0 : Int) < (k : Int) := by omega
          have H := Lib.hid (show (⟨(labText s.data.toList vs).toArray⟩ : ByteArray) = ⟨(partL s.data.toList vs k ++ [41]).toArray⟩ by
            rw [labText_yes HOK.out, ← part_all (fun e => by rw [← HL.out, e] at hn0; simp at hn0), HL.out])
          clear hn0
          go_wp2_with (at_builtin; go_loud (refine wp_append_bytes _ rfl _ _ rfl w.heap.size _ (partL s.data.toList vs k) [41] rfl (HBo.out.below ((Below.refl _ _).alloc (Nat.le_refl _) _)) ⟨wo.heap.size, 0, none⟩ 1 1 rfl rfl (Nat.le_refl _) (cell_one_new _ _ _) (by have := hpl.1; omega) (by simp; omega) ?_; intro v2 w4 hr4 hb4; have HB4 := Lib.hid ((HB.out.alloc hsz _).trans hb4); obtain ⟨g4, cap4, rfl, hcv4⟩ := back_conv _ hr4; simp only [List.length_append, List.length_cons, List.length_nil, Nat.zero_add] at hcv4; clear hr4 hb4))
          go_ret
          exact ⟨by rw [H.out]; rfl, HB4.out⟩
        · have hn0' : ¬ (0 : Int) < (k : Int) := by omega
          have H := Lib.hid (show (⟨(labText s.data.toList vs).toArray⟩ : ByteArray) = ⟨(partL s.data.toList vs k).toArray⟩ by
            have hv : vs = [] := List.length_eq_zero_iff.1 (by rw [HL.out]; omega)
            have hk0 : k = 0 := by omega
            rw [labText_yes HOK.out, hv, hk0, part_none])
          have hk0 : k = 0 := by omega
          clear hn0
          subst hk0
          obtain ⟨g4, cap4, rfl, hcv4⟩ := back_conv _ HBo.out
          go_wp2
          go_ret
          exact ⟨by rw [H.out]; rfl, HB.out⟩
end Go.Proofs.YtbailpfjgjcbdaaGreatDoor

namespace Go.Proofs
open Go.Shelf
end Go.Proofs
namespace Go.Proofs.YtbailpfjgjcbdaaGreatDoor
open Go.RowKit Go.Lib
theorem strs_data (ps : List (List UInt8)) : (ps.map fun l => (⟨l.toArray⟩ : ByteArray)).map (·.data.toList) = ps := by
  rw [List.map_map]
  exact (List.map_congr_left fun x _ => rfl).trans (List.map_id _)
theorem info_str2 : (Tryz.prog.info? 9).map (fun i => (i.zero, i.size, i.bytes)) = some (some (.string ByteArray.empty), 1, 16) := info_str
def OwnS (w' : World) (g n : Nat) (xs : List Int) : Prop := w'.ownsRow g 9 1 (.slice (some ⟨g, 0, none⟩) n n) n (strs (xs.map itoa))
end Go.Proofs.YtbailpfjgjcbdaaGreatDoor

namespace Go.Proofs.YtbailpfjgjcbdaaGreatDoor
open Go.RowKit Go.Lib
theorem listText_yes {xs : List Int} (h : fitsL xs = true) : listText xs = listT xs := by unfold listText; rw [if_pos h]
theorem listText_no {xs : List Int} (h : fitsL xs = false) : listText xs = [] := by unfold listText; rw [if_neg (by rw [h]; exact Bool.false_ne_true)]
theorem fits_len {xs : List Int} (h : fitsL xs = true) : xs.length ≤ 64 := by unfold fitsL at h; simp at h; exact h.1
theorem any_not (xs : List Int) (p : Int → Bool) : xs.any (fun u => !p u) = !xs.all p := by
  induction xs with
  | nil => rfl
  | cons x r ih => rw [List.any_cons, List.all_cons, ih, Bool.not_and]
end Go.Proofs.YtbailpfjgjcbdaaGreatDoor

namespace Go.Proofs.YtbailpfjgjcbdaaGreatDoor
open Go.RowKit Go.Lib
/-- What is read of the text of a list, and whether there is anything. -/
noncomputable def rlR (l : List UInt8) : List Int × Bool := match readL l with
  | some vs => (vs, true)
  | none => ([], false)
theorem rlR_yes {l : List UInt8} {vs : List Int} (h : readL l = some vs) : rlR l = (vs, true) := by unfold rlR; rw [h]
theorem rlR_no {l : List UInt8} (h : readL l = none) : rlR l = ([], false) := by unfold rlR; rw [h]
theorem readL_len {l : List UInt8} {vs : List Int} (h : readL l = some vs) : vs.length ≤ 64 := by
  unfold readL at h
  split at h
  · injection h with h; subst h; decide
  · split at h
    · rename_i hex
      injection h with h; subst h
      exact hex.choose_spec.2
    · cases h
theorem rlR_len (l : List UInt8) : (rlR l).1.length ≤ 2000000 := by
  unfold rlR
  cases h : readL l with
  | none => simp
  | some vs => have := readL_len h; simp only; omega
/-- A pair of a list in a slice of its own and a truth. -/
def RetIb (w : World) (r : List Int × Bool) (e : Ending) (w' : World) : Prop :=
  ∃ A n c, e = .returned (.tuple #[.slice A n c, .bool r.2]) ∧ OwnV w' w.heap.size w'.heap.size 2 1 A n c (r.1.map (Value.int .i64)) ∧ Below w.heap.size w w'
theorem own_nil (w w' : World) : OwnV w' w.heap.size w'.heap.size 2 1 none 0 0 (([] : List Int).map (Value.int .i64)) :=
  ⟨⟨rfl, .inl ⟨rfl, rfl⟩⟩, fun g h => by cases h⟩
theorem RetIb.nil {w w' : World} {b : Bool} {r : List Int × Bool} (hr : r = ([], b)) (hb : Below w.heap.size w w') : RetIb w r (.returned (.tuple #[.slice none 0 0, .bool b])) w' := by
  subst hr
  exact ⟨none, 0, 0, rfl, own_nil w w', hb⟩
theorem RetIb.mk' {w w' : World} {b : Bool} {xs : List Int} {A : Option Addr} {n c : Nat} {r : List Int × Bool} (hr : r = (xs, b)) (ho : w'.ownsRow w.heap.size 2 1 (.slice A n c) n (xs.map (Value.int .i64))) (hb : Below w.heap.size w w') :
    RetIb w r (.returned (.tuple #[.slice A n c, .bool b])) w' := by
  subst hr
  exact ⟨A, n, c, rfl, OwnV.mk' ho, hb⟩
theorem dash_iff {s : ByteArray} : (s.toList == [45]) = true ↔ s.data.toList = [45] := by
  rw [ByteArray.toList_eq]
  exact beq_iff_eq
theorem dash_no {s : ByteArray} (h : (s.toList == [45]) = false) : s.data.toList ≠ [45] := fun e => by rw [dash_iff.2 e] at h; cases h
theorem yes_max {l : List UInt8} (hl : l ≠ [45]) (h : ∀ vs, ¬ Read yes (pcs 44 l) vs) : readL l = none :=
  readL_no hl (fun vs hv => absurd (hv.weaken (all_yes vs)) (h vs))
theorem list_back {l : List UInt8} {vs : List Int} (hl : l ≠ [45]) (h : Read yes (pcs 44 l) vs) (hf : fitsL vs = true) : listText vs = l ∧ readL l = some vs := by
  have hv := h.ne
  refine ⟨?_, ?_⟩
  · rw [listText_yes hf]
    unfold listT
    rw [if_neg hv, h.decs]
  · unfold fitsL at hf
    simp only [Bool.and_eq_true, decide_eq_true_eq] at hf
    exact readL_yes hl (h.weaken hf.2) hf.1
theorem list_miss {l : List UInt8} {vs : List Int} (hl : l ≠ [45]) (h : Read yes (pcs 44 l) vs) (hf : fitsL vs = false) : listText vs ≠ l ∧ readL l = none := by
  refine ⟨?_, ?_⟩
  · rw [listText_no hf]
    rintro rfl
    have : vs = [] ∨ vs ≠ [] := Classical.em _
    have h1 : (pcs 44 ([] : List UInt8)) = [[]] := rfl
    rw [h1] at h
    cases vs with
    | nil => have := h.length; simp at this
    | cons v r =>
      have := h.1
      simp [num] at this
  · refine readL_no hl (fun us hu hn => ?_)
    have e := h.inj hu
    subst e
    unfold fitsL at hf
    rw [hu.2] at hf
    simp [hn] at hf
theorem read_wf {P : Int → Bool} {ps : List (List UInt8)} {vs : List Int} (h : Read P ps vs) : Wf vs := by
  intro v hv
  obtain ⟨k, hk, rfl⟩ := List.getElem_of_mem hv
  have := congrArg (fun l => l[k]?) h.1
  simp only [List.getElem?_map] at this
  rw [List.getElem?_eq_getElem hk] at this
  cases hp : ps[k]? with
  | none => rw [hp] at this; cases this
  | some p =>
    rw [hp] at this
    simp only [Option.map_some, Option.some.injEq] at this
    have := num_bounds this
    omega
theorem own_len {w : World} {lo hi : Nat} {T : TypeId} {A : Option Addr} {n c : Nat} {vs : List Value} (h : OwnV w lo hi T 1 A n c vs) : vs.length = n := h.len
end Go.Proofs.YtbailpfjgjcbdaaGreatDoor
