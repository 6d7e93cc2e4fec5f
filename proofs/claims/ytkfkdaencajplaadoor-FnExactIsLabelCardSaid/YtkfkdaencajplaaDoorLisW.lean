/- The text of a list of numbers: the model's function and the program's give one answer. -/
import Derived.Test.YtkfkdaencajplaaDoorProg
import Derived.WalkKit
import Derived.ProofKit
import Derived.Outline
import Derived.Test.YtkfkdaencajplaaDoorMem
import Derived.Test.YtkfkdaencajplaaDoorOwn
import Derived.Test.YtkfkdaencajplaaDoorDecW
import Derived.Test.YtkfkdaencajplaaDoorL00
import Derived.Test.YtkfkdaencajplaaDoorLisM
import Derived.Test.YtkfkdaencajplaaDoorRdI
import Derived.Conc.MuLone
namespace Go.Proofs.YtkfkdaencajplaaDoor
open Go.RowKit Go.Lib
theorem str_app (a b : ByteArray) : (a ++ b : ByteArray) = ⟨(a.data.toList ++ b.data.toList).toArray⟩ := by
  apply ByteArray.ext
  apply Array.ext'
  simp [ByteArray.data_append]
def Wf (xs : List Int) : Prop := ∀ x ∈ xs, -9223372036854775808 ≤ x ∧ x ≤ 9223372036854775807
theorem Wf.at_ {xs : List Int} (h : Wf xs) {k : Nat} {u : Int} (hk : xs[k]? = some u) : -9223372036854775808 ≤ u ∧ u ≤ 9223372036854775807 := h u (List.mem_of_getElem? hk)
theorem Wf.take {xs : List Int} (h : Wf xs) (k : Nat) : Wf (xs.take k) := fun x hx => h x (List.mem_of_mem_take hx)
theorem part_short {xs : List Int} (h : Wf xs) (h64 : xs.length ≤ 64) (k : Nat) : (decs (xs.take k)).length ≤ 1408 := by
  have := decs_short (xs.take k) (h.take k)
  rw [List.length_take] at this
  omega
set_option maxHeartbeats 1600000 in
theorem specList_any (A : Option Addr) (n c : Nat) (xs : List Int) (w : World) (hr : IRow w w.heap.size A xs) (hn : xs.length = n) (h64 : n ≤ 64) (hwf : Wf xs) :
    Calls Tryd.prog 26 #[.slice A n c] w fun e w' => e = .returned (.string ⟨(listT xs).toArray⟩) ∧ Below w.heap.size w w' := by
  subst hn
  by_cases h0 : xs.length = 0
  · have H := Lib.hid (show (⟨(listT xs).toArray⟩ : ByteArray) = ⟨#[45]⟩ by unfold listT; rw [if_pos (List.length_eq_zero_iff.1 h0)])
    have hz : ((xs.length : Int) == 0) = true := ib_eq (by omega)
    go_enter Tryd.func26, Tryd.ntmps26
    go_wp2
    go_ret
    exact ⟨by rw [H.out]; rfl, Below.refl _ _⟩
  have HR := Lib.hid hr
  have HW := Lib.hid hwf
  have HS := Lib.hid (part_short hwf h64)
  have hz : ((xs.length : Int) == 0) = false := ib_ne (by omega)
  clear hr hwf
  go_enter Tryd.func26, Tryd.ntmps26
  go_wp2
  go_loopw [3, 4] (fun ov iv wr => ∃ k : Nat, k ≤ xs.length ∧ iv = .int .i64 k ∧ ov = .string ⟨(decs (xs.take k)).toArray⟩ ∧ Below w.heap.size w wr) (fun _ i _ => xs.length - (intOf i).toNat)
  case atStart => exact ⟨0, Nat.zero_le _, rfl, rfl, Below.refl _ _⟩
  case round =>
    obtain ⟨k, hk, rfl, rfl, hb⟩ := hrel
    obtain ⟨wo, rfl⟩ : ∃ wo : World, wo = wr := ⟨_, rfl⟩
    have HB := Lib.hid hb
    have hsz := hb.size
    clear hb
    by_cases hlt : k < xs.length
    · obtain ⟨b, off, u, rfl, hbb, hc, HU⟩ := (HR.out.below HB.out).at_ hlt
      obtain ⟨hu0, hu1⟩ := HW.out.at_ HU.out
      have hsk := HS.out k
      obtain ⟨o, ho⟩ : ∃ o : ByteArray, o = ⟨(decs (xs.take k)).toArray⟩ := ⟨_, rfl⟩
      have HO := Lib.hid ho
      have hos : o.size ≤ 1408 := by rw [ho, list_size]; exact hsk
      rw [← ho]
      clear ho hsk
      have hil := itoa_le hu0 hu1
      by_cases hk0 : k = 0
      · subst hk0
        rw [Nat.add_zero] at hc
        have HF := Lib.hid (show (⟨(decs (xs.take (0 + 1))).toArray⟩ : ByteArray) = o ++ ⟨(itoa u).toArray⟩ by rw [HO.out, str_app, decs_first xs u HU.out]; simp [decs, join])
        go_wp2_with (refine (dec_all u _ hu0 hu1).mono ?_; rintro e w1 ⟨rfl, hb1⟩; have HB1 := Lib.hid (HB.out.trans (hb1.mono hsz)); clear hb1)
        go_roundw
        case rel => exact ⟨0 + 1, by omega, by go_num, by rw [HF.out], HB1.out⟩
        case measure => simp [intOf]; omega
      · have HF := Lib.hid (show (⟨(decs (xs.take (k + 1))).toArray⟩ : ByteArray) = o ++ ⟨#[44]⟩ ++ ⟨(itoa u).toArray⟩ by rw [HO.out, str_app, str_app, decs_next xs k u hk0 HU.out])
        have hkp : (0 : Int) < (k : Int) := by omega
        go_wp2_with (refine (dec_all u _ hu0 hu1).mono ?_; rintro e w1 ⟨rfl, hb1⟩; have HB1 := Lib.hid (HB.out.trans (hb1.mono hsz)); clear hb1)
        go_roundw
        case rel => exact ⟨k + 1, by omega, by go_num, by rw [HF.out], HB1.out⟩
        case measure => simp [intOf]; omega
    · have hke : k = xs.length := by omega
      subst hke
      have HF := Lib.hid (show (⟨(decs (xs.take xs.length)).toArray⟩ : ByteArray) = ⟨(listT xs).toArray⟩ by rw [List.take_length]; unfold listT; rw [if_neg (fun e => h0 (by rw [e]; rfl))])
      go_wp2
      go_ret
      exact ⟨by rw [HF.out]; rfl, HB.out⟩
/-! the bounds of a list of numbers -/
theorem fits_bad {xs : List Int} {k : Nat} {u : Int} (hk : xs[k]? = some u) (h : inMax u = false) : fitsL xs = false := by
  unfold fitsL
  have : xs.all inMax = false := by
    rw [Bool.eq_false_iff]
    intro ha
    have := List.all_eq_true.1 ha u (List.mem_of_getElem? hk)
    rw [h] at this; cases this
  rw [this, Bool.and_false]
theorem inMax_yes {u : Int} (h : -1000000000000 ≤ u ∧ u ≤ 1000000000000) : inMax u = true := by unfold inMax; exact decide_eq_true h
theorem inMax_no {u : Int} (h : u < -1000000000000 ∨ 1000000000000 < u) : inMax u = false := by unfold inMax; exact decide_eq_false (by omega)
set_option maxHeartbeats 1600000 in
theorem specFits_any (A : Option Addr) (n c : Nat) (xs : List Int) (w : World) (hr : IRow w w.heap.size A xs) (hn : xs.length = n) (hm : n ≤ 1048576) :
    Calls Tryd.prog 25 #[.slice A n c] w fun e w' => e = .returned (.bool (fitsL xs)) ∧ Drawn w w' := by
  subst hn
  have HR := Lib.hid hr
  clear hr
  go_enter Tryd.func25, Tryd.ntmps25
  go_wp2
  go_loopw [3] (fun iv wr => ∃ k : Nat, k ≤ xs.length ∧ iv = .int .i64 k ∧ Drawn w wr ∧ Hid ((xs.take k).all inMax = true)) (fun i _ => xs.length - (intOf i).toNat)
  case atStart => exact ⟨0, Nat.zero_le _, rfl, Drawn.refl _, Lib.hid (by simp)⟩
  case round =>
    obtain ⟨k, hk, rfl, hd, HI⟩ := hrel
    obtain ⟨wo, rfl⟩ : ∃ wo : World, wo = wr := ⟨_, rfl⟩
    have HD := Lib.hid hd
    clear hd
    by_cases hlt : k < xs.length
    · obtain ⟨b, off, u, rfl, hbb, hc, HU⟩ := (HR.out.drawn HD.out).at_ hlt
      by_cases hin : -1000000000000 ≤ u ∧ u ≤ 1000000000000
      · have HS := Lib.hid (show (xs.take (k + 1)).all inMax = true by rw [take_one xs k u HU.out, List.all_append, HI.out]; simp [inMax_yes hin])
        go_wp2_with (refine (l00In_yes u _ _ hin _).mono ?_; rintro e w' ⟨rfl, rfl⟩)
        go_roundw
        case rel => exact ⟨k + 1, by omega, by go_num, by first | exact HD.out.drew | exact HD.out.drew.drew | exact HD.out, HS.out⟩
        case measure => simp [intOf]; omega
      · have H := Lib.hid (fits_bad HU.out (inMax_no (by omega)))
        go_wp2_with (refine (l00In_no u _ _ (by omega) _).mono ?_; rintro e w' ⟨rfl, rfl⟩)
        go_ret
        exact ⟨ret_bool H.out.symm, by first | exact HD.out.drew | exact HD.out.drew.drew | exact HD.out⟩
    · have hke : k = xs.length := by omega
      subst hke
      by_cases h64 : xs.length ≤ 64
      · have H := Lib.hid (show fitsL xs = true by unfold fitsL; have := HI.out; rw [List.take_length] at this; rw [this]; simp [h64])
        have h64' : (xs.length : Int) ≤ 64 := by omega
        go_wp2
        go_ret
        exact ⟨ret_bool H.out.symm, by first | exact HD.out.drew | exact HD.out⟩
      · have H := Lib.hid (show fitsL xs = false by unfold fitsL; simp [h64])
        have h64' : ¬ (xs.length : Int) ≤ 64 := by omega
        go_wp2
        go_ret
        exact ⟨ret_bool H.out.symm, by first | exact HD.out.drew | exact HD.out⟩
end Go.Proofs.YtkfkdaencajplaaDoor
