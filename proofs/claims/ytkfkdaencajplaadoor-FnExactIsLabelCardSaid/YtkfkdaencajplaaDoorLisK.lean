/- ListText: the model's and the program's answers are one; the law. -/
import Derived.Test.YtkfkdaencajplaaDoorLisJ
import Derived.ChangeOld
import Derived.Below
namespace Go.Proofs.YtkfkdaencajplaaDoor
open Go.RowKit Go.Lib
theorem listText_yes {xs : List Int} (h : fitsL xs = true) : listText xs = listT xs := by unfold listText; rw [if_pos h]
theorem listText_no {xs : List Int} (h : fitsL xs = false) : listText xs = [] := by unfold listText; rw [if_neg (by rw [h]; exact Bool.false_ne_true)]
theorem fits_len {xs : List Int} (h : fitsL xs = true) : xs.length ≤ 64 := by unfold fitsL at h; simp at h; exact h.1
set_option maxHeartbeats 800000 in
set_option maxRecDepth 100000 in
theorem specListText_any (A : Option Addr) (n c : Nat) (xs : List Int) (w : World) (hr : IRow w w.heap.size A xs) (hn : xs.length = n) (hm : n ≤ 1048576) (hwf : Wf xs) :
    Calls Tryd.prog 9 #[.slice A n c] w fun e w' => e = .returned (.string ⟨(listText xs).toArray⟩) ∧ Below w.heap.size w w' := by
  have HF := Lib.hid (specFits_any A n c xs w hr hn hm)
  have HR := Lib.hid hr
  have HL := Lib.hid hn
  have HW := Lib.hid hwf
  clear hr hn hwf
  rcases hf : fitsL xs with _ | _
  · rw [hf] at HF
    have H := Lib.hid (show (⟨(listText xs).toArray⟩ : ByteArray) = ⟨#[]⟩ by rw [listText_no hf])
    clear hf
    go_enter Tryd.func9, Tryd.ntmps9
    go_wp2_with fail
    refine HF.out.mono ?_; rintro e w1 ⟨rfl, hd⟩
    have HD := Lib.hid hd
    clear hd
    go_wp2
    go_ret
    exact ⟨by rw [H.out]; rfl, HD.out.below _⟩
  · rw [hf] at HF
    have H := Lib.hid (show (⟨(listText xs).toArray⟩ : ByteArray) = ⟨(listT xs).toArray⟩ by rw [listText_yes hf])
    have h64 := fits_len hf
    rw [HL.out] at h64
    clear hf
    go_enter Tryd.func9, Tryd.ntmps9
    go_wp2_with fail
    refine HF.out.mono ?_; rintro e w1 ⟨rfl, hd⟩
    have HD := Lib.hid hd
    have hsz := (hd.below w.heap.size).size
    clear hd
    have HC := Lib.hid (specList_any A n c xs w1 ((HR.out.drawn HD.out).more hsz) HL.out h64 HW.out)
    go_wp2_with fail
    refine HC.out.mono ?_; rintro e w2 ⟨rfl, hb⟩
    have HB := Lib.hid ((HD.out.below w.heap.size).trans (hb.mono hsz))
    clear hb
    go_wp2
    go_ret
    exact ⟨by rw [H.out]; rfl, HB.out⟩
theorem any_not (xs : List Int) (p : Int → Bool) : xs.any (fun u => !p u) = !xs.all p := by
  induction xs with
  | nil => rfl
  | cons x r ih => rw [List.any_cons, List.all_cons, ih, Bool.not_and]
set_option maxHeartbeats 800000 in
set_option maxRecDepth 100000 in
theorem implListText_any (A : Option Addr) (n c : Nat) (xs : List Int) (w : World) (hr : IRow w w.heap.size A xs) (hn : xs.length = n) (hm : n ≤ 1048576) (hwf : Wf xs) (ht : Pow10 w) :
    Calls Tryd.prog 11 #[.slice A n c] w fun e w' => e = .returned (.string ⟨(listText xs).toArray⟩) ∧ Below w.heap.size w w' := by
  have HC := Lib.hid (containsF_any 28 (fun args w => Go.MuLone.run_callFunc_enter Tryd.func28 rfl rfl args w) (fun u => !inMax u) (fun u W => outMax_any u W) A n c xs w hr hn hm)
  rw [any_not] at HC
  have HR := Lib.hid hr
  have HL := Lib.hid hn
  have HW := Lib.hid hwf
  have HT := Lib.hid ht
  clear hr hn hwf ht
  by_cases h64 : n ≤ 64
  · have h64' : ¬ (64 : Int) < (n : Int) := by omega
    rcases hf : xs.all inMax with _ | _
    · rw [hf] at HC
      have H := Lib.hid (show (⟨(listText xs).toArray⟩ : ByteArray) = ⟨#[]⟩ by rw [listText_no (by unfold fitsL; rw [hf, Bool.and_false])])
      clear hf
      go_enter Tryd.func11, Tryd.ntmps11
      go_wp2_with (first | (go_at_call 27; refine HC.out.mono ?_; rintro e w1 ⟨rfl, hd⟩; have HD := Lib.hid hd; clear hd))
      go_ret
      exact ⟨by rw [H.out]; rfl, HD.out.below _⟩
    · rw [hf] at HC
      have H := Lib.hid (show (⟨(listText xs).toArray⟩ : ByteArray) = ⟨(listT xs).toArray⟩ by rw [listText_yes (by unfold fitsL; rw [hf, HL.out]; simp [h64])])
      clear hf
      by_cases h0 : n = 0
      · have hz : ((n : Int) == 0) = true := ib_eq (by omega)
        have HE := Lib.hid (show (⟨(listT xs).toArray⟩ : ByteArray) = ⟨#[45]⟩ by unfold listT; rw [if_pos (List.length_eq_zero_iff.1 (by rw [HL.out]; exact h0))])
        clear h0
        go_enter Tryd.func11, Tryd.ntmps11
        go_wp2_with (first | (go_at_call 27; refine HC.out.mono ?_; rintro e w1 ⟨rfl, hd⟩; have HD := Lib.hid hd; clear hd))
        go_ret
        exact ⟨by rw [H.out, HE.out]; rfl, HD.out.below _⟩
      · have hz : ((n : Int) == 0) = false := ib_ne (by omega)
        have HE := Lib.hid (show (⟨(listT xs).toArray⟩ : ByteArray) = ⟨(decs xs).toArray⟩ by unfold listT; rw [if_neg (fun e => h0 (by rw [← HL.out, e]; rfl))])
        go_enter Tryd.func11, Tryd.ntmps11
        go_wp2_with fail
        refine HC.out.mono ?_; rintro e w1 ⟨rfl, hd⟩
        have HD := Lib.hid hd
        have hsz := (hd.below w.heap.size).size
        have HJ := Lib.hid (joinNumbers_any A n c xs w1 ((HR.out.drawn HD.out).more hsz) HL.out (by omega) h64 HW.out (HT.out.below (HD.out.below _)))
        clear hd
        go_wp2_with fail
        refine HJ.out.mono ?_; rintro e w2 ⟨rfl, hb⟩
        have HB := Lib.hid ((HD.out.below w.heap.size).trans (hb.mono hsz))
        clear hb
        go_wp2
        go_ret
        exact ⟨by rw [H.out, HE.out]; rfl, HB.out⟩
  · have h64' : (64 : Int) < (n : Int) := by omega
    have H := Lib.hid (show (⟨(listText xs).toArray⟩ : ByteArray) = ⟨#[]⟩ by rw [listText_no (by unfold fitsL; rw [HL.out]; simp [h64])])
    clear HC
    go_enter Tryd.func11, Tryd.ntmps11
    go_wp2
    go_ret
    exact ⟨by rw [H.out]; rfl, Below.refl _ _⟩
set_option maxRecDepth 100000 in
theorem lawListText_any (A : Option Addr) (n c : Nat) (xs : List Int) (w : World) (hr : IRow w w.heap.size A xs) (hn : xs.length = n) (hwf : Wf xs) (ht : Pow10 w) :
    Calls Tryd.prog 3 #[.slice A n c] w fun e w' => e = .returned (.bool true) ∧ Below w.heap.size w w' := by
  have HR := Lib.hid hr
  have HL := Lib.hid hn
  have HW := Lib.hid hwf
  have HT := Lib.hid ht
  clear hr hn hwf ht
  by_cases hm : 1048576 < n
  · have hm' : (1048576 : Int) < (n : Int) := by omega
    go_enter Tryd.func3, Tryd.ntmps3
    go_wp2
    go_ret
    exact ⟨rfl, Below.refl _ _⟩
  have hm' : ¬ (1048576 : Int) < (n : Int) := by omega
  have hm2 : n ≤ 2000000 := by omega
  go_enter Tryd.func3, Tryd.ntmps3
  go_wp2_with fail
  refine (toI_any A n c xs w _ HR.out (Nat.le_refl _) HL.out hm2).mono ?_; rintro e w1 ⟨rfl, ho1, hb1⟩
  have HB1 := Lib.hid hb1
  have hs1 := hb1.size
  have HO1 := Lib.hid (Row.of_own ho1)
  clear ho1 hb1
  go_wp2_with fail
  refine (specListText_any _ n n xs w1 HO1.out HL.out (by omega) HW.out).mono ?_; rintro e w2 ⟨rfl, hb2⟩
  have HB2 := Lib.hid (HB1.out.trans (hb2.mono hs1))
  have hs2 := HB2.out.size
  clear hb2 HO1
  go_wp2_with fail
  refine (toI_any A n c xs w2 _ (HR.out.below HB2.out) hs2 HL.out hm2).mono ?_; rintro e w3 ⟨rfl, ho3, hb3⟩
  have HB3 := Lib.hid (HB2.out.trans (hb3.mono hs2))
  have hs3 := hb3.size
  have HO3 := Lib.hid (Row.of_own ho3)
  clear ho3 hb3
  go_wp2_with fail
  refine (implListText_any _ n n xs w3 HO3.out HL.out (by omega) HW.out (HT.out.below HB3.out)).mono ?_; rintro e w4 ⟨rfl, hb4⟩
  have HB4 := Lib.hid (HB3.out.trans (hb4.mono (Nat.le_trans hs2 hs3)))
  have hs4 := hb4.size
  have HO4 := Lib.hid (IRow.below HO3.out hb4)
  clear hb4 HO3
  have hq : ((⟨(listText xs).toArray⟩ : ByteArray).toList == (⟨(listText xs).toArray⟩ : ByteArray).toList) = true := by simp
  generalize (⟨(listText xs).toArray⟩ : ByteArray) = tx at *
  go_wp2_with fail
  refine (toI_any A n c xs w4 _ (HR.out.below HB4.out) (Nat.le_trans hs2 (Nat.le_trans hs3 hs4)) HL.out hm2).mono ?_; rintro e w5 ⟨rfl, ho5, hb5⟩
  have HB5 := Lib.hid (HB4.out.trans (hb5.mono (Nat.le_trans hs2 (Nat.le_trans hs3 hs4))))
  have HO5 := Lib.hid (Row.of_own ho5)
  have HO6 := Lib.hid (IRow.more (IRow.below HO4.out (hb5.mono hs4)) (Nat.le_trans hs4 hb5.size))
  clear ho5 hb5 HO4
  go_wp2_with fail
  refine (eqI_yes _ _ n n n n xs w5 _ HO6.out HO5.out HL.out HL.out hm2).mono ?_; rintro e w6 ⟨rfl, hd⟩
  have HD := Lib.hid hd
  clear hd
  go_wp2
  go_ret
  exact ⟨rfl, HB5.out.trans (HD.out.below _)⟩
end Go.Proofs.YtkfkdaencajplaaDoor
