/- A number is read: the model's function and the program's answer as the mathematics does. -/
import Derived.Test.YthbnfjedjijacaaGreatDoorProg
import Derived.WalkKit
import Derived.ProofKit
import Derived.Outline
import Derived.Test.YthbnfjedjijacaaGreatDoorLow
import Derived.Test.YthbnfjedjijacaaGreatDoorName
import Derived.Test.YthbnfjedjijacaaGreatDoorMath
namespace Go.Proofs.YthbnfjedjijacaaGreatDoor
open Go.RowKit Go.Lib
/-- What is returned for a number that is read, and for none. -/
def numRet : Option Int → Value
  | some n => .tuple #[.int .i64 n, .bool true]
  | none => .tuple #[.int .i64 0, .bool false]
theorem dig_eq (c : UInt8) : digitI (c.toNat : Int) = isDig c := by
  unfold digitI isDig
  rw [decide_eq_decide]
  omega
theorem l_head {s : ByteArray} (h : 0 < s.size) : ∃ r, s.data.toList = s[0] :: r ∧ r.length + 1 = s.size := by
  have h0 := byte_at s 0 h
  have hl := byte_len s
  cases hd : s.data.toList with
  | nil => rw [hd] at h0; cases h0
  | cons c r =>
    rw [hd] at h0 hl
    injection h0 with h0
    exact ⟨r, by rw [h0], by simpa using hl⟩
theorem num_minus {s : ByteArray} (h : 0 < s.size) (h45 : s[0] = 45) : num s.data.toList = Option.map (fun u : Nat => -(u : Int)) (numD (s.data.toList.drop 1) true) := by
  obtain ⟨r, e, _⟩ := l_head h
  rw [e, h45]
  simp [num]
theorem num_plain {s : ByteArray} (h : 0 < s.size) (h45 : s[0] ≠ 45) : num s.data.toList = Option.map (fun u : Nat => (u : Int)) (numD (s.data.toList.drop 0) (decide (1 < s.size))) := by
  obtain ⟨r, e, hl⟩ := l_head h
  rw [e, List.drop_zero]
  simp only [num, if_neg h45]
  rw [show (s[0] :: r).length = s.size by simpa using hl]
theorem numD_long {d : List UInt8} {b : Bool} (h : 18 < d.length) : numD d b = none := by unfold numD; rw [if_pos (Or.inr (Or.inl h))]
theorem numD_zero {d : List UInt8} {b : Bool} (h : d[0]? = some 48) (hb : b = true) : numD d b = none := by
  unfold numD; rw [if_pos (Or.inr (Or.inr ⟨by rw [List.head?_eq_getElem?]; exact h, hb⟩))]
theorem numD_empty {b : Bool} : numD [] b = none := by unfold numD; rw [if_pos (Or.inl rfl)]
theorem numD_bad {d : List UInt8} {b : Bool} {k : Nat} {c : UInt8} (h : d[k]? = some c) (hc : isDig c = false) : numD d b = none := by
  unfold numD
  split
  · rfl
  · rw [if_neg]
    intro ha
    have := List.all_eq_true.1 ha c (List.mem_of_getElem? h)
    rw [hc] at this; cases this
def ZeroOk (d : List UInt8) (b : Bool) : Prop := ¬ (d[0]? = some 48 ∧ b = true)
theorem numD_all {d : List UInt8} {b : Bool} (h1 : 1 ≤ d.length) (h2 : d.length ≤ 18) (h3 : ZeroOk d b) (ha : d.all isDig = true) : numD d b = some (dval 0 d) := by
  unfold numD
  rw [if_neg, if_pos ha]
  rintro (e | e | e)
  · subst e; simp at h1
  · omega
  · exact h3 (by rw [← List.head?_eq_getElem?]; exact e)
theorem dval_step (d : List UInt8) (k : Nat) (c : UInt8) (h : d[k]? = some c) : dval 0 (d.take (k + 1)) = dval 0 (d.take k) * 10 + (c.toNat - 48) := by
  rw [take_one d k c h, dval_app]; rfl
theorem all_step (d : List UInt8) (k : Nat) (c : UInt8) (h : d[k]? = some c) (ha : (d.take k).all isDig = true) (hc : isDig c = true) : (d.take (k + 1)).all isDig = true := by
  rw [take_one d k c h, List.all_append, ha]; simp [hc]
theorem take_small (d : List UInt8) (k : Nat) (h : d.length ≤ 18) (ha : (d.take k).all isDig = true) : dval 0 (d.take k) < 1000000000000000000 :=
  dval_small (by rw [List.length_take]; omega) ha
set_option maxHeartbeats 1600000 in
theorem specNumber_any (s : ByteArray) (w : World) (hsz : s.size ≤ 1048576) :
    Calls Tryz.prog 119 #[.string s] w fun e w' => e = .returned (numRet (num s.data.toList)) ∧ w = w' := by
  by_cases h0 : 0 < s.size
  · have hb0 := (s[0]).toNat_lt
    by_cases h45 : s[0] = 45
    · have HN := Lib.hid (num_minus h0 h45)
      have h45n : (((s[0]).toNat : Int) == 45) = true := by rw [h45]; rfl
      by_cases h1 : s.size = 1
      · have hz1 : ((s.size : Int) == 1) = true := ib_eq (by omega)
        have H := Lib.hid (HN.out.trans (congrArg _ (show numD (s.data.toList.drop 1) true = none by rw [List.drop_eq_nil_of_le (by rw [byte_len]; omega)]; exact numD_empty)))
        go_enter Tryz.func119, Tryz.ntmps119
        go_wp2
        go_ret2
        exact ⟨by rw [H.out]; rfl, rfl⟩
      have hz1 : ((s.size : Int) == 1) = false := ib_ne (by omega)
      by_cases h18 : 19 < s.size
      · have h18' : (18 : Int) < (s.size : Int) - 1 := by omega
        have H := Lib.hid (HN.out.trans (congrArg _ (numD_long (by rw [List.length_drop, byte_len]; omega))))
        go_enter Tryz.func119, Tryz.ntmps119
        go_wp2
        go_ret2
        exact ⟨by rw [H.out]; rfl, rfl⟩
      have h18' : ¬ (18 : Int) < (s.size : Int) - 1 := by omega
      have h1s : 1 < s.size := by omega
      have h1s' : (1 : Int) < (s.size : Int) := by omega
      have HB1 := Lib.hid (show (s.data.toList.drop 1)[0]? = some s[1] by rw [List.getElem?_drop]; exact byte_at s 1 h1s)
      have hb1 := (s[1]).toNat_lt
      by_cases h48 : (s[1]).toNat = 48
      · have h48' : (((s[1]).toNat : Int) == 48) = true := by rw [h48]; rfl
        have H := Lib.hid (HN.out.trans (congrArg _ (numD_zero (HB1.out.trans (congrArg some (UInt8.toNat_inj.1 h48))) rfl)))
        go_enter Tryz.func119, Tryz.ntmps119
        go_wp2
        go_ret2
        exact ⟨by rw [H.out]; rfl, rfl⟩
      have h48' : (((s[1]).toNat : Int) == 48) = false := ib_ne (by omega)
      have HZ := Lib.hid (show ZeroOk (s.data.toList.drop 1) true by unfold ZeroOk; rw [HB1.out]; rintro ⟨e, _⟩; injection e with e; exact h48 (by rw [e]; rfl))
      go_enter Tryz.func119, Tryz.ntmps119
      go_wp2
      generalize hv : dval 0 [] = v0
      have hv0 : v0 = 0 := hv.symm
      clear hv
      subst hv0
      go_loop [5, 6] (fun n i => ∃ (k v : Nat), 1 ≤ k ∧ k ≤ s.size ∧ n = .int .i64 v ∧ i = .int .i64 k ∧ v < 1000000000000000000 ∧ Hid (v = dval 0 ((s.data.toList.drop 1).take (k - 1)) ∧ ((s.data.toList.drop 1).take (k - 1)).all isDig = true)) (fun n i => s.size - (intOf i).toNat)
      case atStart => exact ⟨1, 0, Nat.le_refl _, by omega, rfl, rfl, by decide, by simp [dval], by simp⟩
      case round =>
        obtain ⟨k, v, hk1, hk2, rfl, rfl, hvs, HK⟩ := hrel
        by_cases hlt : k < s.size
        · have hb := (s[k]).toNat_lt
          have HD := Lib.hid (show (s.data.toList.drop 1)[k - 1]? = some s[k] by rw [List.getElem?_drop, show 1 + (k - 1) = k by omega]; exact byte_at s k hlt)
          have HI := Lib.hid (dig_eq s[k])
          rcases hs2 : digitI (s[k]).toNat with _ | _
          · have H := Lib.hid (HN.out.trans (congrArg _ (numD_bad HD.out (HI.out.symm.trans hs2))))
            go_wp2_with (go_at_call 138; refine (specDigit_any _ _).mono ?_; rintro e w' ⟨rfl, rfl⟩)
            go_ret2
            exact ⟨by rw [H.out]; rfl, rfl⟩
          · have hdd := digitI_iff.1 hs2
            have HT := Lib.hid (dval_step _ _ _ HD.out)
            have HA := Lib.hid (all_step _ _ _ HD.out HK.out.2 (HI.out.symm.trans hs2))
            have HV := Lib.hid (take_small (s.data.toList.drop 1) (k - 1 + 1) (by rw [List.length_drop, byte_len]; omega) HA.out)
            have hv2 : v * 10 + ((s[k]).toNat - 48) < 1000000000000000000 := by rw [HK.out.1, ← HT.out]; exact HV.out
            go_wp2_with (go_at_call 138; refine (specDigit_any _ _).mono ?_; rintro e w' ⟨rfl, rfl⟩)
            go_round
            case rel => exact ⟨k + 1, v * 10 + ((s[k]).toNat - 48), by omega, by omega, by go_num, by go_num, hv2, by rw [show k + 1 - 1 = k - 1 + 1 by omega, HT.out, HK.out.1], by rw [show k + 1 - 1 = k - 1 + 1 by omega]; exact HA.out⟩
            case measure => simp [intOf]; omega
        · have hke : k = s.size := by omega
          have hful : (s.data.toList.drop 1).take (k - 1) = s.data.toList.drop 1 := List.take_of_length_le (by rw [List.length_drop, byte_len]; omega)
          have HE := Lib.hid (HN.out.trans (congrArg _ (numD_all (by rw [List.length_drop, byte_len]; omega) (by rw [List.length_drop, byte_len]; omega) HZ.out (by rw [← hful]; exact HK.out.2))))
          have HV := Lib.hid (show dval 0 (s.data.toList.drop 1) = v by rw [HK.out.1, hful])
          clear hful
          go_wp2
          go_ret2
          exact ⟨by rw [HE.out, HV.out]; rfl, rfl⟩
    · have HN := Lib.hid (num_plain h0 h45)
      have h45m : (s[0]).toNat ≠ 45 := fun e => h45 (UInt8.toNat_inj.1 e)
      have h45n : (((s[0]).toNat : Int) == 45) = false := ib_ne (by omega)
      have hz0 : ((s.size : Int) == 0) = false := ib_ne (by omega)
      by_cases h18 : 18 < s.size
      · have h18' : (18 : Int) < (s.size : Int) := by omega
        have H := Lib.hid (HN.out.trans (congrArg _ (numD_long (by rw [List.length_drop, byte_len]; omega))))
        go_enter Tryz.func119, Tryz.ntmps119
        go_wp2
        go_ret2
        exact ⟨by rw [H.out]; rfl, rfl⟩
      have h18' : ¬ (18 : Int) < (s.size : Int) := by omega
      have HB1 := Lib.hid (show (s.data.toList.drop 0)[0]? = some s[0] by rw [List.getElem?_drop]; exact byte_at s 0 h0)
      by_cases h48 : (s[0]).toNat = 48
      · have h48' : (((s[0]).toNat : Int) == 48) = true := by rw [h48]; rfl
        by_cases h1 : 1 < s.size
        · have h1' : (1 : Int) < (s.size : Int) := by omega
          have H := Lib.hid (HN.out.trans (congrArg _ (numD_zero (HB1.out.trans (congrArg some (UInt8.toNat_inj.1 h48))) (decide_eq_true h1))))
          go_enter Tryz.func119, Tryz.ntmps119
          go_wp2
          go_ret2
          exact ⟨by rw [H.out]; rfl, rfl⟩
        · have h1' : ¬ (1 : Int) < (s.size : Int) := by omega
          have HZ := Lib.hid (show ZeroOk (s.data.toList.drop 0) (decide (1 < s.size)) from fun h => h1 (of_decide_eq_true h.2))
          go_enter Tryz.func119, Tryz.ntmps119
          go_wp2
          generalize hv : dval 0 [] = v0
          have hv0 : v0 = 0 := hv.symm
          clear hv
          subst hv0
          go_loop [5, 6] (fun n i => ∃ (k v : Nat), 0 ≤ k ∧ k ≤ s.size ∧ n = .int .i64 v ∧ i = .int .i64 k ∧ v < 1000000000000000000 ∧ Hid (v = dval 0 ((s.data.toList.drop 0).take (k - 0)) ∧ ((s.data.toList.drop 0).take (k - 0)).all isDig = true)) (fun n i => s.size - (intOf i).toNat)
          case atStart => exact ⟨0, 0, Nat.le_refl _, by omega, rfl, rfl, by decide, by simp [dval], by simp⟩
          case round =>
            obtain ⟨k, v, hk1, hk2, rfl, rfl, hvs, HK⟩ := hrel
            by_cases hlt : k < s.size
            · have hb := (s[k]).toNat_lt
              have HD := Lib.hid (show (s.data.toList.drop 0)[k - 0]? = some s[k] by rw [List.getElem?_drop, show 0 + (k - 0) = k by omega]; exact byte_at s k hlt)
              have HI := Lib.hid (dig_eq s[k])
              rcases hs2 : digitI (s[k]).toNat with _ | _
              · have H := Lib.hid (HN.out.trans (congrArg _ (numD_bad HD.out (HI.out.symm.trans hs2))))
                go_wp2_with (go_at_call 138; refine (specDigit_any _ _).mono ?_; rintro e w' ⟨rfl, rfl⟩)
                go_ret2
                exact ⟨by rw [H.out]; rfl, rfl⟩
              · have hdd := digitI_iff.1 hs2
                have HT := Lib.hid (dval_step _ _ _ HD.out)
                have HA := Lib.hid (all_step _ _ _ HD.out HK.out.2 (HI.out.symm.trans hs2))
                have HV := Lib.hid (take_small (s.data.toList.drop 0) (k - 0 + 1) (by rw [List.length_drop, byte_len]; omega) HA.out)
                have hv2 : v * 10 + ((s[k]).toNat - 48) < 1000000000000000000 := by rw [HK.out.1, ← HT.out]; exact HV.out
                go_wp2_with (go_at_call 138; refine (specDigit_any _ _).mono ?_; rintro e w' ⟨rfl, rfl⟩)
                go_round
                case rel => exact ⟨k + 1, v * 10 + ((s[k]).toNat - 48), by omega, by omega, by go_num, by go_num, hv2, by rw [show k + 1 - 0 = k - 0 + 1 by omega, HT.out, HK.out.1], by rw [show k + 1 - 0 = k - 0 + 1 by omega]; exact HA.out⟩
                case measure => simp [intOf]; omega
            · have hke : k = s.size := by omega
              have hful : (s.data.toList.drop 0).take (k - 0) = s.data.toList.drop 0 := List.take_of_length_le (by rw [List.length_drop, byte_len]; omega)
              have HE := Lib.hid (HN.out.trans (congrArg _ (numD_all (by rw [List.length_drop, byte_len]; omega) (by rw [List.length_drop, byte_len]; omega) HZ.out (by rw [← hful]; exact HK.out.2))))
              have HV := Lib.hid (show dval 0 (s.data.toList.drop 0) = v by rw [HK.out.1, hful])
              clear hful
              go_wp2
              go_ret2
              exact ⟨by rw [HE.out, HV.out]; rfl, rfl⟩
      · have h48' : (((s[0]).toNat : Int) == 48) = false := ib_ne (by omega)
        have HZ := Lib.hid (show ZeroOk (s.data.toList.drop 0) (decide (1 < s.size)) by unfold ZeroOk; rw [HB1.out]; rintro ⟨e, _⟩; injection e with e; exact h48 (by rw [e]; rfl))
        go_enter Tryz.func119, Tryz.ntmps119
        go_wp2
        generalize hv : dval 0 [] = v0
        have hv0 : v0 = 0 := hv.symm
        clear hv
        subst hv0
        go_loop [5, 6] (fun n i => ∃ (k v : Nat), 0 ≤ k ∧ k ≤ s.size ∧ n = .int .i64 v ∧ i = .int .i64 k ∧ v < 1000000000000000000 ∧ Hid (v = dval 0 ((s.data.toList.drop 0).take (k - 0)) ∧ ((s.data.toList.drop 0).take (k - 0)).all isDig = true)) (fun n i => s.size - (intOf i).toNat)
        case atStart => exact ⟨0, 0, Nat.le_refl _, by omega, rfl, rfl, by decide, by simp [dval], by simp⟩
        case round =>
          obtain ⟨k, v, hk1, hk2, rfl, rfl, hvs, HK⟩ := hrel
          by_cases hlt : k < s.size
          · have hb := (s[k]).toNat_lt
            have HD := Lib.hid (show (s.data.toList.drop 0)[k - 0]? = some s[k] by rw [List.getElem?_drop, show 0 + (k - 0) = k by omega]; exact byte_at s k hlt)
            have HI := Lib.hid (dig_eq s[k])
            rcases hs2 : digitI (s[k]).toNat with _ | _
            · have H := Lib.hid (HN.out.trans (congrArg _ (numD_bad HD.out (HI.out.symm.trans hs2))))
              go_wp2_with (go_at_call 138; refine (specDigit_any _ _).mono ?_; rintro e w' ⟨rfl, rfl⟩)
              go_ret2
              exact ⟨by rw [H.out]; rfl, rfl⟩
            · have hdd := digitI_iff.1 hs2
              have HT := Lib.hid (dval_step _ _ _ HD.out)
              have HA := Lib.hid (all_step _ _ _ HD.out HK.out.2 (HI.out.symm.trans hs2))
              have HV := Lib.hid (take_small (s.data.toList.drop 0) (k - 0 + 1) (by rw [List.length_drop, byte_len]; omega) HA.out)
              have hv2 : v * 10 + ((s[k]).toNat - 48) < 1000000000000000000 := by rw [HK.out.1, ← HT.out]; exact HV.out
              go_wp2_with (go_at_call 138; refine (specDigit_any _ _).mono ?_; rintro e w' ⟨rfl, rfl⟩)
              go_round
              case rel => exact ⟨k + 1, v * 10 + ((s[k]).toNat - 48), by omega, by omega, by go_num, by go_num, hv2, by rw [show k + 1 - 0 = k - 0 + 1 by omega, HT.out, HK.out.1], by rw [show k + 1 - 0 = k - 0 + 1 by omega]; exact HA.out⟩
              case measure => simp [intOf]; omega
          · have hke : k = s.size := by omega
            have hful : (s.data.toList.drop 0).take (k - 0) = s.data.toList.drop 0 := List.take_of_length_le (by rw [List.length_drop, byte_len]; omega)
            have HE := Lib.hid (HN.out.trans (congrArg _ (numD_all (by rw [List.length_drop, byte_len]; omega) (by rw [List.length_drop, byte_len]; omega) HZ.out (by rw [← hful]; exact HK.out.2))))
            have HV := Lib.hid (show dval 0 (s.data.toList.drop 0) = v by rw [HK.out.1, hful])
            clear hful
            go_wp2
            go_ret2
            exact ⟨by rw [HE.out, HV.out]; rfl, rfl⟩
  · have hl : s.data.toList = [] := List.length_eq_zero_iff.1 (by rw [byte_len]; omega)
    have H := Lib.hid (show num s.data.toList = none by rw [hl]; rfl)
    clear hl
    have hz : ((s.size : Int) == 0) = true := ib_eq (by omega)
    have h0' : ¬ (0 : Int) < (s.size : Int) := by omega
    go_enter Tryz.func119, Tryz.ntmps119
    go_wp2
    go_ret2
    exact ⟨by rw [H.out]; rfl, rfl⟩
end Go.Proofs.YthbnfjedjijacaaGreatDoor
