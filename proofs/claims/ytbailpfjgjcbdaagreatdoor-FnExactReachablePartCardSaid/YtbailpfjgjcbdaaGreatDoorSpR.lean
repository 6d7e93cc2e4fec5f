/- A number is read: the model's function and the program's answer as the mathematics does. -/
/- The program reads a number: by the library's law of strconv.ParseInt, the decimal form and a comparison. -/
/- The model divides a text at a byte: its pieces, in a slice of its own. -/
/- The laws' own helpers on lists of 64-bit integers: a copy reads as the list; two lists are compared element by element. -/
/- The program divides a text at commas and reads each piece as a number. -/
import Derived.Test.YtbailpfjgjcbdaaGreatDoorProg
import Derived.WalkKit
import Derived.ProofKit
import Derived.Outline
import Derived.Test.YtbailpfjgjcbdaaGreatDoorLow
import Derived.Test.YtbailpfjgjcbdaaGreatDoorName
import Derived.Test.YtbailpfjgjcbdaaGreatDoorMath
import Derived.Test.YtbailpfjgjcbdaaGreatDoorDecW
import Derived.Shelf.Strings.Prefix
import Derived.Shelf.Strconv.ParseIntPublic10
import Derived.Laws.IdiomStrings
import Derived.OwnWalk
import Derived.Maps.AppendAt
import Derived.BigQuiet
import Derived.Shelf.Strings.Split
namespace Go.Proofs.YtbailpfjgjcbdaaGreatDoor
open Go.RowKit Go.Lib
/-- What is returned for a number that is read, and for none. -/
def numRet : Option Int → Value
  | some n => .tuple #[.int .i64 n, .bool true]
  | none => .tuple #[.int .i64 0, .bool false]
theorem dig_eq (c : UInt8) : digitI (c.toNat : Int) = isDig c := by
  unfold digitI isDig
  rw [decide_eq_decide]
  omega
theorem l_head {s : ByteArray} (h : 0 < s.size) : ∃ r, s.data.toList = s[0] :: r ∧ r.length + 1 = s.size := by
  have h0 := byte_at s 0 h
  have hl := byte_len s
  cases hd : s.data.toList with
  | nil => rw [hd] at h0; cases h0
  | cons c r =>
    rw [hd] at h0 hl
    injection h0 with h0
    exact ⟨r, by rw [h0], by simpa using hl⟩
theorem num_minus {s : ByteArray} (h : 0 < s.size) (h45 : s[0] = 45) : num s.data.toList = Option.map (fun u : Nat => -(u : Int)) (numD (s.data.toList.drop 1) true) := by
  obtain ⟨r, e, _⟩ := l_head h
  rw [e, h45]
  simp [num]
theorem num_plain {s : ByteArray} (h : 0 < s.size) (h45 : s[0] ≠ 45) : num s.data.toList = Option.map (fun u : Nat => (u : Int)) (numD (s.data.toList.drop 0) (decide (1 < s.size))) := by
  obtain ⟨r, e, hl⟩ := l_head h
  rw [e, List.drop_zero]
  simp only [num, if_neg h45]
  rw [show (s[0] :: r).length = s.size by simpa using hl]
theorem numD_long {d : List UInt8} {b : Bool} (h : 18 < d.length) : numD d b = none := by unfold numD; rw [if_pos (Or.inr (Or.inl h))]
theorem numD_zero {d : List UInt8} {b : Bool} (h : d[0]? = some 48) (hb : b = true) : numD d b = none := by
  unfold numD; rw [if_pos (Or.inr (Or.inr ⟨by rw [List.head?_eq_getElem?]; exact h, hb⟩))]
theorem numD_empty {b : Bool} : numD [] b = none := by unfold numD; rw [if_pos (Or.inl rfl)]
theorem numD_bad {d : List UInt8} {b : Bool} {k : Nat} {c : UInt8} (h : d[k]? = some c) (hc : isDig c = false) : numD d b = none := by
  unfold numD
  split
  · rfl
  · rw [if_neg]
    intro ha
    have := List.all_eq_true.1 ha c (List.mem_of_getElem? h)
    rw [hc] at this; cases this
def ZeroOk (d : List UInt8) (b : Bool) : Prop := ¬ (d[0]? = some 48 ∧ b = true)
theorem numD_all {d : List UInt8} {b : Bool} (h1 : 1 ≤ d.length) (h2 : d.length ≤ 18) (h3 : ZeroOk d b) (ha : d.all isDig = true) : numD d b = some (dval 0 d) := by
  unfold numD
  rw [if_neg, if_pos ha]
  rintro (e | e | e)
  · subst e; simp at h1
  · omega
  · exact h3 (by rw [← List.head?_eq_getElem?]; exact e)
theorem dval_step (d : List UInt8) (k : Nat) (c : UInt8) (h : d[k]? = some c) : dval 0 (d.take (k + 1)) = dval 0 (d.take k) * 10 + (c.toNat - 48) := by
  rw [take_one d k c h, dval_app]; rfl
theorem all_step (d : List UInt8) (k : Nat) (c : UInt8) (h : d[k]? = some c) (ha : (d.take k).all isDig = true) (hc : isDig c = true) : (d.take (k + 1)).all isDig = true := by
  rw [take_one d k c h, List.all_append, ha]; simp [hc]
theorem take_small (d : List UInt8) (k : Nat) (h : d.length ≤ 18) (ha : (d.take k).all isDig = true) : dval 0 (d.take k) < 1000000000000000000 :=
  dval_small (by rw [List.length_take]; omega) ha
set_option maxHeartbeats 1600000 in
theorem specNumber_any (s : ByteArray) (w : World) (hsz : s.size ≤ 1048576) :
    Calls Tryz.prog 109 #[.string s] w fun e w' => e = .returned (numRet (num s.data.toList)) ∧ w = w' := by
  by_cases h0 : 0 < s.size
  · have hb0 := (s[0]).toNat_lt
    by_cases h45 : s[0] = 45
    · have HN := Lib.hid (num_minus h0 h45)
      have h45n : (((s[0]).toNat : Int) == 45) = true := by rw [h45]; rfl
      by_cases h1 : s.size = 1
      · have hz1 : ((s.size : Int) == 1) = true := ib_eq (by omega)
        have H := Lib.hid (HN.out.trans (congrArg _ (show numD (s.data.toList.drop 1) true = none by rw [List.drop_eq_nil_of_le (by rw [byte_len]; omega)]; exact numD_empty)))
        go_enter Tryz.func109, Tryz.ntmps109
        go_wp2
        go_ret2
        exact ⟨by rw [H.out]; rfl, rfl⟩
      have hz1 : ((s.size : Int) == 1) = false := ib_ne (by omega)
      by_cases h18 : 19 < s.size
      · have h18' : (18 : Int) < (s.size : Int) - 1 := by omega
        have H := Lib.hid (HN.out.trans (congrArg _ (numD_long (by rw [List.length_drop, byte_len]; omega))))
        go_enter Tryz.func109, Tryz.ntmps109
        go_wp2
        go_ret2
        exact ⟨by rw [H.out]; rfl, rfl⟩
      have h18' : ¬ (18 : Int) < (s.size : Int) - 1 := by omega
      have h1s : 1 < s.size := by omega
      have h1s' : (1 : Int) < (s.size : Int) := by omega
      have HB1 := Lib.hid (show (s.data.toList.drop 1)[0]? = some s[1] by rw [List.getElem?_drop]; exact byte_at s 1 h1s)
      have hb1 := (s[1]).toNat_lt
      by_cases h48 : (s[1]).toNat = 48
      · have h48' : (((s[1]).toNat : Int) == 48) = true := by rw [h48]; rfl
        have H := Lib.hid (HN.out.trans (congrArg _ (numD_zero (HB1.out.trans (congrArg some (UInt8.toNat_inj.1 h48))) rfl)))
        go_enter Tryz.func109, Tryz.ntmps109
        go_wp2
        go_ret2
        exact ⟨by rw [H.out]; rfl, rfl⟩
      have h48' : (((s[1]).toNat : Int) == 48) = false := ib_ne (by omega)
      have HZ := Lib.hid (show ZeroOk (s.data.toList.drop 1) true by unfold ZeroOk; rw [HB1.out]; rintro ⟨e, _⟩; injection e with e; exact h48 (by rw [e]; rfl))
      go_enter Tryz.func109, Tryz.ntmps109
      go_wp2
      generalize hv : dval 0 [] = v0
      have hv0 : v0 = 0 := hv.symm
      clear hv
      subst hv0
      go_loop [5, 6] (fun n i => ∃ (k v : Nat), 1 ≤ k ∧ k ≤ s.size ∧ n = .int .i64 v ∧ i = .int .i64 k ∧ v < 1000000000000000000 ∧ Hid (v = dval 0 ((s.data.toList.drop 1).take (k - 1)) ∧ ((s.data.toList.drop 1).take (k - 1)).all isDig = true)) (fun n i => s.size - (intOf i).toNat)
      case atStart => exact ⟨1, 0, Nat.le_refl _, by omega, rfl, rfl, by decide, by simp [dval], by simp⟩
      case round =>
        obtain ⟨k, v, hk1, hk2, rfl, rfl, hvs, HK⟩ := hrel
        by_cases hlt : k < s.size
        · have hb := (s[k]).toNat_lt
          have HD := Lib.hid (show (s.data.toList.drop 1)[k - 1]? = some s[k] by rw [List.getElem?_drop, show 1 + (k - 1) = k by omega]; exact byte_at s k hlt)
          have HI := Lib.hid (dig_eq s[k])
          rcases hs2 : digitI (s[k]).toNat with _ | _
          · have H := Lib.hid (HN.out.trans (congrArg _ (numD_bad HD.out (HI.out.symm.trans hs2))))
            go_wp2_with (go_at_call 119; refine (specDigit_any _ _).mono ?_; rintro e w' ⟨rfl, rfl⟩)
            go_ret2
            exact ⟨by rw [H.out]; rfl, rfl⟩
          · have hdd := digitI_iff.1 hs2
            have HT := Lib.hid (dval_step _ _ _ HD.out)
            have HA := Lib.hid (all_step _ _ _ HD.out HK.out.2 (HI.out.symm.trans hs2))
            have HV := Lib.hid (take_small (s.data.toList.drop 1) (k - 1 + 1) (by rw [List.length_drop, byte_len]; omega) HA.out)
            have hv2 : v * 10 + ((s[k]).toNat - 48) < 1000000000000000000 := by rw [HK.out.1, ← HT.out]; exact HV.out
            go_wp2_with (go_at_call 119; refine (specDigit_any _ _).mono ?_; rintro e w' ⟨rfl, rfl⟩)
            go_round
            case rel => exact ⟨k + 1, v * 10 + ((s[k]).toNat - 48), by omega, by omega, by go_num, by go_num, hv2, by rw [show k + 1 - 1 = k - 1 + 1 by omega, HT.out, HK.out.1], by rw [show k + 1 - 1 = k - 1 + 1 by omega]; exact HA.out⟩
            case measure => simp [intOf]; omega
        · have hke : k = s.size := by omega
          have hful : (s.data.toList.drop 1).take (k - 1) = s.data.toList.drop 1 := List.take_of_length_le (by rw [List.length_drop, byte_len]; omega)
          have HE := Lib.hid (HN.out.trans (congrArg _ (numD_all (by rw [List.length_drop, byte_len]; omega) (by rw [List.length_drop, byte_len]; omega) HZ.out (by rw [← hful]; exact HK.out.2))))
          have HV := Lib.hid (show dval 0 (s.data.toList.drop 1) = v by rw [HK.out.1, hful])
          clear hful
          go_wp2
          go_ret2
          exact ⟨by rw [HE.out, HV.out]; rfl, rfl⟩
    · have HN := Lib.hid (num_plain h0 h45)
      have h45m : (s[0]).toNat ≠ 45 := fun e => h45 (UInt8.toNat_inj.1 e)
      have h45n : (((s[0]).toNat : Int) == 45) = false := ib_ne (by omega)
      have hz0 : ((s.size : Int) == 0) = false := ib_ne (by omega)
      by_cases h18 : 18 < s.size
      · have h18' : (18 : Int) < (s.size : Int) := by omega
        have H := Lib.hid (HN.out.trans (congrArg _ (numD_long (by rw [List.length_drop, byte_len]; omega))))
        go_enter Tryz.func109, Tryz.ntmps109
        go_wp2
        go_ret2
        exact ⟨by rw [H.out]; rfl, rfl⟩
      have h18' : ¬ (18 : Int) < (s.size : Int) := by omega
      have HB1 := Lib.hid (show (s.data.toList.drop 0)[0]? = some s[0] by rw [List.getElem?_drop]; exact byte_at s 0 h0)
      by_cases h48 : (s[0]).toNat = 48
      · have h48' : (((s[0]).toNat : Int) == 48) = true := by rw [h48]; rfl
        by_cases h1 : 1 < s.size
        · have h1' : (1 : Int) < (s.size : Int) := by omega
          have H := Lib.hid (HN.out.trans (congrArg _ (numD_zero (HB1.out.trans (congrArg some (UInt8.toNat_inj.1 h48))) (decide_eq_true h1))))
          go_enter Tryz.func109, Tryz.ntmps109
          go_wp2
          go_ret2
          exact ⟨by rw [H.out]; rfl, rfl⟩
        · have h1' : ¬ (1 : Int) < (s.size : Int) := by omega
          have HZ := Lib.hid (show ZeroOk (s.data.toList.drop 0) (decide (1 < s.size)) from fun h => h1 (of_decide_eq_true h.2))
          go_enter Tryz.func109, Tryz.ntmps109
          go_wp2
          generalize hv : dval 0 [] = v0
          have hv0 : v0 = 0 := hv.symm
          clear hv
          subst hv0
          go_loop [5, 6] (fun n i => ∃ (k v : Nat), 0 ≤ k ∧ k ≤ s.size ∧ n = .int .i64 v ∧ i = .int .i64 k ∧ v < 1000000000000000000 ∧ Hid (v = dval 0 ((s.data.toList.drop 0).take (k - 0)) ∧ ((s.data.toList.drop 0).take (k - 0)).all isDig = true)) (fun n i => s.size - (intOf i).toNat)
          case atStart => exact ⟨0, 0, Nat.le_refl _, by omega, rfl, rfl, by decide, by simp [dval], by simp⟩
          case round =>
            obtain ⟨k, v, hk1, hk2, rfl, rfl, hvs, HK⟩ := hrel
            by_cases hlt : k < s.size
            · have hb := (s[k]).toNat_lt
              have HD := Lib.hid (show (s.data.toList.drop 0)[k - 0]? = some s[k] by rw [List.getElem?_drop, show 0 + (k - 0) = k by omega]; exact byte_at s k hlt)
              have HI := Lib.hid (dig_eq s[k])
              rcases hs2 : digitI (s[k]).toNat with _ | _
              · have H := Lib.hid (HN.out.trans (congrArg _ (numD_bad HD.out (HI.out.symm.trans hs2))))
                go_wp2_with (go_at_call 119; refine (specDigit_any _ _).mono ?_; rintro e w' ⟨rfl, rfl⟩)
                go_ret2
                exact ⟨by rw [H.out]; rfl, rfl⟩
              · have hdd := digitI_iff.1 hs2
                have HT := Lib.hid (dval_step _ _ _ HD.out)
                have HA := Lib.hid (all_step _ _ _ HD.out HK.out.2 (HI.out.symm.trans hs2))
                have HV := Lib.hid (take_small (s.data.toList.drop 0) (k - 0 + 1) (by rw [List.length_drop, byte_len]; omega) HA.out)
                have hv2 : v * 10 + ((s[k]).toNat - 48) < 1000000000000000000 := by rw [HK.out.1, ← HT.out]; exact HV.out
                go_wp2_with (go_at_call 119; refine (specDigit_any _ _).mono ?_; rintro e w' ⟨rfl, rfl⟩)
                go_round
                case rel => exact ⟨k + 1, v * 10 + ((s[k]).toNat - 48), by omega, by omega, by go_num, by go_num, hv2, by rw [show k + 1 - 0 = k - 0 + 1 by omega, HT.out, HK.out.1], by rw [show k + 1 - 0 = k - 0 + 1 by omega]; exact HA.out⟩
                case measure => simp [intOf]; omega
            · have hke : k = s.size := by omega
              have hful : (s.data.toList.drop 0).take (k - 0) = s.data.toList.drop 0 := List.take_of_length_le (by rw [List.length_drop, byte_len]; omega)
              have HE := Lib.hid (HN.out.trans (congrArg _ (numD_all (by rw [List.length_drop, byte_len]; omega) (by rw [List.length_drop, byte_len]; omega) HZ.out (by rw [← hful]; exact HK.out.2))))
              have HV := Lib.hid (show dval 0 (s.data.toList.drop 0) = v by rw [HK.out.1, hful])
              clear hful
              go_wp2
              go_ret2
              exact ⟨by rw [HE.out, HV.out]; rfl, rfl⟩
      · have h48' : (((s[0]).toNat : Int) == 48) = false := ib_ne (by omega)
        have HZ := Lib.hid (show ZeroOk (s.data.toList.drop 0) (decide (1 < s.size)) by unfold ZeroOk; rw [HB1.out]; rintro ⟨e, _⟩; injection e with e; exact h48 (by rw [e]; rfl))
        go_enter Tryz.func109, Tryz.ntmps109
        go_wp2
        generalize hv : dval 0 [] = v0
        have hv0 : v0 = 0 := hv.symm
        clear hv
        subst hv0
        go_loop [5, 6] (fun n i => ∃ (k v : Nat), 0 ≤ k ∧ k ≤ s.size ∧ n = .int .i64 v ∧ i = .int .i64 k ∧ v < 1000000000000000000 ∧ Hid (v = dval 0 ((s.data.toList.drop 0).take (k - 0)) ∧ ((s.data.toList.drop 0).take (k - 0)).all isDig = true)) (fun n i => s.size - (intOf i).toNat)
        case atStart => exact ⟨0, 0, Nat.le_refl _, by omega, rfl, rfl, by decide, by simp [dval], by simp⟩
        case round =>
          obtain ⟨k, v, hk1, hk2, rfl, rfl, hvs, HK⟩ := hrel
          by_cases hlt : k < s.size
          · have hb := (s[k]).toNat_lt
            have HD := Lib.hid (show (s.data.toList.drop 0)[k - 0]? = some s[k] by rw [List.getElem?_drop, show 0 + (k - 0) = k by omega]; exact byte_at s k hlt)
            have HI := Lib.hid (dig_eq s[k])
            rcases hs2 : digitI (s[k]).toNat with _ | _
            · have H := Lib.hid (HN.out.trans (congrArg _ (numD_bad HD.out (HI.out.symm.trans hs2))))
              go_wp2_with (go_at_call 119; refine (specDigit_any _ _).mono ?_; rintro e w' ⟨rfl, rfl⟩)
              go_ret2
              exact ⟨by rw [H.out]; rfl, rfl⟩
            · have hdd := digitI_iff.1 hs2
              have HT := Lib.hid (dval_step _ _ _ HD.out)
              have HA := Lib.hid (all_step _ _ _ HD.out HK.out.2 (HI.out.symm.trans hs2))
              have HV := Lib.hid (take_small (s.data.toList.drop 0) (k - 0 + 1) (by rw [List.length_drop, byte_len]; omega) HA.out)
              have hv2 : v * 10 + ((s[k]).toNat - 48) < 1000000000000000000 := by rw [HK.out.1, ← HT.out]; exact HV.out
              go_wp2_with (go_at_call 119; refine (specDigit_any _ _).mono ?_; rintro e w' ⟨rfl, rfl⟩)
              go_round
              case rel => exact ⟨k + 1, v * 10 + ((s[k]).toNat - 48), by omega, by omega, by go_num, by go_num, hv2, by rw [show k + 1 - 0 = k - 0 + 1 by omega, HT.out, HK.out.1], by rw [show k + 1 - 0 = k - 0 + 1 by omega]; exact HA.out⟩
              case measure => simp [intOf]; omega
          · have hke : k = s.size := by omega
            have hful : (s.data.toList.drop 0).take (k - 0) = s.data.toList.drop 0 := List.take_of_length_le (by rw [List.length_drop, byte_len]; omega)
            have HE := Lib.hid (HN.out.trans (congrArg _ (numD_all (by rw [List.length_drop, byte_len]; omega) (by rw [List.length_drop, byte_len]; omega) HZ.out (by rw [← hful]; exact HK.out.2))))
            have HV := Lib.hid (show dval 0 (s.data.toList.drop 0) = v by rw [HK.out.1, hful])
            clear hful
            go_wp2
            go_ret2
            exact ⟨by rw [HE.out, HV.out]; rfl, rfl⟩
  · have hl : s.data.toList = [] := List.length_eq_zero_iff.1 (by rw [byte_len]; omega)
    have H := Lib.hid (show num s.data.toList = none by rw [hl]; rfl)
    clear hl
    have hz : ((s.size : Int) == 0) = true := ib_eq (by omega)
    have h0' : ¬ (0 : Int) < (s.size : Int) := by omega
    go_enter Tryz.func109, Tryz.ntmps109
    go_wp2
    go_ret2
    exact ⟨by rw [H.out]; rfl, rfl⟩
end Go.Proofs.YtbailpfjgjcbdaaGreatDoor

namespace Go.Proofs
open Go.Shelf
shelf_lay Lays.n101 Nm 101 at Tryz as Tryz.laysTrimPrefix
shelf_lay LaysC.n174 Nm 174 at Tryz as Tryz.laysParseInt
end Go.Proofs
namespace Go.Proofs.YtbailpfjgjcbdaaGreatDoor
open Go.RowKit Go.Lib
/-- The variables of the library that hold its errors, and its table of powers of ten. -/
structure NumTabs (w : World) : Prop where
  pow : Pow10 w
  syn : ∃ ev, w.cell? ⟨1, 0, none⟩ = some ev ∧ (ev = .nilIface ∨ ∃ te pe, ev = .iface te pe)
  rng : ∃ ev, w.cell? ⟨2, 0, none⟩ = some ev ∧ (ev = .nilIface ∨ ∃ te pe, ev = .iface te pe)
theorem cell_below {w w' : World} {g : Nat} {v : Value} (h : w.cell? ⟨g, 0, none⟩ = some v) (hb : Below w.heap.size w w') : w'.cell? ⟨g, 0, none⟩ = some v :=
  (hb.cell (p := ⟨g, 0, none⟩) (World.block_lt_of_cell? w _ h)).trans h
theorem NumTabs.below {w w' : World} (h : NumTabs w) (hb : Below w.heap.size w w') : NumTabs w' :=
  ⟨h.pow.below hb, by obtain ⟨ev, h1, h2⟩ := h.syn; exact ⟨ev, cell_below h1 hb, h2⟩, by obtain ⟨ev, h1, h2⟩ := h.rng; exact ⟨ev, cell_below h1 hb, h2⟩⟩
theorem trimPrefix_call (s p : ByteArray) (w : World) : Calls Tryz.prog 141 #[.string s, .string p] w fun e w' => e = .returned (.string ⟨(trimPrefix s.data.toList p.data.toList).toArray⟩) ∧ w' = w :=
  Any.strings_TrimPrefix Tryz.laysTrimPrefix s p w
theorem bw_below {w w' : World} {T : TypeId} (h : w' = w ∨ ∃ t, w' = bytesWorld w T t) : Below w.heap.size w w' := by
  rcases h with rfl | ⟨t, rfl⟩
  · exact Below.refl _ _
  · exact bytesWorld_below _ _ _
/-- strconv.ParseInt at base 10 and 64 bits: the number and no error, or an error. -/
theorem parse_call (s : ByteArray) (w : World) (hsz : s.size ≤ 1048576) (ht : NumTabs w) :
    Calls Tryz.prog 142 #[.string s, .int .i64 10, .int .i64 64] w fun e w' =>
      ((∃ v, parseIntB 64 s.data.toList = .ok v ∧ e = .returned (.tuple #[.int .i64 v, .nilIface])) ∨
       (∃ v T p, (∀ u, parseIntB 64 s.data.toList ≠ .ok u) ∧ e = .returned (.tuple #[.int .i64 v, .iface T (.pointer (some ⟨p, 0, none⟩))]))) ∧ Below w.heap.size w w' := by
  cases hp : parseIntB 64 s.data.toList with
  | ok v => exact (Any.strconv_ParseInt_10_at64_ok Tryz.laysParseInt s (by omega) v hp w).mono fun e w' ⟨he, hw⟩ => ⟨.inl ⟨v, rfl, he⟩, bw_below hw⟩
  | «syntax» =>
    obtain ⟨ev, h1, h2⟩ := ht.syn
    exact (Any.strconv_ParseInt_10_at64_syntax Tryz.laysParseInt s (by omega) hp ev w h1 h2).mono fun e w' ⟨N, he, _, _, hb⟩ => ⟨.inr ⟨_, _, N, (fun u h => by cases h), he⟩, hb⟩
  | range =>
    obtain ⟨ev, h1, h2⟩ := ht.rng
    exact (Any.strconv_ParseInt_10_at64_range Tryz.laysParseInt s (by omega) hp ev w h1 h2).mono fun e w' ⟨N, he, _, _, hb⟩ => ⟨.inr ⟨_, _, N, (fun u h => by cases h), he⟩, hb⟩
theorem list_size (l : List UInt8) : (⟨l.toArray⟩ : ByteArray).size = l.length := by simp [ByteArray.size]
theorem bytes_ext {s : ByteArray} {l : List UInt8} (h : l = s.data.toList) : (⟨l.toArray⟩ : ByteArray) = s := by
  subst h; cases s; rfl
set_option maxHeartbeats 1600000 in
theorem implRead_any (s : ByteArray) (w : World) (hsz : s.size ≤ 1048576) (ht : NumTabs w) :
    Calls Tryz.prog 123 #[.string s] w fun e w' => e = .returned (numRet (num s.data.toList)) ∧ Below w.heap.size w w' := by
  have HT := Lib.hid ht
  have HN := Lib.hid (num2_eq s.data.toList)
  have HS := Lib.hid hsz
  clear ht hsz
  by_cases h18 : 18 < (trimPrefix s.data.toList [45]).length
  · have H := Lib.hid (show num s.data.toList = none by rw [← HN.out]; unfold num2; rw [if_pos h18])
    have h18' : 18 < ((⟨(trimPrefix s.data.toList [45]).toArray⟩ : ByteArray).size : Int) := by rw [list_size]; omega
    go_enter Tryz.func123, Tryz.ntmps123
    go_wp2_with fail
    refine (trimPrefix_call s ⟨#[45]⟩ _).mono ?_; rintro e w1 ⟨rfl, rfl⟩
    generalize (⟨(trimPrefix s.data.toList [45]).toArray⟩ : ByteArray) = tp at *
    go_wp2
    go_ret2
    exact ⟨by rw [H.out]; rfl, Below.refl _ _⟩
  have h18' : ¬ 18 < ((⟨(trimPrefix s.data.toList [45]).toArray⟩ : ByteArray).size : Int) := by rw [list_size]; omega
  go_enter Tryz.func123, Tryz.ntmps123
  go_wp2_with fail
  refine (trimPrefix_call s ⟨#[45]⟩ _).mono ?_; rintro e w1 ⟨rfl, rfl⟩
  have HP := Lib.hid h18
  clear h18
  generalize (⟨(trimPrefix s.data.toList [45]).toArray⟩ : ByteArray) = tp at *
  go_wp2_with fail
  refine (parse_call s _ HS.out HT.out).mono ?_; rintro e w2 ⟨(⟨v, hv, rfl⟩ | ⟨v, T, p, hv, rfl⟩), hb⟩
  · have hbd := parseIntB_bounds hv
    have e63 : (2 : Nat) ^ (64 - 1) = 9223372036854775808 := by decide
    rw [e63] at hbd
    have HB := Lib.hid hb
    have hs2 := hb.size
    by_cases he : itoa v = s.data.toList
    · have H := Lib.hid (show num s.data.toList = some v by rw [← HN.out]; unfold num2; rw [if_neg HP.out, hv]; simp only; rw [if_pos he])
      have hq : ((⟨(itoa v).toArray⟩ : ByteArray).toList == s.toList) = true := by rw [bytes_ext he]; simp
      clear hb hv e63
      go_wp2_with fail
      refine (implDecimal_any v _ (by omega) (by omega) (HT.out.below HB.out).pow).mono ?_; rintro e w3 ⟨rfl, hb3⟩
      have HB3 := Lib.hid (HB.out.trans (hb3.mono hs2))
      clear hb3
      generalize (⟨(itoa v).toArray⟩ : ByteArray) = it at *
      clear he
      go_wp2
      go_ret2
      exact ⟨by rw [H.out]; rfl, HB3.out⟩
    · have H := Lib.hid (show num s.data.toList = none by rw [← HN.out]; unfold num2; rw [if_neg HP.out, hv]; simp only; rw [if_neg he])
      have hq : ((⟨(itoa v).toArray⟩ : ByteArray).toList == s.toList) = false := by
        rw [ByteArray.toList_eq, ByteArray.toList_eq]
        simpa using he
      clear hb hv e63
      go_wp2_with fail
      refine (implDecimal_any v _ (by omega) (by omega) (HT.out.below HB.out).pow).mono ?_; rintro e w3 ⟨rfl, hb3⟩
      have HB3 := Lib.hid (HB.out.trans (hb3.mono hs2))
      clear hb3
      generalize (⟨(itoa v).toArray⟩ : ByteArray) = it at *
      clear he
      go_wp2
      go_ret2
      exact ⟨by rw [H.out]; rfl, HB3.out⟩
  · have H := Lib.hid (show num s.data.toList = none by
      rw [← HN.out]; unfold num2; rw [if_neg HP.out]
      cases hp : parseIntB 64 s.data.toList with
      | ok u => exact absurd hp (hv u)
      | «syntax» => rfl
      | range => rfl)
    have HB := Lib.hid hb
    clear hb hv
    go_wp2
    go_ret2
    exact ⟨by rw [H.out]; rfl, HB.out⟩
theorem numRet_cases (r : Option Int) : (r = none ∧ numRet r = .tuple #[.int .i64 0, .bool false]) ∨ ∃ v, r = some v ∧ numRet r = .tuple #[.int .i64 v, .bool true] := by
  cases r with
  | none => exact .inl ⟨rfl, rfl⟩
  | some v => exact .inr ⟨v, rfl, rfl⟩
end Go.Proofs.YtbailpfjgjcbdaaGreatDoor

namespace Go.Proofs.YtbailpfjgjcbdaaGreatDoor
open Go.RowKit Go.Lib
/-- Texts as the memory holds them. -/
def strs (ps : List (List UInt8)) : List Value := ps.map fun l => Value.string ⟨l.toArray⟩
theorem strs_len (ps : List (List UInt8)) : (strs ps).length = ps.length := by simp [strs]
theorem strs_app (a b : List (List UInt8)) : strs (a ++ b) = strs a ++ strs b := by simp [strs]
theorem info_str : (Tryz.prog.info? 9).map (fun i => (i.zero, i.size, i.bytes)) = some (some (.string ByteArray.empty), 1, 16) := by kernel_rfl
theorem own_shape_s {w : World} {base : Nat} {e : TypeId} {size : Nat} {v : Value} {n : Nat} {xs : List Value} (h : w.ownsRow base e size v n xs) : ∃ A c, v = .slice A n c := by
  rcases h.2 with ⟨rfl, rfl⟩ | ⟨g, cap, cur, rfl, _⟩
  · exact ⟨_, _, rfl⟩
  · exact ⟨_, _, rfl⟩
theorem own_more_s {w : World} {lo : Nat} {v : Value} {ps qs : List (List UInt8)} {p : List UInt8} {x : Value} (h : w.ownsRow lo 9 1 v (ps.length + 1) (strs ps ++ [x])) (he : qs = ps ++ [p]) (hx : x = Value.string ⟨p.toArray⟩) :
    ∃ A c, v = .slice A qs.length c ∧ w.ownsRow lo 9 1 v qs.length (strs qs) := by
  subst hx he
  obtain ⟨A, c, rfl⟩ := own_shape_s h
  refine ⟨A, c, by simp, ?_⟩
  rw [strs_app, List.length_append]
  exact h
theorem extract_str (s : ByteArray) (a b : Nat) : Value.string (s.extract a b) = Value.string ⟨((s.data.toList.drop a).take (b - a)).toArray⟩ := by
  congr 1
  apply ByteArray.ext
  apply Array.ext'
  rw [extract_data]
theorem byte_ne {s : ByteArray} {k : Nat} {b : UInt8} (h : k < s.size) (hn : (s[k]).toNat ≠ b.toNat) : s[k] ≠ b := fun e => hn (by rw [e])
theorem drop_hit {s : ByteArray} {f k : Nat} {b : UInt8} (hfk : f ≤ k) (h : k < s.size) (e : s[k] = b) : s.data.toList.drop f = (s.data.toList.drop f).take (k - f) ++ b :: s.data.toList.drop (k + 1) := by
  have h1 : s.data.toList.drop k = b :: s.data.toList.drop (k + 1) := drop_one _ _ _ (by rw [byte_at s k h, e])
  have h2 : (s.data.toList.drop f).drop (k - f) = s.data.toList.drop k := by rw [List.drop_drop]; congr 1; omega
  rw [← h1, ← h2, List.take_append_drop]
theorem take_miss {s : ByteArray} {f k : Nat} {b : UInt8} (hfk : f ≤ k) (h : k < s.size) (e : s[k] ≠ b) (hb : b ∉ (s.data.toList.drop f).take (k - f)) : b ∉ (s.data.toList.drop f).take (k + 1 - f) := by
  rw [show k + 1 - f = k - f + 1 by omega, take_one _ (k - f) s[k] (by rw [List.getElem?_drop, show f + (k - f) = k by omega]; exact byte_at s k h)]
  simp only [List.mem_append, List.mem_singleton, not_or]
  exact ⟨hb, Ne.symm e⟩
set_option maxHeartbeats 1600000 in
theorem split_any (s : ByteArray) (b : UInt8) (w : World) (hsz : s.size ≤ 1048576) :
    Calls Tryz.prog 108 #[.string s, .int .u8 (b.toNat : Int)] w fun e w' => ∃ A c, e = .returned (.slice A (pcs b s.data.toList).length c) ∧
      OwnV w' w.heap.size w'.heap.size 9 1 A (pcs b s.data.toList).length c (strs (pcs b s.data.toList)) ∧ Below w.heap.size w w' := by
  obtain ⟨i0, hi, hz0, hz1, hz2⟩ := info_parts info_str
  have HO := Lib.hid (World.ownsRow_made (e := 9) (size := 1) w #[] 0 (Nat.le_refl _) (Nat.zero_le _) rfl)
  have HBL := Lib.hid (show Below w.heap.size w (w.alloc (.cells #[] 9)) from (Below.refl _ _).alloc (Nat.le_refl _) _)
  have hb8 := b.toNat_lt
  go_enter Tryz.func108, Tryz.ntmps108
  go_wp2
  go_loopw [5, 6, 7] (fun v fv iv wr => ∃ (k f : Nat) (ps : List (List UInt8)) (A : Option Addr) (c : Nat), f ≤ k ∧ k ≤ s.size ∧ iv = .int .i64 k ∧ fv = .int .i64 f ∧ v = .slice A ps.length c ∧ ps.length ≤ k ∧ wr.ownsRow w.heap.size 9 1 v ps.length (strs ps) ∧ Below w.heap.size w wr ∧ Hid (pcs b s.data.toList = ps ++ pcs b (s.data.toList.drop f) ∧ b ∉ (s.data.toList.drop f).take (k - f))) (fun _ _ i _ => s.size - (intOf i).toNat)
  case atStart => exact ⟨0, 0, [], _, _, Nat.le_refl _, Nat.zero_le _, rfl, rfl, rfl, Nat.zero_le _, HO.out, HBL.out, by simp, by simp⟩
  case round =>
    obtain ⟨k, f, ps, A, c, hfk, hk, rfl, rfl, rfl, hpl, ho, hb, HI⟩ := hrel
    obtain ⟨wo, rfl⟩ : ∃ wo : World, wo = wr := ⟨_, rfl⟩
    have hsz2 := hb.size
    have HOW := Lib.hid ho
    have HB := Lib.hid hb
    clear HO HBL ho hb
    by_cases hlt : k < s.size
    · have hbk := (s[k]).toNat_lt
      by_cases he : (s[k]).toNat = b.toNat
      · have HE := Lib.hid (UInt8.toNat_inj.1 he)
        have HX := Lib.hid (extract_str s f k)
        have HN := Lib.hid (show pcs b s.data.toList = (ps ++ [(s.data.toList.drop f).take (k - f)]) ++ pcs b (s.data.toList.drop (k + 1)) by
          rw [HI.out.1, drop_hit hfk hlt HE.out, pcs_hit b _ _ HI.out.2]
          rw [← drop_hit hfk hlt HE.out]
          simp)
        go_wp2_with (at_builtin; refine wpList_append_own _ rfl _ _ 22 rfl w.heap.size 9 i0 (.string ByteArray.empty) 1 16 Tryz.underlying22 hi hz0 hz1 hz2 rfl (by decide) (.slice A ps.length c) ps.length (strs ps) rfl (by exact HOW.out.alloc _) ⟨wo.heap.size, 0, none⟩ 1 1 [.string (s.extract f k)] rfl rfl (cell_one_new _ _ _) (by intro u hu; simp at hu; subst hu; rfl) (by unfold maxLen; omega) (by omega) (by simp; omega) ?_; intro v2 w2 ho hg _; have HG := Lib.hid hg; have HO2 := Lib.hid ho; clear ho hg)
        obtain ⟨A4, c4, rfl, ho4⟩ := own_more_s HO2.out rfl HX.out
        go_roundw
        case rel => exact ⟨k + 1, k + 1, _, A4, c4, Nat.le_refl _, by omega, by go_num, by go_num, rfl, by simp; omega, ho4, (HB.out.alloc hsz2 _).grown HG.out (by simp; omega) (fun q hq => (HOW.out.lt q hq).1), HN.out, by simp⟩
        case measure => simp [intOf]; try omega
      · have HM := Lib.hid (take_miss hfk hlt (byte_ne hlt he) HI.out.2)
        have he' : (((s[k]).toNat : Int) == (b.toNat : Int)) = false := ib_ne (by omega)
        clear he
        go_wp2
        go_roundw
        case rel => exact ⟨k + 1, f, ps, A, c, by omega, by omega, by go_num, rfl, rfl, by omega, HOW.out, HB.out, HI.out.1, HM.out⟩
        case measure => simp [intOf]; try omega
    · have hke : k = s.size := by omega
      subst hke
      have HX := Lib.hid (extract_str s f s.size)
      have HN := Lib.hid (show pcs b s.data.toList = ps ++ [(s.data.toList.drop f).take (s.size - f)] by
        have hful : (s.data.toList.drop f).take (s.size - f) = s.data.toList.drop f := List.take_of_length_le (by rw [List.length_drop, byte_len]; exact Nat.le_refl _)
        rw [HI.out.1, pcs_none b _ (by have := HI.out.2; rw [hful] at this; exact this), hful])
      go_wp2_with (at_builtin; refine wpList_append_own _ rfl _ _ 22 rfl w.heap.size 9 i0 (.string ByteArray.empty) 1 16 Tryz.underlying22 hi hz0 hz1 hz2 rfl (by decide) (.slice A ps.length c) ps.length (strs ps) rfl (by exact HOW.out.alloc _) ⟨wo.heap.size, 0, none⟩ 1 1 [.string (s.extract f s.size)] rfl rfl (cell_one_new _ _ _) (by intro u hu; simp at hu; subst hu; rfl) (by unfold maxLen; omega) (by omega) (by simp; omega) ?_; intro v2 w2 ho hg _; have HG := Lib.hid hg; have HO2 := Lib.hid ho; clear ho hg)
      obtain ⟨A4, c4, rfl, ho4⟩ := own_more_s HO2.out HN.out HX.out
      go_ret
      exact ⟨A4, c4, rfl, OwnV.mk' ho4, (HB.out.alloc hsz2 _).grown HG.out (by simp; omega) (fun q hq => (HOW.out.lt q hq).1)⟩
end Go.Proofs.YtbailpfjgjcbdaaGreatDoor

namespace Go.Proofs.YtbailpfjgjcbdaaGreatDoor
open Go.RowKit
theorem info_i64 : (Tryz.prog.info? 2).map (fun i => (i.zero, i.size, i.bytes)) = some (some (.int .i64 0), 1, 8) := by kernel_rfl
theorem upd_take {α : Type} (xs : List α) (z u : α) (k n : Nat) (hn : xs.length = n) (hu : xs[k]? = some u) :
    (xs.take k ++ List.replicate (n - k) z).set k u = xs.take (k + 1) ++ List.replicate (n - (k + 1)) z := by
  obtain ⟨hk, rfl⟩ := List.getElem?_eq_some_iff.1 hu
  have h1 : n - k = (n - (k + 1)) + 1 := by omega
  have hl : (xs.take k).length = k := by rw [List.length_take]; omega
  rw [h1, List.replicate_succ, List.set_append_right _ _ (by omega), hl, Nat.sub_self, List.set_cons_zero, List.take_succ_eq_append_getElem hk, List.append_assoc]
  rfl
set_option maxHeartbeats 1000000 in
theorem toI_any (A : Option Addr) (n c : Nat) (xs : List Int) (w : World) (B : Nat) (h : IRow w B A xs) (hB : B ≤ w.heap.size) (l : xs.length = n) (m : n ≤ 2000000) :
    Calls Tryz.prog 10 #[.slice A n c] w fun e w' => e = .returned (.slice (some ⟨w.heap.size, 0, none⟩) n n) ∧
      w'.ownsRow w.heap.size 2 1 (.slice (some ⟨w.heap.size, 0, none⟩) n n) n (xs.map (Value.int .i64)) ∧ Below w.heap.size w w' := by
  obtain ⟨i0, hi, hz0, hz1, hz2⟩ := info_parts info_i64
  have L := Lib.hid l
  clear l
  go_enter Tryz.func10, Tryz.ntmps10
  go_wp2_with (at_make; refine wpList_make_full _ rfl _ _ _ rfl w.heap.size 2 i0 (.int .i64 0) 1 Tryz.underlying26 hi hz0 hz1 .i64 .i64 _ _ n rfl rfl rfl rfl (by rw [hz2]; omega) (by unfold maxLen; omega) (Nat.le_refl _) ?_; intro w1 hown1 hg1)
  have H0 : w1.ownsRow w.heap.size 2 1 (.slice (some ⟨w.heap.size, 0, none⟩) n n) n ((xs.map (Value.int .i64)).take 0 ++ List.replicate (n - 0) (.int .i64 0)) := by
    have e := toList_madeCells_one (.int .i64 0) n
    have e2 : (Value.int .i64 0).cells = #[.int .i64 0] := rfl
    rw [e2, Nat.mul_one, e] at hown1
    simpa using hown1
  have hb1 : Below w.heap.size w w1 := (Below.refl _ _).grown hg1 (Nat.le_refl _) (by simp)
  have h63 : n ≤ 9223372036854775807 := by omega
  clear hown1 hg1 hi hz0 hz1 hz2
  go_loopw [4] (fun i wr => ∃ k : Nat, k ≤ n ∧ i = .int .i64 k ∧ Below w.heap.size w wr ∧ wr.ownsRow w.heap.size 2 1 (.slice (some ⟨w.heap.size, 0, none⟩) n n) n ((xs.map (Value.int .i64)).take k ++ List.replicate (n - k) (.int .i64 0))) (fun i _ => n - (intOf i).toNat)
  case atStart => exact ⟨0, Nat.zero_le _, rfl, hb1, H0⟩
  case round =>
    obtain ⟨k, hk, rfl, hb, hown⟩ := hrel
    clear H0 hb1
    by_cases hlt : k < n
    · obtain ⟨b, o, u, rfl, hbB, hc, hu⟩ := (h.below (hb.mono hB)).at_ (k := k) (by rw [L.out]; exact hlt)
      have hx := hown.cellAt k (by omega)
      have hlen : k < ((xs.map (Value.int .i64)).take k ++ List.replicate (n - k) (Value.int .i64 0)).length := by rw [hown.1]; omega
      rw [List.getElem?_eq_getElem hlen] at hx
      have hf := hown.frozenAt k
      have HB := Lib.hid hb
      have HO := Lib.hid (hown.stored k (.int .i64 u)).1
      clear hb hown
      generalize (List.take k (List.map (Value.int IntKind.i64) xs) ++ List.replicate (n - k) (Value.int IntKind.i64 0))[k] = old at hx
      go_wp2
      go_roundw
      case rel => exact ⟨k + 1, by omega, by go_num, HB.out.setCell (Nat.le_refl _) _, by have := HO.out; rwa [upd_take _ _ _ _ _ (by rw [List.length_map]; exact L.out) (by rw [List.getElem?_map, hu.out]; rfl)] at this⟩
      case measure => simp [intOf]; omega
    · go_wp2
      go_ret
      obtain rfl : k = n := by omega
      exact ⟨rfl, by simpa [List.take_of_length_le, L.out] using hown, hb⟩
set_option maxHeartbeats 1000000 in
theorem eqI_yes (A1 A2 : Option Addr) (n1 n2 c1 c2 : Nat) (xs : List Int) (w : World) (B : Nat) (h1 : IRow w B A1 xs) (h2 : IRow w B A2 xs)
    (l1 : xs.length = n1) (l2 : xs.length = n2) (m1 : n1 ≤ 2000000) :
    Calls Tryz.prog 12 #[.slice A1 n1 c1, .slice A2 n2 c2] w fun e w' => e = .returned (.bool true) ∧ Drawn w w' := by
  obtain rfl : n1 = n2 := l1.symm.trans l2
  have L1 := Lib.hid l1
  clear l1 l2
  go_enter Tryz.func12, Tryz.ntmps12
  go_wp2
  go_loopw [5] (fun i wr => ∃ k : Nat, k ≤ n1 ∧ i = .int .i64 k ∧ Drawn w wr) (fun i _ => n1 - (intOf i).toNat)
  case atStart => exact ⟨0, Nat.zero_le _, rfl, Drawn.refl _⟩
  case round =>
    obtain ⟨k, hk1, rfl, hD⟩ := hrel
    by_cases hlt1 : k < n1
    · obtain ⟨b1, o1, u, rfl, hb1, hc1, hu⟩ := (h1.drawn hD).at_ (k := k) (by rw [L1.out]; exact hlt1)
      obtain ⟨b2, o2, v, rfl, hb2, hc2, hv⟩ := (h2.drawn hD).at_ (k := k) (by rw [L1.out]; exact hlt1)
      obtain rfl : u = v := by have := hu.out.symm.trans hv.out; injection this
      go_wp2
      go_quiet (fail)
      go_wp2
      go_roundw
      case rel => exact ⟨k + 1, by omega, by go_num, by repeat (first | exact hD | apply Drawn.drewN)⟩
      case measure => simp [intOf]; omega
    · go_wp2
      go_ret
      exact ⟨rfl, hD⟩
end Go.Proofs.YtbailpfjgjcbdaaGreatDoor

namespace Go.Proofs
open Go.Shelf
shelf_lay Lays.n146 Nm 146 at Tryz as Tryz.laysSplit
end Go.Proofs
namespace Go.Proofs.YtbailpfjgjcbdaaGreatDoor
open Go.RowKit Go.Lib
/-- What of the library's variables is read: its errors, its table of powers, the longest text that its search takes. -/
structure TxtTabs (w : World) : Prop where
  num : NumTabs w
  max : ∃ m, w.cell? ⟨0, 0, none⟩ = some (.int .i64 m)
theorem TxtTabs.below {w w' : World} (h : TxtTabs w) (hb : Below w.heap.size w w') : TxtTabs w' :=
  ⟨h.num.below hb, by obtain ⟨m, h1⟩ := h.max; exact ⟨m, cell_below h1 hb⟩⟩
theorem pcs_sum (b : UInt8) : ∀ (l : List UInt8) (p : List UInt8), p ∈ pcs b l → p.length ≤ l.length
  | [], p, h => by simp [pcs] at h; simp [h]
  | c :: r, p, h => by
    simp only [pcs] at h
    by_cases hc : c = b
    · rw [if_pos hc] at h
      rcases List.mem_cons.1 h with h | h
      · simp [h]
      · have := pcs_sum b r p h; rw [List.length_cons]; omega
    · rw [if_neg hc] at h
      cases hp : pcs b r with
      | nil => exact absurd hp (pcs_ne b r)
      | cons q qs =>
        rw [hp] at h
        rcases List.mem_cons.1 h with h | h
        · subst h
          have := pcs_sum b r q (by rw [hp]; simp)
          rw [List.length_cons, List.length_cons]; omega
        · have := pcs_sum b r p (by rw [hp]; simp [h])
          rw [List.length_cons]; omega
theorem split_call (s : ByteArray) (b : UInt8) (w : World) (hsz : s.size ≤ 1048576) (hm : ∃ m, w.cell? ⟨0, 0, none⟩ = some (.int .i64 m)) :
    Calls Tryz.prog 122 #[.string s, .string ⟨#[b]⟩] w fun e w' => e = .returned (.slice (some ⟨w.heap.size, 0, none⟩) (pcs b s.data.toList).length (pcs b s.data.toList).length) ∧
      Row w' w'.heap.size (some ⟨w.heap.size, 0, none⟩) (strs (pcs b s.data.toList)) ∧ Below w.heap.size w w' := by
  obtain ⟨m, hm⟩ := hm
  have e1 : countB s ⟨#[b]⟩ + 1 = (pcs b s.data.toList).length := by rw [countB_one, pcs_count]
  have e2 : ((splitB ⟨#[b]⟩ 0 (countB s ⟨#[b]⟩) s).map Value.string) = strs (pcs b s.data.toList) := by
    rw [splitB_pcs, List.map_map]; rfl
  refine (Any.strings_Split Tryz.laysSplit (by kernel_rfl) s ⟨#[b]⟩ m w (by omega) hm (Nat.le_refl _)).mono fun e w' ⟨he, hw⟩ => ?_
  rw [e1] at he
  rw [e2] at hw
  subst hw
  refine ⟨he, fun _ => ⟨w.heap.size, 0, rfl, by simp, fun i v hv => ?_⟩, (Below.refl _ _).alloc (Nat.le_refl _) _⟩
  rw [Nat.zero_add, World.cell?_alloc_at _ _ _ _ rfl, List.getElem?_toArray]
  exact hv
theorem snoc_upd {vs : List Int} {n : Int} {k N : Nat} (hk : vs.length = k) (hN : k < N) :
    ((vs.map (Value.int .i64)) ++ List.replicate (N - k) (Value.int .i64 0)).set k (Value.int .i64 n) = ((vs ++ [n]).map (Value.int .i64)) ++ List.replicate (N - (k + 1)) (Value.int .i64 0) := by
  have h1 : N - k = (N - (k + 1)) + 1 := by omega
  rw [h1, List.replicate_succ, List.set_append_right _ _ (by rw [List.length_map]; omega), List.length_map, hk, Nat.sub_self, List.set_cons_zero, List.map_append, List.append_assoc]
  rfl
/-- What splitNumbers returns: the numbers of a text's pieces, in a slice of its own, or none. -/
def SplRet (w : World) (l : List UInt8) (e : Ending) (w' : World) : Prop :=
  ((∃ vs A c, Read yes (pcs 44 l) vs ∧ e = .returned (.tuple #[.slice A vs.length c, .bool true]) ∧ OwnV w' w.heap.size w'.heap.size 2 1 A vs.length c (vs.map (Value.int .i64))) ∨
   ((∀ vs, ¬ Read yes (pcs 44 l) vs) ∧ e = .returned (.tuple #[.slice none 0 0, .bool false]))) ∧ Below w.heap.size w w'
theorem Read.start {P : Int → Bool} {ps : List (List UInt8)} : Read P (ps.take 0) [] := ⟨rfl, rfl⟩
theorem own_lowerS {w : World} {B C : Nat} {T : TypeId} {s n : Nat} {v : Value} {vs : List Value} (h : w.ownsRow B T s v n vs) (hB : C ≤ B) : w.ownsRow C T s v n vs := by
  refine ⟨h.1, ?_⟩
  rcases h.2 with hn | ⟨g, cap, cur, e, hbg, rest⟩
  · exact .inl hn
  · exact .inr ⟨g, cap, cur, e, Nat.le_trans hB hbg, rest⟩
set_option maxHeartbeats 1600000 in
set_option maxRecDepth 100000 in
theorem implSplit_any (s : ByteArray) (w : World) (hsz : s.size ≤ 1048576) (ht : TxtTabs w) :
    Calls Tryz.prog 113 #[.string s, .string ⟨#[44]⟩] w fun e w' => SplRet w s.data.toList e w' := by
  obtain ⟨i0, hi, hz0, hz1, hz2⟩ := info_parts info_i64
  have HT := Lib.hid ht
  have HSum := Lib.hid (pcs_sum 44 s.data.toList)
  have hcnt : (pcs 44 s.data.toList).length ≤ 1048577 := by
    rw [pcs_count]
    have := List.count_le_length (a := (44 : UInt8)) (l := s.data.toList)
    rw [byte_len] at this
    omega
  have HBL := Lib.hid (byte_len s)
  have hpos : 1 ≤ (pcs 44 s.data.toList).length := List.length_pos_iff.2 (pcs_ne _ _)
  have HC := Lib.hid (split_call s 44 w hsz ht.max)
  clear ht
  unfold SplRet
  generalize hps : pcs 44 s.data.toList = ps at *
  have HPS := Lib.hid hps
  clear hps
  generalize hN : ps.length = N at *
  have HN := Lib.hid hN
  clear hN
  go_enter Tryz.func113, Tryz.ntmps113
  go_wp2_with fail
  refine HC.out.mono ?_; rintro e w1 ⟨rfl, hrow, hb1⟩
  have HRow := Lib.hid hrow
  have HB1 := Lib.hid hb1
  have hs1 := hb1.size
  have hw1 : w.heap.size < w1.heap.size := by
    obtain ⟨b, off, e, hb, _⟩ := hrow (by rw [strs_len, HN.out]; omega)
    injection e with e; injection e with e; omega
  clear hrow hb1
  go_wp2_with (at_make; refine wpList_make_full _ rfl _ _ _ rfl w1.heap.size 2 i0 (.int .i64 0) 1 Tryz.underlying26 hi hz0 hz1 .i64 .i64 _ _ N rfl rfl rfl rfl (by rw [hz2]; omega) (by unfold maxLen; omega) (Nat.le_refl _) ?_; intro w2 hown2 hg2)
  have H0 : w2.ownsRow w1.heap.size 2 1 (.slice (some ⟨w1.heap.size, 0, none⟩) N N) N ((([] : List Int).map (Value.int .i64)) ++ List.replicate (N - 0) (.int .i64 0)) := by
    have e := toList_madeCells_one (.int .i64 0) N
    have e2 : (Value.int .i64 0).cells = #[.int .i64 0] := rfl
    rw [e2, Nat.mul_one, e] at hown2
    simpa using hown2
  have hb2 : Below w1.heap.size w1 w2 := (Below.refl _ _).grown hg2 (Nat.le_refl _) (by simp)
  clear hown2 hg2 hi hz0 hz1 hz2
  go_loopw [8, 9, 10, 11, 20] (fun _ _ _ _ iv wr => ∃ (k : Nat) (vs : List Int), k ≤ N ∧ vs.length = k ∧ iv = .int .i64 k ∧ Below w1.heap.size w1 wr ∧ wr.ownsRow w1.heap.size 2 1 (.slice (some ⟨w1.heap.size, 0, none⟩) N N) N ((vs.map (Value.int .i64)) ++ List.replicate (N - k) (.int .i64 0)) ∧ Hid (Read yes (ps.take k) vs)) (fun _ _ _ _ iv _ => N - (intOf iv).toNat)
  case atStart => exact ⟨0, [], Nat.zero_le _, rfl, rfl, hb2, H0, Lib.hid Read.start⟩
  case round =>
    obtain ⟨k, vs, hk, hvl, rfl, hb, hown, HI⟩ := hrel
    obtain ⟨wo, rfl⟩ : ∃ wo : World, wo = wr := ⟨_, rfl⟩
    have HB := Lib.hid hb
    have HO := Lib.hid hown
    have hsz2 := hb.size
    have HVL := Lib.hid hvl
    clear H0 hb2 hb hown hvl
    by_cases hlt : k < N
    · obtain ⟨b, off, e, hbb, hc⟩ := (HRow.out.below HB.out).at_ (k := k) (by rw [strs_len, HN.out]; exact hlt)
      injection e with e
      injection e with e1 e2
      subst e1 e2
      rw [Nat.zero_add] at hc
      obtain ⟨p, hp⟩ : ∃ p, ps[k]? = some p := ⟨_, List.getElem?_eq_getElem (by rw [HN.out]; exact hlt)⟩
      have hc' : wo.cell? ⟨w.heap.size, k, none⟩ = some (.string ⟨p.toArray⟩) := by
        rw [hc]
        have : (strs ps)[k]? = some (.string ⟨p.toArray⟩) := by unfold strs; rw [List.getElem?_map, hp]; rfl
        rw [List.getElem?_eq_getElem (by rw [strs_len, HN.out]; exact hlt)] at this
        exact this
      have HP := Lib.hid hp
      have hple : (⟨p.toArray⟩ : ByteArray).size ≤ 1048576 := by
        rw [list_size]
        have := HSum.out p (List.mem_of_getElem? hp)
        rw [HBL.out] at this
        omega
      have HRd := Lib.hid (implRead_any ⟨p.toArray⟩ wo hple ((HT.out.below HB1.out).num.below HB.out))
      have ep : (⟨p.toArray⟩ : ByteArray).data.toList = p := rfl
      rw [ep] at HRd
      clear hc hp ep hple
      generalize (⟨p.toArray⟩ : ByteArray) = word at *
      rcases hnum : num p with _ | v
      · have H := Lib.hid (fun vs => read_stop (P := yes) HP.out hnum vs)
        rw [hnum] at HRd
        go_wp2_with fail
        refine HRd.out.mono ?_; rintro e w3 ⟨rfl, hb3⟩
        unfold numRet
        have HB3 := Lib.hid (HB1.out.trans ((HB.out.trans (hb3.mono hsz2)).mono hs1))
        clear hb3
        go_wp2
        go_ret2
        exact ⟨.inr ⟨H.out, rfl⟩, HB3.out⟩
      · have HS := Lib.hid (HI.out.step HP.out hnum rfl)
        rw [hnum] at HRd
        go_wp2_with fail
        refine HRd.out.mono ?_; rintro e w3 ⟨rfl, hb3⟩
        unfold numRet
        have HB3 := Lib.hid (HB.out.trans (hb3.mono hsz2))
        have HO3 := Lib.hid (own_below' HO.out hb3)
        obtain ⟨⟨old, hx⟩, hf⟩ := own_some HO3.out (k := k) (by omega)
        clear hb3
        go_wp2
        go_roundw
        case rel => exact ⟨k + 1, vs ++ [v], by omega, by rw [List.length_append, HVL.out]; rfl, by go_num, HB3.out.setCell (Nat.le_refl _) _, by have := (HO3.out.stored k (.int .i64 v)).1; rwa [snoc_upd HVL.out hlt] at this, HS⟩
        case measure => simp [intOf]; omega
    · have hke : k = N := by omega
      have HR := Lib.hid (show Read yes ps vs by have := HI.out; rwa [List.take_of_length_le (by rw [HN.out]; omega)] at this)
      have hvN : vs.length = N := by rw [HVL.out, hke]
      have HF := Lib.hid (show wo.ownsRow w.heap.size 2 1 (.slice (some ⟨w1.heap.size, 0, none⟩) vs.length N) vs.length (vs.map (Value.int .i64)) by
        have := own_lowerS HO.out hs1
        rw [hke, Nat.sub_self, List.replicate_zero, List.append_nil, ← hvN] at this
        rw [← hvN]
        exact this)
      have HB3 := Lib.hid (HB1.out.trans (HB.out.mono hs1))
      rw [hvN] at HF
      go_wp2
      go_ret2
      exact ⟨.inl ⟨vs, some ⟨w1.heap.size, 0, none⟩, N, HR.out, by rw [hvN]; rfl, by rw [hvN]; exact OwnV.mk' HF.out⟩, HB3.out⟩
end Go.Proofs.YtbailpfjgjcbdaaGreatDoor
