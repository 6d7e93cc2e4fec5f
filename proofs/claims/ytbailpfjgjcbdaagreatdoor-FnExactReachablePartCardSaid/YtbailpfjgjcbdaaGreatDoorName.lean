/- Names and names of actions: the model's and the program's tests answer one plain question. -/
import Derived.Test.YtbailpfjgjcbdaaGreatDoorProg
import Derived.WalkKit
import Derived.ProofKit
import Derived.Outline
import Derived.Test.YtbailpfjgjcbdaaGreatDoorLow
import Derived.Test.YtbailpfjgjcbdaaGreatDoorMath
namespace Go.Proofs.YtbailpfjgjcbdaaGreatDoor
open Go.RowKit
theorem isSmallLetter_any (r : Int) (w : World) : Calls Tryz.prog 163 #[.int .i32 r] w fun e w' => e = .returned (.bool (smallI r)) ∧ w = w' := by
  by_cases h1 : 97 ≤ r
  · by_cases h2 : r ≤ 122
    · have H := Lib.hid (smallI_yes ⟨h1, h2⟩)
      go_enter Tryz.func163, Tryz.ntmps163
      go_wp2
      go_ret
      exact ⟨ret_bool H.out.symm, rfl⟩
    · have H := Lib.hid (smallI_no (fun h : 97 ≤ r ∧ r ≤ 122 => h2 h.2))
      go_enter Tryz.func163, Tryz.ntmps163
      go_wp2
      go_ret
      exact ⟨ret_bool H.out.symm, rfl⟩
  · have H := Lib.hid (smallI_no (fun h : 97 ≤ r ∧ r ≤ 122 => h1 h.1))
    go_enter Tryz.func163, Tryz.ntmps163
    go_wp2
    go_ret
    exact ⟨ret_bool H.out.symm, rfl⟩
theorem isDigit_any (r : Int) (w : World) : Calls Tryz.prog 164 #[.int .i32 r] w fun e w' => e = .returned (.bool (digitI r)) ∧ w = w' := by
  by_cases h1 : 48 ≤ r
  · by_cases h2 : r ≤ 57
    · have H := Lib.hid (digitI_yes ⟨h1, h2⟩)
      go_enter Tryz.func164, Tryz.ntmps164
      go_wp2
      go_ret
      exact ⟨ret_bool H.out.symm, rfl⟩
    · have H := Lib.hid (digitI_no (fun h : 48 ≤ r ∧ r ≤ 57 => h2 h.2))
      go_enter Tryz.func164, Tryz.ntmps164
      go_wp2
      go_ret
      exact ⟨ret_bool H.out.symm, rfl⟩
  · have H := Lib.hid (digitI_no (fun h : 48 ≤ r ∧ r ≤ 57 => h1 h.1))
    go_enter Tryz.func164, Tryz.ntmps164
    go_wp2
    go_ret
    exact ⟨ret_bool H.out.symm, rfl⟩
theorem specSmall_any (r : Int) (w : World) : Calls Tryz.prog 118 #[.int .u8 r] w fun e w' => e = .returned (.bool (smallI r)) ∧ w = w' := by
  by_cases h1 : 97 ≤ r
  · by_cases h2 : r ≤ 122
    · have H := Lib.hid (smallI_yes ⟨h1, h2⟩)
      go_enter Tryz.func118, Tryz.ntmps118
      go_wp2
      go_ret
      exact ⟨ret_bool H.out.symm, rfl⟩
    · have H := Lib.hid (smallI_no (fun h : 97 ≤ r ∧ r ≤ 122 => h2 h.2))
      go_enter Tryz.func118, Tryz.ntmps118
      go_wp2
      go_ret
      exact ⟨ret_bool H.out.symm, rfl⟩
  · have H := Lib.hid (smallI_no (fun h : 97 ≤ r ∧ r ≤ 122 => h1 h.1))
    go_enter Tryz.func118, Tryz.ntmps118
    go_wp2
    go_ret
    exact ⟨ret_bool H.out.symm, rfl⟩
theorem specDigit_any (r : Int) (w : World) : Calls Tryz.prog 119 #[.int .u8 r] w fun e w' => e = .returned (.bool (digitI r)) ∧ w = w' := by
  by_cases h1 : 48 ≤ r
  · by_cases h2 : r ≤ 57
    · have H := Lib.hid (digitI_yes ⟨h1, h2⟩)
      go_enter Tryz.func119, Tryz.ntmps119
      go_wp2
      go_ret
      exact ⟨ret_bool H.out.symm, rfl⟩
    · have H := Lib.hid (digitI_no (fun h : 48 ≤ r ∧ r ≤ 57 => h2 h.2))
      go_enter Tryz.func119, Tryz.ntmps119
      go_wp2
      go_ret
      exact ⟨ret_bool H.out.symm, rfl⟩
  · have H := Lib.hid (digitI_no (fun h : 48 ≤ r ∧ r ≤ 57 => h1 h.1))
    go_enter Tryz.func119, Tryz.ntmps119
    go_wp2
    go_ret
    exact ⟨ret_bool H.out.symm, rfl⟩
theorem empty_yes {s : ByteArray} (h : s.size < 1) : s.toList.isEmpty = true := by
  rw [ByteArray.toList_eq, List.isEmpty_iff_length_eq_zero, byte_len]; omega
theorem empty_no {s : ByteArray} (h : ¬ s.size < 1) : s.toList.isEmpty = false := by
  rcases hb : s.toList.isEmpty with _ | _
  · rfl
  · rw [ByteArray.toList_eq, List.isEmpty_iff_length_eq_zero, byte_len] at hb; omega
set_option maxHeartbeats 1000000 in
theorem specName_any (s : ByteArray) (w : World) :
    Calls Tryz.prog 106 #[.string s] w fun e w' => e = .returned (.bool (nameB s.data.toList)) ∧ w = w' := by
  by_cases h0 : s.size < 1
  · have H := Lib.hid (name_short h0)
    have he := empty_yes h0
    go_enter Tryz.func106, Tryz.ntmps106
    go_wp2
    go_ret
    exact ⟨ret_bool H.out.symm, rfl⟩
  have he := empty_no h0
  by_cases h10 : 10 < s.size
  · have H := Lib.hid (name_long h10)
    have h10' : (10 : Int) < (s.size : Int) := by omega
    go_enter Tryz.func106, Tryz.ntmps106
    go_wp2
    go_ret
    exact ⟨ret_bool H.out.symm, rfl⟩
  have h10' : ¬ (10 : Int) < (s.size : Int) := by omega
  have hp : 0 < s.size := by omega
  have hb0 := (s[0]).toNat_lt
  rcases hsm : smallI (s[0]).toNat with _ | _
  · have H := Lib.hid (name_bad 0 hp (not_good_zero hsm))
    go_enter Tryz.func106, Tryz.ntmps106
    go_wp2_with (go_at_call 118; refine (specSmall_any _ _).mono ?_; rintro e w' ⟨rfl, rfl⟩)
    go_ret
    exact ⟨ret_bool H.out.symm, rfl⟩
  go_enter Tryz.func106, Tryz.ntmps106
  go_wp2_with (go_at_call 118; refine (specSmall_any _ _).mono ?_; rintro e w' ⟨rfl, rfl⟩)
  have HG0 : goodB 0 s[0] := .inl hsm
  have HG := Lib.hid HG0
  clear HG0 hsm hb0 he
  go_loop [3] (fun i => ∃ k : Nat, k ≤ s.size ∧ i = .int .i64 k ∧ Hid (∀ i (hi : i < s.size), i < k → goodB i s[i])) (fun i => s.size - (intOf i).toNat)
  case atStart => exact ⟨0, Nat.zero_le _, rfl, fun i _ h => by omega⟩
  case round =>
    obtain ⟨k, hk, rfl, HK⟩ := hrel
    by_cases hlt : k < s.size
    · have hb := (s[k]).toNat_lt
      rcases hs1 : smallI (s[k]).toNat with _ | _
      · rcases hs2 : digitI (s[k]).toNat with _ | _
        · have H := Lib.hid (name_bad k hlt (not_good hs1 hs2))
          go_wp2_with (first | (go_at_call 118; refine (specSmall_any _ _).mono ?_; rintro e w' ⟨rfl, rfl⟩) | (go_at_call 119; refine (specDigit_any _ _).mono ?_; rintro e w' ⟨rfl, rfl⟩))
          go_ret
          exact ⟨ret_bool H.out.symm, rfl⟩
        · have HN : goodB k s[k] := by
            by_cases h : k = 0
            · subst h; exact HG.out
            · exact .inr ⟨h, hs2⟩
          have HN' := Lib.hid HN
          clear HN
          go_wp2_with (first | (go_at_call 118; refine (specSmall_any _ _).mono ?_; rintro e w' ⟨rfl, rfl⟩) | (go_at_call 119; refine (specDigit_any _ _).mono ?_; rintro e w' ⟨rfl, rfl⟩))
          go_round
          case rel => exact ⟨k + 1, by omega, by go_num, fun i hi h => by
            by_cases e : i = k
            · subst e; exact HN'.out
            · exact HK.out i hi (by omega)⟩
          case measure => simp [intOf]; omega
      · have HN : goodB k s[k] := .inl hs1
        have HN' := Lib.hid HN
        clear HN
        go_wp2_with (go_at_call 118; refine (specSmall_any _ _).mono ?_; rintro e w' ⟨rfl, rfl⟩)
        go_round
        case rel => exact ⟨k + 1, by omega, by go_num, fun i hi h => by
          by_cases e : i = k
          · subst e; exact HN'.out
          · exact HK.out i hi (by omega)⟩
        case measure => simp [intOf]; omega
    · have H := Lib.hid (name_all (s := s) (by omega) (by omega) fun i hi => HK.out i hi (by omega))
      go_wp2
      go_ret
      exact ⟨ret_bool H.out.symm, rfl⟩
theorem decode_first (s : ByteArray) (pos : Nat) (h : pos < s.size) : 1 ≤ (Utf8.decode s pos).2 ∧
    (((s[pos]).toNat < 128 ∧ (Utf8.decode s pos).1 = (s[pos]).toNat ∧ (Utf8.decode s pos).2 = 1) ∨ (128 ≤ (s[pos]).toNat ∧ 128 ≤ (Utf8.decode s pos).1)) := by
  by_cases ha : (s[pos]).toNat < 128
  · rw [decode_ascii s pos h ha]
    exact ⟨Nat.le_refl _, .inl ⟨ha, rfl, rfl⟩⟩
  · have := decode_high s pos h (by omega)
    exact ⟨this.2, .inr ⟨by omega, this.1⟩⟩
theorem decode_kinds (s : ByteArray) (pos : Nat) (h : pos < s.size) : smallI ((Utf8.decode s pos).1 : Nat) = smallI (s[pos]).toNat ∧ digitI ((Utf8.decode s pos).1 : Nat) = digitI (s[pos]).toNat ∧
    (smallI (s[pos]).toNat = true ∨ digitI (s[pos]).toNat = true → (Utf8.decode s pos).2 = 1) := by
  rcases (decode_first s pos h).2 with ⟨h1, h2, h3⟩ | ⟨h1, h2⟩
  · rw [h2, h3]; exact ⟨rfl, rfl, fun _ => rfl⟩
  · have a1 : smallI ((Utf8.decode s pos).1 : Nat) = false := smallI_no (by omega)
    have a2 : digitI ((Utf8.decode s pos).1 : Nat) = false := digitI_no (by omega)
    have a3 : smallI (s[pos]).toNat = false := smallI_no (by omega)
    have a4 : digitI (s[pos]).toNat = false := digitI_no (by omega)
    rw [a1, a2, a3, a4]
    exact ⟨rfl, rfl, fun h => by rcases h with h | h <;> cases h⟩
set_option maxHeartbeats 1000000 in
theorem implName_any (s : ByteArray) (w : World) :
    Calls Tryz.prog 145 #[.string s] w fun e w' => e = .returned (.bool (nameB s.data.toList)) ∧ Below w.heap.size w w' := by
  by_cases h0 : s.size < 1
  · have H := Lib.hid (name_short h0)
    have h0' : (s.size : Int) < 1 := by omega
    go_enter Tryz.func145, Tryz.ntmps145
    go_wp2
    go_ret
    exact ⟨ret_bool H.out.symm, Below.refl _ _⟩
  have h0' : ¬ (s.size : Int) < 1 := by omega
  by_cases h10 : 10 < s.size
  · have H := Lib.hid (name_long h10)
    have h10' : (10 : Int) < (s.size : Int) := by omega
    go_enter Tryz.func145, Tryz.ntmps145
    go_wp2
    go_ret
    exact ⟨ret_bool H.out.symm, Below.refl _ _⟩
  have h10' : ¬ (10 : Int) < (s.size : Int) := by omega
  go_enter Tryz.func145, Tryz.ntmps145
  go_wp2
  go_loopw [3, 4] (fun _ _ wr => ∃ pos : Nat, pos ≤ s.size ∧ wr = w.iter s pos ∧ Hid (∀ i (hi : i < s.size), i < pos → goodB i s[i])) (fun _ _ wr => s.size - wr.iterPos w.heap.size)
  case atStart => exact ⟨0, Nat.zero_le _, rfl, fun i _ h => by omega⟩
  case round =>
    obtain ⟨pos, hle, rfl, HK⟩ := hrel
    by_cases hp : pos < s.size
    · have hnx : ∀ ty, (Instr.next (.pointer (some ⟨w.heap.size, 0, none⟩)) true ty).run Tryz.prog (w.iter s pos) = _ := fun ty => run_next_any w s pos ty hp
      obtain ⟨hd1, hd2, hd3⟩ := decode_kinds s pos hp
      have HD3 := Lib.hid hd3
      clear hd3
      rcases hs1 : smallI (s[pos]).toNat with _ | _
      · rw [hs1] at hd1
        by_cases hz : pos = 0
        · have H := Lib.hid (name_bad pos hp (by subst hz; exact not_good_zero hs1))
          have hz' : ((pos : Int) == 0) = true := by simp [hz]
          clear hz
          go_wp2_with (first | (go_at_call 163; refine (isSmallLetter_any _ _).mono ?_; rintro e w' ⟨rfl, rfl⟩) | (go_at_call 164; refine (isDigit_any _ _).mono ?_; rintro e w' ⟨rfl, rfl⟩))
          go_ret
          exact ⟨ret_bool H.out.symm, (Below.refl _ _).alloc (Nat.le_refl _) _⟩
        · have hz' : ((pos : Int) == 0) = false := by simp [hz]
          rcases hs2 : digitI (s[pos]).toNat with _ | _
          · rw [hs2] at hd2
            have H := Lib.hid (name_bad pos hp (not_good hs1 hs2))
            go_wp2_with (first | (go_at_call 163; refine (isSmallLetter_any _ _).mono ?_; rintro e w' ⟨rfl, rfl⟩) | (go_at_call 164; refine (isDigit_any _ _).mono ?_; rintro e w' ⟨rfl, rfl⟩))
            go_ret
            exact ⟨ret_bool H.out.symm, (Below.refl _ _).alloc (Nat.le_refl _) _⟩
          · rw [hs2] at hd2
            have HN := Lib.hid (show goodB pos s[pos] from .inr ⟨hz, hs2⟩)
            have HW := Lib.hid (HD3.out (.inr hs2))
            go_wp2_with (first | (go_at_call 163; refine (isSmallLetter_any _ _).mono ?_; rintro e w' ⟨rfl, rfl⟩) | (go_at_call 164; refine (isDigit_any _ _).mono ?_; rintro e w' ⟨rfl, rfl⟩))
            go_roundw
            case rel => exact ⟨pos + 1, by omega, by rw [HW.out], fun i hi h => by
              by_cases e : i = pos
              · subst e; exact HN.out
              · exact HK.out i hi (by omega)⟩
            case measure => simp [HW.out]; omega
      · rw [hs1] at hd1
        have HN := Lib.hid (show goodB pos s[pos] from .inl hs1)
        have HW := Lib.hid (HD3.out (.inl hs1))
        go_wp2_with (first | (go_at_call 163; refine (isSmallLetter_any _ _).mono ?_; rintro e w' ⟨rfl, rfl⟩) | (go_at_call 164; refine (isDigit_any _ _).mono ?_; rintro e w' ⟨rfl, rfl⟩))
        go_roundw
        case rel => exact ⟨pos + 1, by omega, by rw [HW.out], fun i hi h => by
          by_cases e : i = pos
          · subst e; exact HN.out
          · exact HK.out i hi (by omega)⟩
        case measure => simp [HW.out]; omega
    · have hnx : ∀ ty, (Instr.next (.pointer (some ⟨w.heap.size, 0, none⟩)) true ty).run Tryz.prog (w.iter s pos) = _ := fun ty => run_next_end w s pos ty hp
      have H := Lib.hid (name_all (s := s) (by omega) (by omega) fun i hi => HK.out i hi (by omega))
      go_wp2
      go_ret
      exact ⟨ret_bool H.out.symm, (Below.refl _ _).alloc (Nat.le_refl _) _⟩
theorem implName_bel (s : ByteArray) (w : World) (B : Nat) (hB : B ≤ w.heap.size) :
    Calls Tryz.prog 145 #[.string s] w fun e w' => e = .returned (.bool (nameB s.data.toList)) ∧ Below B w w' :=
  (implName_any s w).mono fun _ _ ⟨h1, h2⟩ => ⟨h1, h2.mono hB⟩
/-- The bytes of the one name that is no action. -/
def tauBytes : List UInt8 := [116, 97, 117]
noncomputable def actionB (l : List UInt8) : Bool := nameB l && !(l == tauBytes)
theorem specAction_any (s : ByteArray) (w : World) :
    Calls Tryz.prog 107 #[.string s] w fun e w' => e = .returned (.bool (actionB s.data.toList)) ∧ w = w' := by
  have HA : Hid (actionB s.data.toList = (nameB s.data.toList && !(s.toList == [116, 97, 117]))) := by rw [ByteArray.toList_eq]; exact (rfl : _ = _)
  rcases hn : nameB s.data.toList with _ | _
  · go_enter Tryz.func107, Tryz.ntmps107
    go_wp2_with (go_at_call 106; refine (specName_any _ _).mono ?_; rintro e w' ⟨rfl, rfl⟩)
    go_ret
    exact ⟨ret_bool (by rw [HA.out, hn]; rfl), rfl⟩
  · go_enter Tryz.func107, Tryz.ntmps107
    go_wp2_with (go_at_call 106; refine (specName_any _ _).mono ?_; rintro e w' ⟨rfl, rfl⟩)
    go_ret
    exact ⟨ret_bool (by rw [HA.out, hn]; rfl), rfl⟩
theorem implAction_any (s : ByteArray) (w : World) :
    Calls Tryz.prog 125 #[.string s] w fun e w' => e = .returned (.bool (actionB s.data.toList)) ∧ Below w.heap.size w w' := by
  have HA : Hid (actionB s.data.toList = (nameB s.data.toList && !(s.toList == [116, 97, 117]))) := by rw [ByteArray.toList_eq]; exact (rfl : _ = _)
  rcases hn : nameB s.data.toList with _ | _
  · go_enter Tryz.func125, Tryz.ntmps125
    go_wp2_with (go_at_call 145; refine (implName_any _ _).mono ?_; rintro e w1 ⟨rfl, hb⟩)
    go_ret
    exact ⟨ret_bool (by rw [HA.out, hn]; rfl), hb⟩
  · go_enter Tryz.func125, Tryz.ntmps125
    go_wp2_with (go_at_call 145; refine (implName_any _ _).mono ?_; rintro e w1 ⟨rfl, hb⟩)
    go_ret
    exact ⟨ret_bool (by rw [HA.out, hn]; rfl), hb⟩
end Go.Proofs.YtbailpfjgjcbdaaGreatDoor
