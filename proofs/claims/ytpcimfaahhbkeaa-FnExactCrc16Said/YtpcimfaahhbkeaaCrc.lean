/- The check value's functions, each by its contract: impl and spec compute the same plain function. -/
import Derived.Test.YtpcimfaahhbkeaaProg
import Derived.WalkKit
import Derived.ProofKit
import Derived.Lib.Hide
import Derived.Test.YtpcimfaahhbkeaaCrcM
import Derived.Test.YtpcimfaahhbkeaaMem
import Derived.Test.YtpcimfaahhbkeaaL00
namespace Go.Proofs.Ytpcimfaahhbkeaa
open Go.RowKit
theorem crcDbls_yes {k : Nat} {x : Int} (h : 65535 < crcDbls k x * 2) : crcDbls (k + 1) x = bits .xor .i64 (bits .and .i64 (crcDbls k x * 2) 65535) 4129 := by
  show crcDbl _ = _; unfold crcDbl; rw [if_pos h]
theorem crcDbls_no {k : Nat} {x : Int} (h : ¬ 65535 < crcDbls k x * 2) : crcDbls (k + 1) x = crcDbls k x * 2 := by
  show crcDbl _ = _; unfold crcDbl; rw [if_neg h]
set_option maxHeartbeats 400000 in
theorem crcByte_any (c : Int) (b : UInt8) (h0 : 0 ≤ c) (h1 : c ≤ 65535) (w : World) :
    Calls Try.prog 32 #[.int .i64 c, .int .u8 b.toNat] w fun e w' => e = .returned (.int .i64 (crcB c b)) ∧ w = w' := by
  have hx := crcX_bd c b h0 h1
  have hb := b.toNat_lt
  unfold crcB
  go_enter Try.func32, Try.ntmps32
  go_wp2
  go_loop [0, 10] (fun t i => ∃ k : Nat, k ≤ 8 ∧ i = .int .i64 k ∧ t = .int .i64 (crcDbls k (bits .xor .i64 c ((b.toNat : Int) * 256)))) (fun _ i => 8 - (intOf i).toNat)
  case atStart => exact ⟨0, Nat.zero_le _, rfl, rfl⟩
  case round =>
    obtain ⟨k, hk, rfl, rfl⟩ := hrel
    have hd := crcDbls_bd k _ hx.1 hx.2
    by_cases hlt : k < 8
    · by_cases hg : 65535 < crcDbls k (bits .xor .i64 c ((b.toNat : Int) * 256)) * 2
      · have HS := Lib.hid (crcDbls_yes hg)
        go_wp2
        go_round
        case rel => exact ⟨k + 1, by omega, by go_num, by rw [HS.out]⟩
        case measure => simp [intOf]; omega
      · have HS := Lib.hid (crcDbls_no hg)
        go_wp2
        go_round
        case rel => exact ⟨k + 1, by omega, by go_num, by rw [HS.out]⟩
        case measure => simp [intOf]; omega
    · have h8 : 8 ≤ k := by omega
      go_wp2
      go_ret
      obtain rfl : k = 8 := by omega
      exact ⟨rfl, rfl⟩
set_option maxHeartbeats 400000 in
theorem specCrc_any (s : ByteArray) (c : Int) (hs : s.size ≤ maxLen) (h0 : 0 ≤ c) (h1 : c ≤ 65535) (w : World) :
    Calls Try.prog 31 #[.string s, .int .i64 c] w fun e w' => e = .returned (.int .i64 (crcL s.data.toList c)) ∧ w = w' := by
  unfold maxLen at hs
  go_enter Try.func31, Try.ntmps31
  go_wp2
  go_loop [1, 5, 6] (fun t i _ => ∃ k : Nat, k ≤ s.size ∧ i = .int .i64 k ∧ t = .int .i64 (crcL (s.data.toList.take k) c)) (fun _ i _ => s.size - (intOf i).toNat)
  case atStart => exact ⟨0, Nat.zero_le _, rfl, rfl⟩
  case round =>
    obtain ⟨k, hk, rfl, rfl⟩ := hrel
    have hd := crcL_bd (s.data.toList.take k) c h0 h1
    by_cases hlt : k < s.size
    · have hb := (s[k]).toNat_lt
      have hx := crcX_bd _ s[k] hd.1 hd.2
      have HT := Lib.hid (take_snoc s k hlt)
      go_wp2
      go_loop [1, 6] (fun t i => ∃ j : Nat, j ≤ 8 ∧ i = .int .i64 j ∧ t = .int .i64 (crcDbls j (bits .xor .i64 (crcL (s.data.toList.take k) c) ((s[k].toNat : Int) * 256)))) (fun _ i => 8 - (intOf i).toNat)
      case atStart => exact ⟨0, Nat.zero_le _, rfl, rfl⟩
      case round =>
        obtain ⟨j, hj, rfl, rfl⟩ := hrel
        have hd2 := crcDbls_bd j _ hx.1 hx.2
        by_cases hlt2 : j < 8
        · by_cases hg : 65535 < crcDbls j (bits .xor .i64 (crcL (s.data.toList.take k) c) ((s[k].toNat : Int) * 256)) * 2
          · have HS := Lib.hid (crcDbls_yes hg)
            go_wp2
            go_round
            case rel => exact ⟨j + 1, by omega, by go_num, by rw [HS.out]⟩
            case measure => simp [intOf]; omega
          · have HS := Lib.hid (crcDbls_no hg)
            go_wp2
            go_round
            case rel => exact ⟨j + 1, by omega, by go_num, by rw [HS.out]⟩
            case measure => simp [intOf]; omega
        · have h8 : 8 ≤ j := by omega
          go_wp2
          obtain rfl : j = 8 := by omega
          go_round
          case rel => exact ⟨k + 1, by omega, by go_num, by rw [HT.out, crcL_snoc]; rfl⟩
          case measure => simp [intOf]; omega
    · go_wp2
      go_ret
      exact ⟨ret_int (by rw [List.take_of_length_le (by simp; omega)]), rfl⟩
set_option maxHeartbeats 400000 in
theorem crcLoop_any (s : ByteArray) (c : Int) (hs : s.size ≤ maxLen) (h0 : 0 ≤ c) (h1 : c ≤ 65535) (w : World) :
    Calls Try.prog 16 #[.string s, .int .i64 c] w fun e w' => e = .returned (.int .i64 (crcL s.data.toList c)) ∧ w = w' := by
  unfold maxLen at hs
  go_enter Try.func16, Try.ntmps16
  go_wp2
  go_loop [5, 6, 16] (fun t _ i => ∃ k : Nat, k ≤ s.size ∧ i = .int .i64 k ∧ t = .int .i64 (crcL (s.data.toList.take k) c)) (fun _ _ i => s.size - (intOf i).toNat)
  case atStart => exact ⟨0, Nat.zero_le _, rfl, rfl⟩
  case round =>
    obtain ⟨k, hk, rfl, rfl⟩ := hrel
    have hd := crcL_bd (s.data.toList.take k) c h0 h1
    by_cases hlt : k < s.size
    · have HT := Lib.hid (take_snoc s k hlt)
      go_wp2_with (go_at_call 32; refine (crcByte_any _ _ hd.1 hd.2 _).mono ?_; rintro e w' ⟨rfl, rfl⟩)
      go_round
      case rel => exact ⟨k + 1, by omega, by go_num, by rw [HT.out, crcL_snoc]⟩
      case measure => simp [intOf]; omega
    · go_wp2
      go_ret
      exact ⟨ret_int (by rw [List.take_of_length_le (by simp; omega)]), rfl⟩
theorem crcOut_any (s : ByteArray) (c : Int) (h : c < 0 ∨ 65535 < c) (w : World) :
    Calls Try.prog 16 #[.string s, .int .i64 c] w fun e w' => e = .returned (.int .i64 0) ∧ w = w' := by
  rcases h with h | h
  · go_enter Try.func16, Try.ntmps16
    go_wp2
    go_ret
    exact ⟨rfl, rfl⟩
  · have h' : ¬ c < 0 := by omega
    go_enter Try.func16, Try.ntmps16
    go_wp2
    go_ret
    exact ⟨rfl, rfl⟩
theorem specCrc16_in (s : ByteArray) (c : Int) (hs : s.size ≤ maxLen) (h0 : 0 ≤ c) (h1 : c ≤ 65535) (w : World) :
    Calls Try.prog 15 #[.string s, .int .i64 c] w fun e w' => e = .returned (.int .i64 (crcL s.data.toList c)) ∧ w = w' := by
  go_enter Try.func15, Try.ntmps15
  go_wp2_with (first | (go_at_call 30; refine (l00In_yes _ _ _ ⟨h0, h1⟩ _).mono ?_; rintro e w' ⟨rfl, rfl⟩) | (go_at_call 31; refine (specCrc_any s c hs h0 h1 _).mono ?_; rintro e w' ⟨rfl, rfl⟩))
  go_ret
  exact ⟨rfl, rfl⟩
theorem specCrc16_out (s : ByteArray) (c : Int) (h : c < 0 ∨ 65535 < c) (w : World) :
    Calls Try.prog 15 #[.string s, .int .i64 c] w fun e w' => e = .returned (.int .i64 0) ∧ w = w' := by
  go_enter Try.func15, Try.ntmps15
  go_wp2_with (go_at_call 30; refine (l00In_no _ _ _ h _).mono ?_; rintro e w' ⟨rfl, rfl⟩)
  go_ret
  exact ⟨rfl, rfl⟩
end Go.Proofs.Ytpcimfaahhbkeaa
