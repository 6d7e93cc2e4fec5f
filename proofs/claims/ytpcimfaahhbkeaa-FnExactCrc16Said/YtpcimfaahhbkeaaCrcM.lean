/- The plain mathematics of the check value: one doubling, eight doublings, a byte, a text; all of it stays between 0 and 65535. -/
import Derived.WalkKit
namespace Go.Proofs.Ytpcimfaahhbkeaa
open Go.RowKit
def crcDbl (x : Int) : Int := if 65535 < x * 2 then bits .xor .i64 (bits .and .i64 (x * 2) 65535) 4129 else x * 2
def crcDbls : Nat → Int → Int
  | 0, x => x
  | n + 1, x => crcDbl (crcDbls n x)
def crcB (c : Int) (b : UInt8) : Int := crcDbls 8 (bits .xor .i64 c ((b.toNat : Int) * 256))
def crcL (l : List UInt8) (c : Int) : Int := l.foldl crcB c

theorem i64_xor_small (a b : Int) (h1 : 0 ≤ a) (h2 : a ≤ 65535) (h3 : 0 ≤ b) (h4 : b ≤ 65535) : 0 ≤ bits .xor .i64 a b ∧ bits .xor .i64 a b ≤ 65535 := by
  obtain ⟨a, rfl⟩ := Int.eq_ofNat_of_zero_le h1
  obtain ⟨b, rfl⟩ := Int.eq_ofNat_of_zero_le h3
  have ha : a < 2 ^ 16 := by omega
  have hb : b < 2 ^ 16 := by omega
  have hx := Nat.xor_lt_two_pow ha hb
  have ha' : a % 2 ^ 64 = a := Nat.mod_eq_of_lt (by omega)
  have hb' : b % 2 ^ 64 = b := Nat.mod_eq_of_lt (by omega)
  have e : bits .xor .i64 (a : Int) (b : Int) = ((a ^^^ b : Nat) : Int) := by
    simp only [bits, BitVec.ofInt_natCast, BitVec.toNat_xor, BitVec.toNat_ofNat]
    show IntKind.i64.wrap (((a % 2 ^ 64) ^^^ (b % 2 ^ 64) : Nat) : Int) = _
    rw [ha', hb']
    rw [IntKind.wrap_i64]; omega
  rw [e]; omega

theorem i64_and_65535 (x : Int) (h1 : 0 ≤ x) (h2 : x ≤ 131070) : bits .and .i64 x 65535 = x % 65536 := by
  have := bits_mask .i64 32 (by decide) (fun n h0 h1 => by rw [IntKind.wrap_i64]; omega) 16 (by decide) x h1 (by omega)
  simpa using this

theorem crcDbl_bd (x : Int) (h1 : 0 ≤ x) (h2 : x ≤ 65535) : 0 ≤ crcDbl x ∧ crcDbl x ≤ 65535 := by
  unfold crcDbl
  split
  · rw [i64_and_65535 _ (by omega) (by omega)]
    exact i64_xor_small _ _ (by omega) (by omega) (by omega) (by omega)
  · omega
theorem crcDbls_bd (n : Nat) (x : Int) (h1 : 0 ≤ x) (h2 : x ≤ 65535) : 0 ≤ crcDbls n x ∧ crcDbls n x ≤ 65535 := by
  induction n with
  | zero => exact ⟨h1, h2⟩
  | succ n ih => exact crcDbl_bd _ ih.1 ih.2
theorem crcX_bd (c : Int) (b : UInt8) (h1 : 0 ≤ c) (h2 : c ≤ 65535) : 0 ≤ bits .xor .i64 c ((b.toNat : Int) * 256) ∧ bits .xor .i64 c ((b.toNat : Int) * 256) ≤ 65535 := by
  have := b.toNat_lt
  exact i64_xor_small _ _ h1 h2 (by omega) (by omega)
theorem crcB_bd (c : Int) (b : UInt8) (h1 : 0 ≤ c) (h2 : c ≤ 65535) : 0 ≤ crcB c b ∧ crcB c b ≤ 65535 := by
  have := crcX_bd c b h1 h2
  exact crcDbls_bd _ _ this.1 this.2
theorem crcL_bd (l : List UInt8) (c : Int) (h1 : 0 ≤ c) (h2 : c ≤ 65535) : 0 ≤ crcL l c ∧ crcL l c ≤ 65535 := by
  induction l generalizing c with
  | nil => exact ⟨h1, h2⟩
  | cons b l ih => have := crcB_bd c b h1 h2; exact ih _ this.1 this.2
theorem crcL_snoc (l : List UInt8) (b : UInt8) (c : Int) : crcL (l ++ [b]) c = crcB (crcL l c) b := by simp [crcL]
end Go.Proofs.Ytpcimfaahhbkeaa
