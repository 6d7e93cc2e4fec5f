/- The text of a mark: the letter m and decimal digits. -/
import Derived.Test.YtjnmndjhlllfkaaOwnR
namespace Go.Proofs.Ytjnmndjhlllfkaa
open Go.RowKit
/-- The decimal digits of n, at most f of them. -/
def dgs : Nat → Nat → List UInt8
  | 0, _ => []
  | f + 1, n => if n = 0 then [] else dgs f (n / 10) ++ [UInt8.ofNat (48 + n % 10)]
theorem dgs_zero : ∀ f, dgs f 0 = [] := by intro f; cases f <;> simp [dgs]
theorem dgs_len : ∀ f n, (dgs f n).length ≤ f := by
  intro f
  induction f with
  | zero => intro n; simp [dgs]
  | succ f ih =>
    intro n
    have := ih (n / 10)
    unfold dgs
    split
    · simp
    · rw [List.length_append]; simpa using this
theorem dgs_step {f n : Nat} (h : 0 < n) : dgs (f + 1) n = dgs f (n / 10) ++ [UInt8.ofNat (48 + n % 10)] := by
  conv => lhs; unfold dgs
  rw [if_neg (by omega)]
def mkT (k : Int) : ByteArray := ⟨(109 :: dgs 20 k.toNat).toArray⟩
theorem mkT_size (k : Int) : (mkT k).size ≤ 21 := by
  have := dgs_len 20 k.toNat
  show (109 :: dgs 20 k.toNat).toArray.size ≤ 21
  simpa using this
def intM : Mk Int := ⟨fun k _ => k, fun _ => 1⟩
def txtM : Mk ByteArray := ⟨fun k _ => mkT k, fun _ => 1⟩
def tmM : Mk Tm := ⟨fun k _ => ⟨k, k + 1⟩, fun _ => 2⟩
def mtM : Mk Mt := ⟨fun k _ => ⟨mkT k, mkT (k + 1), mkT (k + 1 + 1)⟩, fun _ => 3⟩
def cpM : Mk Cp := ⟨fun k x => ⟨k, mkL intM (k + 1) x.vs⟩, fun x => 1 + cntL intM x.vs⟩
def ptM : Mk Pt := ⟨fun k x => ⟨k, k + 1, mkT (k + 1 + 1), mkL (listM tmM) (k + 1 + 1 + 1) x.args⟩, fun x => 3 + cntL (listM tmM) x.args⟩
def dfM : Mk Df := ⟨fun k x => ⟨mkT k, k + 1, mkL ptM (k + 1 + 1) x.body⟩, fun x => 2 + cntL ptM x.body⟩
end Go.Proofs.Ytjnmndjhlllfkaa
