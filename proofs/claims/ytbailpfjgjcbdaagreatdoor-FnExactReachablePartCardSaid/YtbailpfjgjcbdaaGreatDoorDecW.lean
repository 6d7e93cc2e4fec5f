/- The decimal form of a number: the program's is the model's, whatever the number. -/
import Derived.Test.YtbailpfjgjcbdaaGreatDoorDec
import Derived.Test.YtbailpfjgjcbdaaGreatDoorDecI
import Derived.Lib.AppendIntMem
import Derived.Shelf.Unicode.PredsPay
namespace Go.Proofs.YtbailpfjgjcbdaaGreatDoor
open Go.RowKit Go.Lib
def Pow10 (w : World) : Prop := TabIs Tryz.prog w "internal/strconv.uint64pow10" .u64 pow10Tab
theorem Pow10.below {w w' : World} (h : Pow10 w) (hb : Below w.heap.size w w') : Pow10 w' := TabIs_below (g := 3) (by kernel_rfl) h hb
theorem implDecimal_any (n : Int) (w : World) (h0 : -9223372036854775808 ≤ n) (h1 : n ≤ 9223372036854775807) (ht : Pow10 w) :
    Calls Tryz.prog 143 #[.int .i64 n] w fun e w' => e = .returned (.string ⟨(itoa n).toArray⟩) ∧ Below w.heap.size w w' := by
  have HT := Lib.hid ht
  clear ht
  go_enter Tryz.func143, Tryz.ntmps143
  go_wp2_with fail
  refine (Tryz.formatInt n h0 h1 w HT.out).mono ?_; rintro e w1 ⟨rfl, k, os, hw⟩
  have HB := Lib.hid (show Below w.heap.size w w1 by rw [hw]; exact below_grow _ w (Nat.le_refl _) k os)
  clear hw
  go_wp2
  go_ret
  exact ⟨rfl, HB.out⟩
end Go.Proofs.YtbailpfjgjcbdaaGreatDoor
