/- A marked list of numbers turns nothing outside it. -/
import Derived.Test.YtkcbmblpalmmhaaProg
import Derived.WalkKit
import Derived.ProofKit
import Derived.Test.YtkcbmblpalmmhaaMem
import Derived.Test.YtkcbmblpalmmhaaOwn
import Derived.Test.YtkcbmblpalmmhaaTurn
import Derived.Test.YtkcbmblpalmmhaaLawI2
namespace Go.Proofs.Ytkcbmblpalmmhaa
open Go.RowKit
theorem markI_turn {T : TypeId} (A : Option Addr) (n c : Nat) (k0 : Int) (xs : List Int) (w : World) (lo hi : Nat) (h : OwnV w lo hi T 1 A n c (xs.map (Value.int .i64))) (m : n ≤ 2000000) (k1 : 0 ≤ k0) (k2 : k0 ≤ 900000000000000) :
    Calls Try.prog 25 #[.slice A n c, .int .i64 k0] w fun e w' => e = .returned (.int .i64 (k0 + n)) ∧
      OwnV w' lo hi T 1 A n c ((marksI k0 n).map (Value.int .i64)) ∧ Turns lo hi w w' :=
  (markI_own A n c k0 xs w lo hi h m k1 (by omega)).mono fun _ _ ⟨h1, h2, h3⟩ => ⟨h1, h2, Turns.of_grown h3 fun g hg => ⟨(h.own.lt g hg).1, h.top g hg⟩⟩
end Go.Proofs.Ytkcbmblpalmmhaa
