/- Words for what a call hands back: a list of numbers, or of terms, of its own, and a code. -/
import Derived.Test.YtjnmndjhlllfkaaProg
import Derived.WalkKit
import Derived.ProofKit
import Derived.Test.YtjnmndjhlllfkaaMem
import Derived.Test.YtjnmndjhlllfkaaOwn
import Derived.Test.YtjnmndjhlllfkaaTmM
import Derived.Test.YtjnmndjhlllfkaaTmW
namespace Go.Proofs.Ytjnmndjhlllfkaa
open Go.RowKit
def RetN2 (w : World) (r : List Int × Int) (e : Ending) (w' : World) : Prop :=
  ∃ A n c, e = .returned (.tuple #[.slice A n c, .int .i64 r.2]) ∧ OwnV w' w.heap.size w'.heap.size 2 1 A n c (r.1.map (Value.int .i64)) ∧ Below w.heap.size w w'
theorem RetN2.nil {w w' : World} {code : Int} {r : List Int × Int} (hr : r = ([], code)) (hb : Below w.heap.size w w') : RetN2 w r (.returned (.tuple #[.slice none 0 0, .int .i64 code])) w' := by
  subst hr
  exact ⟨none, 0, 0, rfl, OwnV.mk' (World.ownsRow_nil _ _ _ _), hb⟩
theorem RetN2.mk' {w w' : World} {code : Int} {xs : List Int} {A : Option Addr} {n c : Nat} {r : List Int × Int} (hr : r = (xs, code)) (ho : w'.ownsRow w.heap.size 2 1 (.slice A n c) n (xs.map (Value.int .i64))) (hb : Below w.heap.size w w') : RetN2 w r (.returned (.tuple #[.slice A n c, .int .i64 code])) w' := by
  subst hr
  exact ⟨A, n, c, rfl, OwnV.mk' ho, hb⟩
theorem own_lower {w : World} {lo lo' : Nat} {T : TypeId} {s n : Nat} {v : Value} {vs : List Value} (h : w.ownsRow lo T s v n vs) (h1 : lo' ≤ lo) : w.ownsRow lo' T s v n vs := by
  refine ⟨h.1, ?_⟩
  rcases h.2 with hn | ⟨g, cap, cur, e, hb, rest⟩
  · exact .inl hn
  · exact .inr ⟨g, cap, cur, e, Nat.le_trans h1 hb, rest⟩
theorem own_slice {w : World} {base : Nat} {e : TypeId} {size : Nat} {v : Value} {n : Nat} {xs : List Value} (h : w.ownsRow base e size v n xs) : ∃ A c, v = .slice A n c := by
  rcases h.2 with ⟨rfl, rfl⟩ | ⟨g, cap, cur, rfl, _⟩
  · exact ⟨_, _, rfl⟩
  · exact ⟨_, _, rfl⟩
end Go.Proofs.Ytjnmndjhlllfkaa
