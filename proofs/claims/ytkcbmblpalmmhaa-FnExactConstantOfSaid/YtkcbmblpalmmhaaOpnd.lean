/- The operands of the first term: the model's and the program's answers are those of one plain function. -/
import Derived.Test.YtkcbmblpalmmhaaProg
import Derived.WalkKit
import Derived.ProofKit
import Derived.Outline
import Derived.Lib.Hide
import Derived.Test.YtkcbmblpalmmhaaMem
import Derived.Test.YtkcbmblpalmmhaaOwn
import Derived.Test.YtkcbmblpalmmhaaTmM
import Derived.Test.YtkcbmblpalmmhaaTmW
import Derived.Test.YtkcbmblpalmmhaaTmV
import Derived.Test.YtkcbmblpalmmhaaTmI
import Derived.Test.YtkcbmblpalmmhaaRet
import Derived.Test.YtkcbmblpalmmhaaApp
import Derived.Test.YtkcbmblpalmmhaaShift
import Derived.Test.YtkcbmblpalmmhaaBuildT
import Derived.Test.YtkcbmblpalmmhaaExM
import Derived.Test.YtkcbmblpalmmhaaCut
import Derived.Test.YtkcbmblpalmmhaaSubM
namespace Go.Proofs.Ytkcbmblpalmmhaa
open Go.RowKit
def RetK2 (w : World) (r : List (List Tm) × Int) (e : Ending) (w' : World) : Prop :=
  ∃ A n c, e = .returned (.tuple #[.slice A n c, .int .i64 r.2]) ∧ OwnTT w' w.heap.size w'.heap.size A n c r.1 ∧ Below w.heap.size w w'
theorem RetK2.nil {w w' : World} {code : Int} {r : List (List Tm) × Int} (hr : r = ([], code)) (hb : Below w.heap.size w w') : RetK2 w r (.returned (.tuple #[.slice none 0 0, .int .i64 code])) w' := by
  subst hr
  exact ⟨none, 0, 0, rfl, OwnTT.nil _ _ _, hb⟩
theorem RetK2.mk' {w w' : World} {c : Int} {xss : List (List Tm)} {v : Value} {r : List (List Tm) × Int} (hr : r = (xss, c)) (hv : BuildT w' w.heap.size v xss) (hb : Below w.heap.size w w') : RetK2 w r (.returned (.tuple #[v, .int .i64 c])) w' := by
  subst hr
  obtain ⟨A, cc, rfl, h⟩ := hv.done
  exact ⟨A, _, cc, rfl, h, hb⟩
def lenOf : Value → Nat | .slice _ n _ => n | _ => 0
theorem BuildT.lower {w : World} {lo lo' : Nat} {v : Value} {xss : List (List Tm)} (h : BuildT w lo v xss) (h1 : lo' ≤ lo) : BuildT w lo' v xss := by
  obtain ⟨G, C, h2, h3⟩ := h
  exact ⟨G, C, own_lower h2 h1, ⟨fun i hi => (h3.own i hi).wide h1 (Nat.le_refl _), h3.one⟩⟩
theorem own_len {w : World} {base : Nat} {T : TypeId} {n : Nat} {v : Value} {es : List Tm} (h : w.ownsRow base T 2 v n (tvs es)) : es.length = n := by
  have h1 := h.1
  rw [tvs_length] at h1
  omega
theorem cell_first (w : World) (v : Value) (T : TypeId) : (w.alloc (.cells #[v] T)).cell? ⟨w.heap.size, 0, none⟩ = some v := by
  have := cell_of_row (w.alloc (.cells #[v] T)) w.heap.size 0 #[v] T (0, 0) (heap_alloc_new w _)
  rw [this]; simp
theorem cutA_at {b o c k : Nat} (h : c ≠ k) : cutA (some ⟨b, o, none⟩) c k = some ⟨b, o + k * 2, none⟩ := by
  unfold cutA
  rw [if_neg h]
  show some ((⟨b, o, none⟩ : Addr).add (k * 2)) = _
  rw [addLit]
end Go.Proofs.Ytkcbmblpalmmhaa
