/- Moving the variables of an expression: the model's and the program's answers are those of one plain function. -/
import Derived.Test.YtkcbmblpalmmhaaProg
import Derived.WalkKit
import Derived.ProofKit
import Derived.Outline
import Derived.Lib.Hide
import Derived.Test.YtkcbmblpalmmhaaMem
import Derived.Test.YtkcbmblpalmmhaaOwn
import Derived.Test.YtkcbmblpalmmhaaL00
import Derived.Test.YtkcbmblpalmmhaaTmM
import Derived.Test.YtkcbmblpalmmhaaTmW
import Derived.Test.YtkcbmblpalmmhaaTmV
import Derived.Test.YtkcbmblpalmmhaaTmI
import Derived.Test.YtkcbmblpalmmhaaRet
import Derived.Test.YtkcbmblpalmmhaaApp
import Derived.Test.YtkcbmblpalmmhaaShiftM
namespace Go.Proofs.Ytkcbmblpalmmhaa
open Go.RowKit
theorem isEx_any (A : Option Addr) (n c : Nat) (es : List Tm) (w : World) (B : Nat) (h : TRow w B A es) (hB : B ≤ w.heap.size) (l : es.length = n) (m : n ≤ 2000000) :
    Calls Try.prog 44 #[.slice A n c] w fun e w' => e = .returned (.bool (exB 29 60 es)) ∧ Below w.heap.size w w' := by
  have C := Lib.hid (implValid_any A n c es 29 60 w B h hB l m)
  have H := Lib.hid (vtB_yes (vars := 29) (most := 60) (es := es) (by omega))
  clear l
  go_enter Try.func44, Try.ntmps44
  go_wp2_with (go_at_call 42; refine (C.out).mono ?_; rw [H.out]; rintro e w' ⟨rfl, hb⟩)
  go_ret
  exact ⟨rfl, hb⟩
theorem all_snoc {p q : Int} {es : List Tm} {k : Nat} {t : Tm} (hx : es[k]? = some t) (ht : tmB 29 (shT p q t) = true) (h : ∀ u ∈ es.take k, tmB 29 (shT p q u) = true) : ∀ u ∈ es.take (k + 1), tmB 29 (shT p q u) = true := by
  rw [take_one _ _ _ hx]
  intro u hu
  rcases List.mem_append.1 hu with hu | hu
  · exact h u hu
  · rw [List.mem_singleton] at hu; subst hu; exact ht
theorem shiftR_len (es : List Tm) (p q : Int) (h : es.length ≤ 2000000) : (shiftR es p q).1.length ≤ 2000000 := by
  unfold shiftR
  split
  · simp
  · split
    · simp
    · split
      · simp
      · rw [List.length_map]; exact h
end Go.Proofs.Ytkcbmblpalmmhaa
