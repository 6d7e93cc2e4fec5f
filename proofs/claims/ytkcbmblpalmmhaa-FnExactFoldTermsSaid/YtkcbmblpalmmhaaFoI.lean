/- The program's walk over a whole expression from the bottom up, for lists of terms. -/
import Derived.Test.YtkcbmblpalmmhaaProg
import Derived.WalkKit
import Derived.ProofKit
import Derived.OwnWalk
import Derived.OneCell
import Derived.Outline
import Derived.Lib.Hide
import Derived.Test.YtkcbmblpalmmhaaMem
import Derived.Test.YtkcbmblpalmmhaaTmM
import Derived.Test.YtkcbmblpalmmhaaTmW
import Derived.Test.YtkcbmblpalmmhaaTmI
import Derived.Test.YtkcbmblpalmmhaaExM
import Derived.Test.YtkcbmblpalmmhaaRet
import Derived.Test.YtkcbmblpalmmhaaBuildT
import Derived.Test.YtkcbmblpalmmhaaEvN
import Derived.Test.YtkcbmblpalmmhaaEvI
import Derived.Test.YtkcbmblpalmmhaaFoN
namespace Go.Proofs.Ytkcbmblpalmmhaa
open Go.RowKit
set_option maxRecDepth 100000 in
set_option maxHeartbeats 2000000 in
theorem bottomT_any (A : Option Addr) (n c : Nat) (es : List Tm) (fc : FuncId) (F : Ex → List Tm) (hcomp : CompOK fc F) (hent : ∀ (args : Array Value) (w : World), (callFunc fc args).run Try.prog w = .ok (.enter fc args) w) (x : Ex) (w : World) (h : TRow w w.heap.size A es) (l : es.length = n) (hn : n ≤ 60) (hc : n ≤ c) (hx : x.flat = es) (ho : x.ok 29) :
    Calls Try.prog 69 #[.slice A n c, .func (.func fc) #[] #[]] w fun e w' => RetT1 w (F x) e w' := by
  have EV := Lib.hid (fo_all (w.heap.size + 1) (w.heap.size + 2) w.heap.size w.heap.size fc F hcomp hent (by omega) (by omega) (by omega) x ho (by rw [hx, l]; exact hn))
  have L := Lib.hid l
  have HX := Lib.hid hx
  have HH := Lib.hid h
  clear l hx h ho hcomp hent
  go_enter Try.func69, Try.ntmps69
  go_wp2_with fail
  refine (EV.out [] _ ?_ ?_ ?_ ?_).mono ?_
  · exact ⟨A, n, c, (three_blocks w _ _ _).2.1, hc, hn, by rw [List.append_nil, HX.out]; exact L.out, by rw [List.append_nil, HX.out]; exact HH.out.below (below_three w _ _ _)⟩
  · exact (three_blocks w _ _ _).2.2
  · exact (three_blocks w _ _ _).1
  · exact (below_three w _ _ _).size
  · rintro e w' ⟨⟨A5, c5, rfl, ho5⟩, _, hg⟩
    have HG := Lib.hid ((below_three w _ _ _).trans (below_of_grown hg (Nat.le_succ _) (below_three w _ _ _).size))
    have HO := Lib.hid (own_lower ho5 (below_three w _ _ _).size)
    clear hg ho5
    go_wp2
    go_ret
    exact ⟨A5, _, c5, rfl, HO.out, HG.out⟩
end Go.Proofs.Ytkcbmblpalmmhaa
