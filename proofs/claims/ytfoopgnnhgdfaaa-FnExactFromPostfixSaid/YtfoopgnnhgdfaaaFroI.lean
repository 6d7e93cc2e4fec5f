/- From postfix forms: the program's answer is that of the plain function. -/
import Derived.Test.YtfoopgnnhgdfaaaProg
import Derived.WalkKit
import Derived.ProofKit
import Derived.OwnWalk
import Derived.Outline
import Derived.Lib.Hide
import Derived.Test.YtfoopgnnhgdfaaaMem
import Derived.Test.YtfoopgnnhgdfaaaOwn
import Derived.Test.YtfoopgnnhgdfaaaTmM
import Derived.Test.YtfoopgnnhgdfaaaTmW
import Derived.Test.YtfoopgnnhgdfaaaTmI
import Derived.Test.YtfoopgnnhgdfaaaRet
import Derived.Test.YtfoopgnnhgdfaaaApp
import Derived.Test.YtfoopgnnhgdfaaaShift
import Derived.Test.YtfoopgnnhgdfaaaBuildT
import Derived.Test.YtfoopgnnhgdfaaaConc
import Derived.Test.YtfoopgnnhgdfaaaJoin
import Derived.Test.YtfoopgnnhgdfaaaExM
import Derived.Test.YtfoopgnnhgdfaaaStk
import Derived.Test.YtfoopgnnhgdfaaaStkM
import Derived.Test.YtfoopgnnhgdfaaaPostI
import Derived.Test.YtfoopgnnhgdfaaaFroM
import Derived.Test.YtfoopgnnhgdfaaaRev
namespace Go.Proofs.Ytfoopgnnhgdfaaa
open Go.RowKit
set_option maxRecDepth 100000 in
set_option maxHeartbeats 1000000 in
theorem backwards_any (A : Option Addr) (n c : Nat) (es : List Tm) (w : World) (B : Nat) (h : TRow w B A es) (hB : B ≤ w.heap.size) (l : es.length = n) (m : n ≤ 2000000) :
    Calls Try.prog 89 #[.slice A n c] w fun e w' => RetT1 w es.reverse e w' := by
  have C := Lib.hid (clone_any A n c es w B h hB l m)
  have L := Lib.hid l
  clear h l
  go_enter Try.func89, Try.ntmps89
  go_wp2_with (first
    | (go_at_call 80; refine (C.out).mono ?_; rintro e w1 ⟨A1, n1, c1, rfl, ho1, hb1⟩; have CR := Lib.hid (reverse_any A1 n1 c1 es w1 w.heap.size ho1 (by have h1 := own_lenJ ho1; have h2 := L.out; omega)); have HB1 := Lib.hid hb1; have HO1 := Lib.hid ho1; clear ho1 hb1)
    | (go_at_call 107; refine (CR.out).mono ?_; rintro e w2 ⟨rfl, ho2, hg2⟩; have HO2 := Lib.hid ho2; have HB2 := Lib.hid (HB1.out.grown hg2 HB1.out.size (fun g e => (HO1.out.lt g e).1)); clear ho2 hg2))
  go_ret
  exact ⟨A1, n1, c1, rfl, HO2.out, HB2.out⟩
set_option maxRecDepth 100000 in
set_option maxHeartbeats 1000000 in
theorem prefixOf_any (A : Option Addr) (n c : Nat) (es rs zs : List Tm) (x : Ex) (w : World) (B : Nat) (h : TRow w B A es) (hB : B ≤ w.heap.size) (l : es.length = n) (hn : n ≤ 60) (hrs : rs = es.reverse) (hx : x.flat = rs) (ho : x.ok 29) (hz : zs = (postX x).reverse) :
    Calls Try.prog 90 #[.slice A n c] w fun e w' => RetT1 w zs e w' := by
  have C := Lib.hid (backwards_any A n c es w B h hB l (by omega))
  rw [← hrs] at C
  have hrl : rs.length = n := by rw [hrs, List.length_reverse]; exact l
  have CP := Lib.hid (fun (A1 : Option Addr) (n1 c1 : Nat) (w1 : World) (ho1 : w1.ownsRow w.heap.size 77 2 (.slice A1 n1 c1) n1 (tvs rs)) => postfixOf_any A1 n1 c1 rs x w1 (Row.of_own2 ho1) (own_lenJ ho1) (by have := own_lenJ ho1; omega) (own_capK ho1) hx ho)
  have CR := Lib.hid (fun (A2 : Option Addr) (n2 c2 : Nat) (w1 w2 : World) (ho2 : w2.ownsRow w1.heap.size 77 2 (.slice A2 n2 c2) n2 (tvs (postX x))) => backwards_any A2 n2 c2 (postX x) w2 w2.heap.size (Row.of_own2 ho2) (Nat.le_refl _) (own_lenJ ho2) (by have := own_lenJ ho2; rw [postX_len, hx, hrl] at this; omega))
  have HZ := Lib.hid hz
  generalize hps : postX x = ps at *
  clear h l hrs hx ho hz hps hrl
  go_enter Try.func90, Try.ntmps90
  go_wp2_with fail
  refine (C.out).mono ?_
  rintro e w1 ⟨A1, n1, c1, rfl, ho1, hb1⟩
  have CP1 := Lib.hid (CP.out A1 n1 c1 w1 ho1)
  have HB1 := Lib.hid hb1
  clear ho1 hb1
  go_wp2_with fail
  refine (CP1.out).mono ?_
  rintro e w2 ⟨A2, n2, c2, rfl, ho2, hb2⟩
  have CR2 := Lib.hid (CR.out A2 n2 c2 w1 w2 ho2)
  have HB2 := Lib.hid (HB1.out.trans (hb2.mono HB1.out.size))
  clear ho2 hb2
  go_wp2_with fail
  refine (CR2.out).mono ?_
  rintro e w3 ⟨A3, n3, c3, rfl, ho3, hb3⟩
  rw [← HZ.out] at ho3
  have HO3 := Lib.hid (own_lower ho3 HB2.out.size)
  have HB3 := Lib.hid (HB2.out.trans (hb3.mono HB2.out.size))
  clear ho3 hb3
  go_wp2
  go_ret
  exact ⟨A3, n3, c3, rfl, HO3.out, HB3.out⟩
set_option maxRecDepth 100000 in
set_option maxHeartbeats 1000000 in
theorem implFrom_any (A : Option Addr) (n c : Nat) (es : List Tm) (w : World) (T : TypeId) (lo hi : Nat) (h : OwnV w lo hi T 2 A n c (tvs es)) (hB : hi ≤ w.heap.size) (l : es.length = n) (m : n ≤ 2000000) :
    Calls Try.prog 54 #[.slice A n c] w fun e w' => RetT2 w (fromR es) e w' := by
  have hrow := h.trow.more hB
  clear h hB
  have C := Lib.hid (backwards_any A n c es w w.heap.size hrow (Nat.le_refl _) l m)
  have L := Lib.hid l
  have CP := Lib.hid (fun (w1 : World) (hb1 : Below w.heap.size w w1) (hv : exB 29 60 es.reverse = true) => prefixOf_any A n c es es.reverse _ (treeOf es.reverse) w1 w.heap.size (hrow.below hb1) hb1.size l (by have := (exB_scan hv).2; rw [List.length_reverse, l] at this; omega) rfl (treeOf_ok hv).1 (treeOf_ok hv).2 rfl)
  clear l hrow
  go_enter Try.func54, Try.ntmps54
  go_wp2_with fail
  refine (C.out).mono ?_
  rintro e w1 ⟨A1, n1, c1, rfl, ho1, hb1⟩
  have hn1 := own_lenJ ho1
  have CE := Lib.hid (isEx_any A1 n1 c1 es.reverse w1 w1.heap.size (Row.of_own2 ho1) (Nat.le_refl _) hn1 (by rw [List.length_reverse, L.out] at hn1; omega))
  have HB1 := Lib.hid hb1
  clear ho1 hb1 hn1
  rcases hv : exB 29 60 es.reverse with _ | _
  · have HV := Lib.hid hv
    have H := Lib.hid (fromR_no hv)
    clear hv
    go_wp2_with (go_at_call 62; refine (CE.out).mono ?_; rw [HV.out]; rintro e w2 ⟨rfl, hb2⟩; have HB2 := Lib.hid (HB1.out.trans (hb2.mono HB1.out.size)); clear hb2)
    go_ret2
    exact RetT2.nil H.out HB2.out
  · have HV := Lib.hid hv
    have H := Lib.hid (fromR_yes hv)
    clear hv
    go_wp2_with (first
      | (go_at_call 62; refine (CE.out).mono ?_; rw [HV.out]; rintro e w2 ⟨rfl, hb2⟩; have HB2 := Lib.hid (HB1.out.trans (hb2.mono HB1.out.size)); have CP2 := Lib.hid (CP.out w2 HB2.out HV.out); clear hb2)
      | (go_at_call 90; refine (CP2.out).mono ?_; rintro e w3 ⟨A3, n3, c3, rfl, ho3, hb3⟩; have HO3 := Lib.hid (own_lower ho3 HB2.out.size); have HB3 := Lib.hid (HB2.out.trans (hb3.mono HB2.out.size)); clear ho3 hb3))
    go_ret2
    exact RetT2.mk' H.out HO3.out HB3.out
end Go.Proofs.Ytfoopgnnhgdfaaa
