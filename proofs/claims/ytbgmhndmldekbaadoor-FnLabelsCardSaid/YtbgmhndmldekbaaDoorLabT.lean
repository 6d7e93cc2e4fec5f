/- A small number's digits behind bytes of the call's own: strconv.AppendInt below 100. -/
import Derived.Test.YtbgmhndmldekbaaDoorByR
import Derived.Shelf.Strconv.AppendIntPublic10
import Derived.Test.YtbgmhndmldekbaaDoorMath
import Derived.Shelf.Lay
namespace Go.Proofs
open Go.Shelf
shelf_lay Lays.n283 Nm 283 at Tryd as Tryd.laysSmall
end Go.Proofs
namespace Go.Proofs.YtbgmhndmldekbaaDoor
open Go.RowKit Go.Lib
theorem small_call (u : Nat) (h : u < 100) (w : World) : Calls Tryd.prog 42 #[.int .i64 u] w fun e w' => e = .returned (.string ⟨(decDigits u).toArray⟩) ∧ w' = w :=
  Any.internal_strconv_small Tryd.laysSmall u h w
theorem small_len {u : Nat} (h : u < 100) : (decDigits u).length ≤ 2 := by
  rw [decDigits_length]
  by_cases h10 : u < 10
  · rw [nDigits_small h10]; omega
  · rw [nDigits_big h10, nDigits_small (show u / 10 < 10 by omega)]; omega
set_option maxHeartbeats 1600000 in
set_option maxRecDepth 100000 in
theorem appendUint_small (B u : Nat) (hu : u < 100) (v : Value) (l : List UInt8) (w : World) (hr : BRow w B v l) (hlim : l.length ≤ 1000000) (hB : B ≤ w.heap.size) :
    Calls Tryd.prog 37 #[v, .int .u64 u, .int .i64 10] w fun e w' => ∃ v', e = .returned v' ∧ BRow w' B v' (l ++ decDigits u) ∧ Below B w w' := by
  have HS := Lib.hid (small_len hu)
  have HR := Lib.hid hr
  clear hr
  go_enter Tryd.func37, Tryd.ntmps37
  go_wp2_with (first
    | (go_at_call 42; refine (small_call u hu _).mono ?_; rintro e w' ⟨rfl, rfl⟩)
    | (at_builtin; refine wp_append_text _ rfl _ _ rfl B v l (decDigits u) rfl HR.out rfl (by have := HS.out; omega) hB ?_; intro v' w1 hr1 hb1; have HR1 := Lib.hid hr1; have HB1 := Lib.hid hb1; clear hr1 hb1))
  go_ret
  exact ⟨v', rfl, HR1.out, HB1.out⟩
set_option maxHeartbeats 800000 in
set_option maxRecDepth 100000 in
theorem appendIntIn_small (B u : Nat) (hu : u < 100) (v : Value) (l : List UInt8) (w : World) (hr : BRow w B v l) (hlim : l.length ≤ 1000000) (hB : B ≤ w.heap.size) :
    Calls Tryd.prog 29 #[v, .int .i64 u, .int .i64 10] w fun e w' => ∃ v', e = .returned v' ∧ BRow w' B v' (l ++ decDigits u) ∧ Below B w w' := by
  have HC := Lib.hid (appendUint_small B u hu v l w hr hlim hB)
  clear hr
  go_enter Tryd.func29, Tryd.ntmps29
  go_wp2_with fail
  refine HC.out.mono ?_; rintro e w1 ⟨v', rfl, hr1, hb1⟩
  have HR1 := Lib.hid hr1
  have HB1 := Lib.hid hb1
  clear hr1 hb1
  go_wp2
  go_ret
  exact ⟨v', rfl, HR1.out, HB1.out⟩
set_option maxHeartbeats 800000 in
set_option maxRecDepth 100000 in
theorem appendInt_small (B u : Nat) (hu : u < 100) (v : Value) (l : List UInt8) (w : World) (hr : BRow w B v l) (hlim : l.length ≤ 1000000) (hB : B ≤ w.heap.size) :
    Calls Tryd.prog 19 #[v, .int .i64 u, .int .i64 10] w fun e w' => ∃ v', e = .returned v' ∧ BRow w' B v' (l ++ decDigits u) ∧ Below B w w' := by
  have HC := Lib.hid (appendIntIn_small B u hu v l w hr hlim hB)
  clear hr
  go_enter Tryd.func19, Tryd.ntmps19
  go_wp2_with fail
  refine HC.out.mono ?_; rintro e w1 ⟨v', rfl, hr1, hb1⟩
  have HR1 := Lib.hid hr1
  have HB1 := Lib.hid hb1
  clear hr1 hb1
  go_wp2
  go_ret
  exact ⟨v', rfl, HR1.out, HB1.out⟩
end Go.Proofs.YtbgmhndmldekbaaDoor
