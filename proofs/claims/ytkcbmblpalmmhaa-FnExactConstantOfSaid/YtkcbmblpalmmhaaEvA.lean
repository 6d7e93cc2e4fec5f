/- Evaluating an expression: whether all values are within bounds, and one operation's value, as the program computes them. -/
import Derived.Test.YtkcbmblpalmmhaaProg
import Derived.WalkKit
import Derived.ProofKit
import Derived.BigQuiet
import Derived.Deep.QuietTactic
import Derived.Outline
import Derived.Lib.Hide
import Derived.Test.YtkcbmblpalmmhaaMem
import Derived.Test.YtkcbmblpalmmhaaTmM
import Derived.Test.YtkcbmblpalmmhaaTmI
import Derived.Test.YtkcbmblpalmmhaaOpr
import Derived.Test.YtkcbmblpalmmhaaExM
import Derived.Test.YtkcbmblpalmmhaaEvM
namespace Go.Proofs.Ytkcbmblpalmmhaa
open Go.RowKit
/-- Where the first value outside bounds stands; -1 if there is none. -/
def IdxPost (vals : List Int) (w : World) (e : Ending) (w' : World) : Prop := ∃ r : Int, e = .returned (.int .i64 r) ∧ (dataB vals = true → r = -1) ∧ (dataB vals = false → 0 ≤ r) ∧ w = w'
set_option maxHeartbeats 1000000 in
theorem indexF_any (A : Option Addr) (n c : Nat) (vals : List Int) (w : World) (B : Nat) (h : IRow w B A vals) (l : vals.length = n) (m : n ≤ 2000000) :
    Calls Try.prog 64 #[.slice A n c, .func (.func 41) #[] #[]] w (IdxPost vals w) := by
  have L := Lib.hid l
  clear l
  go_enter Try.func64, Try.ntmps64
  go_wp2
  go_loop [8] (fun i => ∃ k : Nat, k ≤ n ∧ i = .int .i64 k ∧ Hid (∀ v ∈ vals.take k, 0 ≤ v ∧ v ≤ 63)) (fun i => n - (intOf i).toNat)
  case atStart => exact ⟨0, Nat.zero_le _, rfl, by rw [List.take_zero]; exact Lib.hid (by simp)⟩
  case round =>
    obtain ⟨k, hk, rfl, HS⟩ := hrel
    by_cases hlt : k < n
    · obtain ⟨b, o, u, rfl, hb, hc, hu⟩ := h.at_ (k := k) (by rw [L.out]; exact hlt)
      by_cases hd : 0 ≤ u ∧ u ≤ 63
      · have HN := Lib.hid (show ∀ v ∈ vals.take (k + 1), 0 ≤ v ∧ v ≤ 63 by
          rw [take_one _ _ _ hu.out]
          intro v hv
          rcases List.mem_append.1 hv with hv | hv
          · exact HS.out v hv
          · rw [List.mem_singleton] at hv; subst hv; exact hd)
        go_wp2_with (go_at_call 41; refine (outM_no _ hd _).mono ?_; rintro e w' ⟨rfl, rfl⟩)
        go_round
        case rel => exact ⟨k + 1, by omega, by go_num, HN⟩
        case measure => simp [intOf]; omega
      · have hd' : u < 0 ∨ 63 < u := by omega
        have H : IdxPost vals w (.returned (.int .i64 (k : Int))) w := by
          refine ⟨k, rfl, fun e => ?_, fun _ => by omega, rfl⟩
          rw [dataB_no hu.out hd'] at e; cases e
        clear hd
        go_wp2_with (go_at_call 41; refine (outM_yes _ hd' _).mono ?_; rintro e w' ⟨rfl, rfl⟩)
        go_ret
        exact H
    · have H : IdxPost vals w (.returned (.int .i64 (-1))) w := by
        have hA := dataB_all (vals := vals) (by have := HS.out; rwa [List.take_of_length_le (by rw [L.out]; omega)] at this)
        refine ⟨-1, rfl, fun _ => rfl, fun e => ?_, rfl⟩
        rw [hA] at e; cases e
      go_wp2
      go_ret
      exact H
theorem containsF_any (A : Option Addr) (n c : Nat) (vals : List Int) (w : World) (B : Nat) (h : IRow w B A vals) (l : vals.length = n) (m : n ≤ 2000000) :
    Calls Try.prog 40 #[.slice A n c, .func (.func 41) #[] #[]] w fun e w' => e = .returned (.bool (!dataB vals)) ∧ w = w' := by
  have C := Lib.hid (indexF_any A n c vals w B h l m)
  clear l
  rcases hd : dataB vals with _ | _
  · have HD := Lib.hid hd
    clear hd
    go_enter Try.func40, Try.ntmps40
    go_wp2_with (go_at_call 64; refine (C.out).mono ?_; rintro e w' ⟨r, rfl, _, h2, rfl⟩; have hr := h2 HD.out; clear h2)
    go_ret
    exact ⟨rfl, rfl⟩
  · have HD := Lib.hid hd
    clear hd
    go_enter Try.func40, Try.ntmps40
    go_wp2_with (go_at_call 64; refine (C.out).mono ?_; rintro e w' ⟨r, rfl, h1, _, rfl⟩; obtain rfl := h1 HD.out)
    go_ret
    exact ⟨rfl, rfl⟩
end Go.Proofs.Ytkcbmblpalmmhaa
