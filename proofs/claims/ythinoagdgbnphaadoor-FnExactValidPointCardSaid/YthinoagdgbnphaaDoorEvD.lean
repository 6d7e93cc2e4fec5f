/- Whether all values are within bounds: the model. -/
import Derived.Test.YthinoagdgbnphaaDoorProg
import Derived.WalkKit
import Derived.ProofKit
import Derived.Lib.Hide
import Derived.Test.YthinoagdgbnphaaDoorMem
import Derived.Test.YthinoagdgbnphaaDoorL00
import Derived.Test.YthinoagdgbnphaaDoorEvM
namespace Go.Proofs.YthinoagdgbnphaaDoor
open Go.RowKit
set_option maxHeartbeats 1000000 in
theorem l03Data_any (A : Option Addr) (n c : Nat) (vals : List Int) (w : World) (B : Nat) (h : IRow w B A vals) (l : vals.length = n) (m : n ≤ 2000000) :
    Calls Tryd.prog 27 #[.slice A n c] w fun e w' => e = .returned (.bool (dataB vals)) ∧ w = w' := by
  have L := Lib.hid l
  clear l
  go_enter Tryd.func27, Tryd.ntmps27
  go_wp2
  go_loop [3] (fun i => ∃ k : Nat, k ≤ n ∧ i = .int .i64 k ∧ Hid (∀ v ∈ vals.take k, 0 ≤ v ∧ v ≤ 63)) (fun i => n - (intOf i).toNat)
  case atStart => exact ⟨0, Nat.zero_le _, rfl, by rw [List.take_zero]; exact Lib.hid (by simp)⟩
  case round =>
    obtain ⟨k, hk, rfl, HS⟩ := hrel
    by_cases hlt : k < n
    · obtain ⟨b, o, u, rfl, hb, hc, hu⟩ := h.at_ (k := k) (by rw [L.out]; exact hlt)
      by_cases hd : 0 ≤ u ∧ u ≤ 63
      · have HN := Lib.hid (show ∀ v ∈ vals.take (k + 1), 0 ≤ v ∧ v ≤ 63 by
          rw [take_one _ _ _ hu.out]
          intro v hv
          rcases List.mem_append.1 hv with hv | hv
          · exact HS.out v hv
          · rw [List.mem_singleton] at hv; subst hv; exact hd)
        go_wp2_with (go_at_call 24; refine (l00In_yes _ _ _ hd _).mono ?_; rintro e w' ⟨rfl, rfl⟩)
        go_round
        case rel => exact ⟨k + 1, by omega, by go_num, HN⟩
        case measure => simp [intOf]; omega
      · have hd' : u < 0 ∨ 63 < u := by omega
        have H := Lib.hid (dataB_no hu.out hd')
        clear hd
        go_wp2_with (go_at_call 24; refine (l00In_no _ _ _ hd' _).mono ?_; rintro e w' ⟨rfl, rfl⟩)
        go_ret
        exact ⟨ret_bool H.out.symm, rfl⟩
    · have H := Lib.hid (dataB_all (vals := vals) (by have := HS.out; rwa [List.take_of_length_le (by rw [L.out]; omega)] at this))
      go_wp2
      go_ret
      exact ⟨ret_bool H.out.symm, rfl⟩
end Go.Proofs.YthinoagdgbnphaaDoor
