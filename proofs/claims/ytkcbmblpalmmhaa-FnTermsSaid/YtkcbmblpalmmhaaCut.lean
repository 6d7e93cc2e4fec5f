/- Parts of slices of terms: what a slice expression hands back, and what it reads as; where an operation ends. -/
import Derived.Test.YtkcbmblpalmmhaaProg
import Derived.WalkKit
import Derived.ProofKit
import Derived.Outline
import Derived.Lib.Hide
import Derived.Test.YtkcbmblpalmmhaaMem
import Derived.Test.YtkcbmblpalmmhaaOwn
import Derived.Test.YtkcbmblpalmmhaaTmM
import Derived.Test.YtkcbmblpalmmhaaTmW
import Derived.Test.YtkcbmblpalmmhaaTmV
import Derived.Test.YtkcbmblpalmmhaaExM
namespace Go.Proofs.Ytkcbmblpalmmhaa
open Go.RowKit
/-- The address behind k terms. -/
def cutA (A : Option Addr) (c k : Nat) : Option Addr := if c = k then A else A.map (·.add (k * 2))
theorem elem_tms : Try.prog.underlying 24 = some (.slice (Try.prog.elem 24)) := by kernel_rfl
theorem size_tms (w : World) : (sizeOf (Try.prog.elem 24)).run Try.prog w = .ok 2 w := by kernel_rfl
theorem slice_to (A : Option Addr) (n c k : Nat) (hk : k ≤ c) (w : World) : (Instr.slice 24 (.slice A n c) none (some (.int .i64 (k : Int))) none).run Try.prog w = .ok (.slice A k c) w := by
  rw [run_slice_h w 24 A n c elem_tms .i64 (k : Int) (by omega) (by omega), size_tms]
  simp only [Result.andThen_ok, sliced, Int.toNat_natCast, Nat.sub_zero, Nat.zero_mul]
  congr 2
  split
  · rfl
  · cases A with
    | none => rfl
    | some a => simp [Addr.add]
theorem slice_from (A : Option Addr) (n c k : Nat) (hk : k ≤ n) (w : World) : (Instr.slice 24 (.slice A n c) (some (.int .i64 (k : Int))) none none).run Try.prog w = .ok (.slice (cutA A c k) (n - k) (c - k)) w := by
  rw [run_slice_l w 24 A n c elem_tms .i64 (k : Int) (by omega) (by omega), size_tms]
  simp only [Result.andThen_ok, sliced, Int.toNat_natCast]
  rfl
theorem slice_both (A : Option Addr) (n c k j : Nat) (hk : k ≤ j) (hj : j ≤ c) (w : World) : (Instr.slice 24 (.slice A n c) (some (.int .i64 (k : Int))) (some (.int .i64 (j : Int))) none).run Try.prog w = .ok (.slice (cutA A c k) (j - k) (c - k)) w := by
  rw [run_slice_lh w 24 A n c elem_tms .i64 .i64 (k : Int) (j : Int) (by omega) (by omega) (by omega), size_tms]
  simp only [Result.andThen_ok, sliced, Int.toNat_natCast]
  rfl
theorem TRow.take {w : World} {B : Nat} {A : Option Addr} {es : List Tm} (h : TRow w B A es) (k : Nat) : TRow w B A (es.take k) := by
  intro hp
  rw [← tvs_take] at hp ⊢
  obtain ⟨b, off, e, hb, hc⟩ := h (by rw [List.length_take] at hp; omega)
  refine ⟨b, off, e, hb, fun i v hv => hc i v ?_⟩
  rw [List.getElem?_take] at hv
  split at hv
  · exact hv
  · cases hv
theorem TRow.cut {w : World} {B : Nat} {A : Option Addr} {es : List Tm} {c : Nat} (h : TRow w B A es) (hc : es.length ≤ c) (k : Nat) : TRow w B (cutA A c k) (es.drop k) := by
  intro hp
  rw [tvs_length, List.length_drop] at hp
  obtain ⟨b, off, e, hb, hcell⟩ := h (by rw [tvs_length]; omega)
  subst e
  refine ⟨b, off + k * 2, ?_, hb, fun i v hv => ?_⟩
  · unfold cutA
    rw [if_neg (by omega)]
    show some ((⟨b, off, none⟩ : Addr).add (k * 2)) = _
    rw [addLit]
  · rw [← tvs_drop, List.getElem?_drop] at hv
    rw [Nat.add_assoc]
    exact hcell _ v hv
theorem own_cap {w : World} {base : Nat} {T : TypeId} {s n c : Nat} {A : Option Addr} {vs : List Value} (h : w.ownsRow base T s (.slice A n c) n vs) : n ≤ c := by
  rcases h.2 with ⟨e, _⟩ | ⟨g, cap, cur, e, _, _, hnc, _⟩
  · injection e with _ e2 e3; omega
  · injection e with _ _ e3; omega
theorem fe_pos {t : Tm} {r : List Tm} {m i : Int} : fe (t :: r) m i = if m + (ar t - 1) = 0 then i + 1 else fe r (m + (ar t - 1)) (i + 1) := rfl
set_option maxRecDepth 100000 in
set_option maxHeartbeats 1000000 in
theorem l03End_any (A : Option Addr) (n c : Nat) (es : List Tm) (p r : Nat) (w : World) (B : Nat) (h : TRow w B A es) (l : es.length = n) (m : n ≤ 2000000) (hr : fe (es.drop p) 1 (p : Int) = (r : Int)) :
    Calls Try.prog 78 #[.slice A n c, .int .i64 (p : Int)] w fun e w' => e = .returned (.int .i64 (r : Int)) ∧ w = w' := by
  have L := Lib.hid l
  have HR := Lib.hid hr
  clear l hr
  have hp : p < n := by
    rcases Nat.lt_or_ge p n with h1 | h1
    · exact h1
    · have := HR.out
      rw [List.drop_eq_nil_of_le (by rw [L.out]; exact h1)] at this
      unfold fe at this
      omega
  go_enter Try.func78, Try.ntmps78
  go_wp2
  go_loop [1, 5] (fun i x => ∃ (k : Nat) (q : Int), k ≤ n ∧ i = .int .i64 k ∧ x = .int .i64 q ∧ 0 ≤ q ∧ q ≤ 1 + k ∧ Hid ((q = 0 ∧ k = r) ∨ (1 ≤ q ∧ k < n ∧ fe (es.drop k) q (k : Int) = (r : Int)))) (fun i _ => n - (intOf i).toNat)
  case atStart => exact ⟨p, 1, by omega, rfl, rfl, by omega, by omega, .inr ⟨by omega, hp, HR.out⟩⟩
  case round =>
    obtain ⟨k, q, hk, rfl, rfl, hq0, hq1, HS⟩ := hrel
    by_cases hq : 0 < q
    · have hs : 1 ≤ q ∧ k < n ∧ fe (es.drop k) q (k : Int) = (r : Int) := by
        rcases HS.out with h1 | h1
        · omega
        · exact h1
      have hlt := hs.2.1
      obtain ⟨b, o, t, rfl, hb, hc1, hc2, hx⟩ := h.at_ (k := k) (by rw [L.out]; exact hlt)
      have har := ar_bd t
      have HN : Hid ((q + (ar t - 1) = 0 ∧ k + 1 = r) ∨ (1 ≤ q + (ar t - 1) ∧ k + 1 < n ∧ fe (es.drop (k + 1)) (q + (ar t - 1)) ((k + 1 : Nat) : Int) = (r : Int))) := by
        have hf := hs.2.2
        rw [drop_one _ _ _ hx.out, fe_pos] at hf
        by_cases hz : q + (ar t - 1) = 0
        · rw [if_pos hz] at hf
          exact .inl ⟨hz, by omega⟩
        · rw [if_neg hz] at hf
          refine .inr ⟨by omega, ?_, hf⟩
          rcases Nat.lt_or_ge (k + 1) n with h1 | h1
          · exact h1
          · rw [List.drop_eq_nil_of_le (by rw [L.out]; exact h1)] at hf
            unfold fe at hf
            omega
      have hq2 : 0 ≤ q + (ar t - 1) := by omega
      clear hs
      go_wp2_with (go_at_call 72; refine (l03Arity_any b (o + k * 2) t _ hc1).mono ?_; rintro e w' ⟨rfl, rfl⟩)
      go_round
      case rel => exact ⟨k + 1, q + (ar t - 1), by omega, by go_num, rfl, hq2, by omega, HN⟩
      case measure => simp [intOf]; omega
    · have hk2 : k = r := by
        rcases HS.out with h1 | h1
        · exact h1.2
        · omega
      have HK := Lib.hid hk2
      clear hk2
      go_wp2
      go_ret
      exact ⟨ret_int (by rw [HK.out]), rfl⟩
end Go.Proofs.Ytkcbmblpalmmhaa
