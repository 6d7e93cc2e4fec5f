/- A stack of lists of terms: its top, and what is left when the top is taken off. -/
import Derived.Test.YtfoopgnnhgdfaaaProg
import Derived.WalkKit
import Derived.ProofKit
import Derived.Outline
import Derived.Lib.Hide
import Derived.Test.YtfoopgnnhgdfaaaMem
import Derived.Test.YtfoopgnnhgdfaaaOwn
import Derived.Test.YtfoopgnnhgdfaaaTmM
import Derived.Test.YtfoopgnnhgdfaaaTmW
import Derived.Test.YtfoopgnnhgdfaaaRet
import Derived.Test.YtfoopgnnhgdfaaaBuildT
namespace Go.Proofs.Ytfoopgnnhgdfaaa
open Go.RowKit
theorem BuildT.val {w : World} {lo : Nat} {v : Value} {xss : List (List Tm)} (h : BuildT w lo v xss) : ∃ A c, v = .slice A xss.length c := by
  obtain ⟨G, C, h1, _⟩ := h
  obtain ⟨A, c, rfl⟩ := own_slice h1
  exact ⟨A, c, rfl⟩
theorem own_capK {w : World} {base : Nat} {T : TypeId} {s n c : Nat} {A : Option Addr} {vs : List Value} (h : w.ownsRow base T s (.slice A n c) n vs) : n ≤ c := by
  rcases h.2 with ⟨e, _⟩ | ⟨g, cap, cur, e, _, _, hnc, _⟩
  · injection e with _ e2 e3; omega
  · injection e with _ _ e3; omega
theorem getD_front {xss : List (List Tm)} {x : List Tm} {i : Nat} (h : i < xss.length) : (xss ++ [x]).getD i [] = xss.getD i [] := by
  rw [List.getD_eq_getElem?_getD, List.getD_eq_getElem?_getD, List.getElem?_append_left h]
theorem BuildT.pop {w : World} {lo c : Nat} {A : Option Addr} {xss : List (List Tm)} {x : List Tm} (h : BuildT w lo (.slice A (xss.length + 1) c) (xss ++ [x])) : BuildT w lo (.slice A xss.length c) xss := by
  obtain ⟨G, C, h1, h2⟩ := h
  rw [List.length_append, List.length_singleton] at h1 h2
  refine ⟨G, C, ⟨by rw [innerT_length]; omega, ?_⟩, fun i hi => ?_, fun i j g hi hj => h2.one i j g (by omega) (by omega)⟩
  · rcases h1.2 with ⟨e, h0⟩ | ⟨g, cap, cur, e, hb, hh, hnc, hcm, hcs, ht⟩
    · omega
    · injection e with e1 e2 e3
      subst e1 e3
      refine .inr ⟨g, c, cur, rfl, hb, hh, by omega, hcm, hcs, ?_⟩
      have h3 := congrArg (List.take xss.length) ht
      rw [List.take_take] at h3
      rw [show min xss.length ((xss.length + 1) * 1) = xss.length * 1 by omega] at h3
      rw [h3]
      apply List.ext_getElem?
      intro i
      by_cases hi : i < xss.length
      · rw [List.getElem?_take, if_pos hi, innerT_at (by omega), innerT_at hi, getD_front hi]
      · rw [List.getElem?_take, if_neg hi, List.getElem?_eq_none (by rw [innerT_length]; omega)]
  · have := h2.own i (by omega)
    rw [getD_front hi] at this
    exact this
theorem BuildT.last {w : World} {lo c : Nat} {A : Option Addr} {xss : List (List Tm)} {x : List Tm} (h : BuildT w lo (.slice A (xss.length + 1) c) (xss ++ [x])) :
    ∃ g A' c', A = some ⟨g, 0, none⟩ ∧ g < w.heap.size ∧ w.cell? ⟨g, xss.length, none⟩ = some (.slice A' x.length c') ∧ w.ownsRow lo 77 2 (.slice A' x.length c') x.length (tvs x) ∧ xss.length + 1 ≤ c := by
  obtain ⟨G, C, h1, h2⟩ := h
  rw [List.length_append, List.length_singleton] at h1 h2
  have hx : (xss ++ [x]).getD xss.length [] = x := by rw [List.getD_eq_getElem?_getD]; simp
  obtain ⟨g, rfl, _, hg⟩ := own_at h1 (by omega)
  have ho := (h2.own xss.length (by omega)).own
  rw [hx] at ho
  refine ⟨g, G xss.length, C xss.length, rfl, hg, ?_, ho, own_capK h1⟩
  rw [h1.cellAt xss.length (by omega), innerT_at (by omega), hx]
/-- Taking k elements of a slice of slices. -/
theorem elem_rows : Try.prog.underlying 49 = some (.slice (Try.prog.elem 49)) := by kernel_rfl
theorem size_rows (w : World) : (sizeOf (Try.prog.elem 49)).run Try.prog w = .ok 1 w := by kernel_rfl
theorem slice_rows (A : Option Addr) (n c k : Nat) (hk : k ≤ c) (w : World) : (Instr.slice 49 (.slice A n c) none (some (.int .i64 (k : Int))) none).run Try.prog w = .ok (.slice A k c) w := by
  rw [run_slice_h w 49 A n c elem_rows .i64 (k : Int) (by omega) (by omega), size_rows]
  simp only [Result.andThen_ok, sliced, Int.toNat_natCast, Nat.sub_zero, Nat.zero_mul]
  congr 2
  split
  · rfl
  · cases A with
    | none => rfl
    | some a => simp [Addr.add]
end Go.Proofs.Ytfoopgnnhgdfaaa
