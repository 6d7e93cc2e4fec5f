/- A slice of slices of terms that came in reads as a list of lists of terms. -/
import Derived.WalkKit
import Derived.ProofKit
import Derived.Deep.SlicePairs
import Derived.Deep.Matrix
import Derived.Lib.Hide
import Derived.Test.YtfoopgnnhgdfaaaMem
import Derived.Test.YtfoopgnnhgdfaaaOwn
import Derived.Test.YtfoopgnnhgdfaaaTmM
import Derived.Test.YtfoopgnnhgdfaaaTmW
import Derived.Test.YtfoopgnnhgdfaaaRRow
import Derived.Test.YtfoopgnnhgdfaaaBuildT
namespace Go.Proofs.Ytfoopgnnhgdfaaa
open Go.RowKit
def KIn (w : World) (a : Option Addr) (len : Nat) : Prop :=
  ∃ xss : List (List Tm), TTRow w w.heap.size a xss ∧ xss.length = len ∧ len ≤ maxLen ∧ ∀ xs ∈ xss, xs.length ≤ maxLen ∧ ∀ t ∈ xs, Tm.wf t
theorem krow_in {H : Type} {enc : TypeId × Value → H} {P : Program} {W : World} {held : Bool} {t s e : TypeId} {f0 f1 : Field} {fuel : Nat} {a : Option Addr} {len cap : Nat} {x : DataW H × List MemPlace}
    (ht : P.underlying t = some (.slice s)) (hs : P.underlying s = some (.slice e)) (he : P.underlying e = some (.struct #[f0, f1])) (cs1 : P.cellsOf s = 1) (ce : P.cellsOf e = 2) (o0 : f0.offset = 0) (o1 : f1.offset = 1)
    (q0 : P.underlying f0.type = some (.int .i64)) (q1 : P.underlying f1.type = some (.int .i64)) (c0 : P.cellsOf f0.type = 1) (c1 : P.cellsOf f1.type = 1)
    (h : DataW.trod enc P W 0 (fun _ => true) held fuel t [.slice a len cap] = some x) : KIn W a len := by
  rcases Go.Deep.open_slice1 ht cs1 h with ⟨hcs, _⟩ | ⟨a', len', cap', m, n, V, D, Pl, hcs, _, hl, hm, hmm, _, hx⟩
  · simp at hcs
    obtain ⟨rfl, rfl, rfl⟩ := hcs
    exact ⟨[], ⟨[], Row.nil, rfl, fun i xs hi => by simp at hi⟩, rfl, Nat.zero_le _, by simp⟩
  · simp at hcs
    obtain ⟨rfl, rfl, rfl⟩ := hcs
    simp only [if_true] at hmm
    have each : ∀ r, r < len → ∃ y : Option Addr × Nat × Nat × List Tm, V r = .slice y.1 y.2.1 y.2.2.1 ∧ TRow W W.heap.size y.1 y.2.2.2 ∧ y.2.2.2.length = y.2.1 ∧ y.2.1 ≤ maxLen ∧ ∀ t ∈ y.2.2.2, Tm.wf t := by
      intro r hr
      have h2 := (hx r (by omega)).2
      rcases Go.Deep.open_slice_pairs hs he ce o0 o1 c0 c1 h2 with ⟨e2, _⟩ | ⟨b1, l1, k1, m1, n1, V0, V1, D0, D1, P0, P1, e2, _⟩
      · simp at e2
        rw [e2] at h2
        obtain ⟨es, g1, g2, g3, g4⟩ := trow_in hs he ce o0 o1 q0 q1 c0 c1 h2
        exact ⟨(none, 0, 0, es), e2, g1, g2, g3, g4⟩
      · simp at e2
        rw [e2] at h2
        obtain ⟨es, g1, g2, g3, g4⟩ := trow_in hs he ce o0 o1 q0 q1 c0 c1 h2
        exact ⟨(some b1, l1, k1, es), e2, g1, g2, g3, g4⟩
    obtain ⟨y, hy⟩ := Go.Deep.choose_lt each
    refine ⟨(List.range len).map fun r => (y r).2.2.2, ⟨(List.range len).map fun r => Value.slice (y r).1 (y r).2.1 (y r).2.2.1, fun hp => ?_, by simp, fun i xs hi => ?_⟩, by simp, by omega, fun xs hxs => ?_⟩
    · simp at hp
      obtain ⟨b, off, rfl, hb⟩ := spot_none (hx 0 (by omega)).1
      refine ⟨b, off, rfl, hb, fun i v hv => ?_⟩
      obtain ⟨hj, rfl⟩ := range_map_at hv
      have := (hx i (by omega)).1
      rw [add_lit, (hy i hj).1] at this
      exact this
    · obtain ⟨hj, rfl⟩ := range_map_at hi
      obtain ⟨h1, h2, h3, h4, h5⟩ := hy i hj
      refine ⟨(y i).1, (y i).2.2.1, by simp [hj, h3], h2⟩
    · simp only [List.mem_map, List.mem_range] at hxs
      obtain ⟨r, hr', rfl⟩ := hxs
      obtain ⟨h1, h2, h3, h4, h5⟩ := hy r hr'
      exact ⟨by rw [h3]; exact h4, h5⟩
end Go.Proofs.Ytfoopgnnhgdfaaa
