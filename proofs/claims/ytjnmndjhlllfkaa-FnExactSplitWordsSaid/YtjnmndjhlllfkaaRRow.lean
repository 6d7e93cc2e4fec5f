/- Plain words for memory: a slice of slices of 64-bit integers that reads as a list of lists. -/
import Derived.WalkKit
import Derived.ProofKit
import Derived.Deep.Matrix
import Derived.Lib.Hide
import Derived.Test.YtjnmndjhlllfkaaMem
namespace Go.Proofs.Ytjnmndjhlllfkaa
open Go.RowKit
/-- A slice of slices reads as the list of lists xss. -/
def RRow (w : World) (B : Nat) (A : Option Addr) (xss : List (List Int)) : Prop :=
  ∃ vs : List Value, Row w B A vs ∧ vs.length = xss.length ∧ ∀ (i : Nat) (xs : List Int), xss[i]? = some xs → ∃ (A' : Option Addr) (c' : Nat), vs[i]? = some (Value.slice A' xs.length c') ∧ IRow w B A' xs
theorem RRow.below {w w' : World} {B : Nat} {A : Option Addr} {xss : List (List Int)} (h : RRow w B A xss) (hb : Below B w w') : RRow w' B A xss := by
  obtain ⟨vs, h1, h2, h3⟩ := h
  refine ⟨vs, h1.below hb, h2, fun i xs hi => ?_⟩
  obtain ⟨A', c', e, hr⟩ := h3 i xs hi
  exact ⟨A', c', e, hr.below hb⟩
theorem RRow.drawn {w w' : World} {B : Nat} {A : Option Addr} {xss : List (List Int)} (h : RRow w B A xss) (hd : Drawn w w') : RRow w' B A xss := h.below (hd.below _)
theorem RRow.more {w : World} {B B' : Nat} {A : Option Addr} {xss : List (List Int)} (h : RRow w B A xss) (hB : B ≤ B') : RRow w B' A xss := by
  obtain ⟨vs, h1, h2, h3⟩ := h
  refine ⟨vs, h1.more hB, h2, fun i xs hi => ?_⟩
  obtain ⟨A', c', e, hr⟩ := h3 i xs hi
  exact ⟨A', c', e, hr.more hB⟩
theorem RRow.at_ {w : World} {B : Nat} {A : Option Addr} {xss : List (List Int)} (h : RRow w B A xss) {k : Nat} (hk : k < xss.length) :
    ∃ b off A' c' xs, A = some ⟨b, off, none⟩ ∧ b < B ∧ w.cell? ⟨b, off + k, none⟩ = some (.slice A' xs.length c') ∧ IRow w B A' xs ∧ Hid (xss[k]? = some xs) := by
  obtain ⟨vs, h1, h2, h3⟩ := h
  obtain ⟨b, off, e, hb, hc⟩ := h1.at_ (k := k) (by omega)
  obtain ⟨A', c', e', hr⟩ := h3 k xss[k] (List.getElem?_eq_getElem hk)
  rw [List.getElem?_eq_getElem (by omega)] at e'
  injection e' with e'
  exact ⟨b, off, A', c', xss[k], e, hb, by rw [← e']; exact hc, hr, List.getElem?_eq_getElem hk⟩
theorem spot_none {w : World} {a : Addr} {v : Value} (h : w.cell? (a.add 0) = some v) : ∃ b off, a = ⟨b, off, none⟩ ∧ b < w.heap.size := by
  obtain ⟨b, off, spot⟩ := a
  have hspot : spot = none := by simpa [Addr.add] using World.cell?_spot h
  subst hspot
  have h0 : w.cell? ⟨b, off, none⟩ = some v := by simpa [Addr.add] using h
  exact ⟨b, off, rfl, World.block_lt_of_cell? w _ h0⟩
theorem add_lit (b off i : Nat) : (⟨b, off, none⟩ : Addr).add i = ⟨b, off + i, none⟩ := by unfold Addr.add; split <;> simp_all
theorem range_map_at {α : Type} {f : Nat → α} {n i : Nat} {v : α} (h : ((List.range n).map f)[i]? = some v) : i < n ∧ v = f i := by
  obtain ⟨hlt, he⟩ := List.getElem?_eq_some_iff.1 h
  simp at hlt he
  exact ⟨hlt, he.symm⟩
def JIn (w : World) (a : Option Addr) (len : Nat) : Prop :=
  ∃ xss : List (List Int), RRow w w.heap.size a xss ∧ xss.length = len ∧ len ≤ maxLen ∧ ∀ xs ∈ xss, xs.length ≤ maxLen ∧ ∀ n ∈ xs, (Lit.int .i64 n).wf = true
/-- A slice of slices of 64-bit integers that came in reads as a list of lists. -/
theorem rrow_in {H : Type} {enc : TypeId × Value → H} {P : Program} {W : World} {held : Bool} {t e q : TypeId} {fuel : Nat} {a : Option Addr} {len cap : Nat} {x : DataW H × List MemPlace}
    (ht : P.underlying t = some (.slice e)) (he : P.underlying e = some (.slice q)) (hq : P.underlying q = some (.int .i64)) (ce : P.cellsOf e = 1) (cq : P.cellsOf q = 1)
    (h : DataW.trod enc P W 0 (fun _ => true) held fuel t [.slice a len cap] = some x) :
    ∃ xss : List (List Int), RRow W W.heap.size a xss ∧ xss.length = len ∧ len ≤ maxLen ∧ ∀ xs ∈ xss, xs.length ≤ maxLen ∧ ∀ n ∈ xs, (Lit.int .i64 n).wf = true := by
  rcases Go.Deep.open_int_rows ht he hq ce cq h with ⟨hcs, _⟩ | ⟨a', len', cap', A, L, C, Z, hcs, _, hl, hm, _, hr⟩
  · simp at hcs
    obtain ⟨rfl, rfl, rfl⟩ := hcs
    exact ⟨[], ⟨[], Row.nil, rfl, fun i xs hi => by simp at hi⟩, rfl, Nat.zero_le _, by simp⟩
  · simp at hcs
    obtain ⟨rfl, rfl, rfl⟩ := hcs
    refine ⟨(List.range len).map fun r => (Z r).take (L r), ⟨(List.range len).map fun r => Value.slice (A r) (L r) (C r), fun hp => ?_, by simp, fun i xs hi => ?_⟩, by simp, Nat.le_trans hl hm, ?_⟩
    · simp at hp
      obtain ⟨b, off, rfl, hb⟩ := spot_none (hr 0 (by omega)).1
      refine ⟨b, off, rfl, hb, fun i v hv => ?_⟩
      obtain ⟨hj, rfl⟩ := range_map_at hv
      have := (hr i (by omega)).1
      rwa [add_lit] at this
    · obtain ⟨hj, rfl⟩ := range_map_at hi
      obtain ⟨h1, h2, h3, h4, h5, h6, h7⟩ := hr i (by omega)
      have hlen : ((Z i).take (L i)).length = L i := by rw [List.length_take]; omega
      refine ⟨A i, C i, by simp [hj, h4, h2], fun hp => ?_⟩
      simp [h4] at hp
      rcases hA : A i with _ | a'
      · have := h6 hA; omega
      · have hc := (h7 a' hA).2
        obtain ⟨b, off, rfl, hb⟩ := spot_none (hc 0 (by omega))
        refine ⟨b, off, rfl, hb, fun j v hv => ?_⟩
        rw [List.getElem?_map, List.getElem?_take] at hv
        split at hv
        · rcases hz : (Z i)[j]? with _ | u
          · rw [hz] at hv; cases hv
          · rw [hz] at hv
            have := hc j (by omega)
            rw [add_lit, List.getD_eq_getElem?_getD, hz] at this
            rw [this]; exact hv
        · cases hv
    · intro xs hxs
      simp only [List.mem_map, List.mem_range] at hxs
      obtain ⟨r, hr', rfl⟩ := hxs
      obtain ⟨_, h2, h3, h4, h5, _⟩ := hr r (by omega)
      exact ⟨by rw [List.length_take]; omega, fun n hn => h5 n (List.mem_of_mem_take hn)⟩
end Go.Proofs.Ytjnmndjhlllfkaa
