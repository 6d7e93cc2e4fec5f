/- Plain words for memory: a slice of terms that came in reads as a list of terms; rows of terms of the call's own. -/
import Derived.WalkKit
import Derived.ProofKit
import Derived.Deep.SlicePairs
import Derived.Lib.Hide
import Derived.Test.YtjnmndjhlllfkaaMem
import Derived.Test.YtjnmndjhlllfkaaOwn
import Derived.Test.YtjnmndjhlllfkaaTmM
namespace Go.Proofs.Ytjnmndjhlllfkaa
open Go.RowKit
instance : Inhabited Tm := ⟨⟨0, 0⟩⟩
theorem tvs_get {es : List Tm} {i : Nat} {v : Value} (h : (tvs es)[i]? = some v) : ∃ k t, es[k]? = some t ∧ (i = k * 2 ∧ v = .int .i64 t.k ∨ i = k * 2 + 1 ∧ v = .int .i64 t.v) := by
  have hi := (List.getElem?_eq_some_iff.1 h).1
  rw [tvs_length] at hi
  have hk : i / 2 < es.length := by omega
  have hx : es[i / 2]? = some es[i / 2] := List.getElem?_eq_getElem hk
  obtain ⟨h1, h2⟩ := tvs_at hx
  refine ⟨i / 2, es[i / 2], hx, ?_⟩
  by_cases e : i = i / 2 * 2
  · left
    rw [← e, h] at h1
    exact ⟨e, by injection h1⟩
  · right
    have e2 : i = i / 2 * 2 + 1 := by omega
    rw [← e2, h] at h2
    exact ⟨e2, by injection h2⟩
theorem addLit (b off i : Nat) : (⟨b, off, none⟩ : Addr).add i = ⟨b, off + i, none⟩ := by unfold Addr.add; split <;> simp_all
theorem spotLit {w : World} {a : Addr} {v : Value} (h : w.cell? (a.add 0) = some v) : ∃ b off, a = ⟨b, off, none⟩ ∧ b < w.heap.size := by
  obtain ⟨b, off, spot⟩ := a
  have hspot : spot = none := by simpa [Addr.add] using World.cell?_spot h
  subst hspot
  have h0 : w.cell? ⟨b, off, none⟩ = some v := by simpa [Addr.add] using h
  exact ⟨b, off, rfl, World.block_lt_of_cell? w _ h0⟩
/-- Both numbers of a term are 64-bit integers. -/
def Tm.wf (t : Tm) : Prop := (Lit.int .i64 t.k).wf = true ∧ (Lit.int .i64 t.v).wf = true
def TIn (w : World) (a : Option Addr) (len : Nat) : Prop := ∃ es : List Tm, TRow w w.heap.size a es ∧ es.length = len ∧ len ≤ maxLen ∧ ∀ t ∈ es, Tm.wf t
/-- A slice of structs of two 64-bit integers that came in reads as a list of terms. -/
theorem trow_in {H : Type} {enc : TypeId × Value → H} {P : Program} {W : World} {held : Bool} {t e : TypeId} {f0 f1 : Field} {fuel : Nat} {a : Option Addr} {len cap : Nat} {x : DataW H × List MemPlace}
    (ht : P.underlying t = some (.slice e)) (he : P.underlying e = some (.struct #[f0, f1])) (ce : P.cellsOf e = 2) (o0 : f0.offset = 0) (o1 : f1.offset = 1)
    (q0 : P.underlying f0.type = some (.int .i64)) (q1 : P.underlying f1.type = some (.int .i64)) (c0 : P.cellsOf f0.type = 1) (c1 : P.cellsOf f1.type = 1)
    (h : DataW.trod enc P W 0 (fun _ => true) held fuel t [.slice a len cap] = some x) : TIn W a len := by
  rcases Go.Deep.open_slice_pairs ht he ce o0 o1 c0 c1 h with ⟨hcs, _⟩ | ⟨a', len', cap', m, n, V0, V1, D0, D1, P0, P1, hcs, _, hl, hm, hmm, _, hr⟩
  · simp at hcs
    obtain ⟨rfl, rfl, rfl⟩ := hcs
    exact ⟨[], TRow.nil, rfl, Nat.zero_le _, by simp⟩
  · simp at hcs
    obtain ⟨rfl, rfl, rfl⟩ := hcs
    simp only [if_true] at hmm
    have each : ∀ i, i < len → ∃ u : Tm, W.cell? (a'.add (i * 2)) = some (.int .i64 u.k) ∧ W.cell? (a'.add (i * 2 + 1)) = some (.int .i64 u.v) ∧ Tm.wf u := by
      intro i hi
      obtain ⟨g0, g1, t0, t1⟩ := hr i (by omega)
      obtain ⟨n0, e0, _, w0⟩ := DataW.trod_int q0 t0
      obtain ⟨n1, e1, _, w1⟩ := DataW.trod_int q1 t1
      injection e0 with e0
      injection e1 with e1
      exact ⟨⟨n0, n1⟩, by rw [← e0]; exact g0, by rw [← e1]; exact g1, w0, w1⟩
    obtain ⟨T, hT⟩ := Go.Deep.choose_lt each
    refine ⟨(List.range len).map T, fun hp => ?_, by simp, by omega, fun u hu => ?_⟩
    · rw [tvs_length] at hp
      simp at hp
      obtain ⟨b, off, rfl, hb⟩ := spotLit (v := .int .i64 (T 0).k) (by simpa using (hT 0 hp).1)
      refine ⟨b, off, rfl, hb, fun i v hv => ?_⟩
      obtain ⟨k, u, hk, hd⟩ := tvs_get hv
      obtain ⟨hlt, he'⟩ := List.getElem?_eq_some_iff.1 hk
      simp at hlt he'
      subst he'
      obtain ⟨h1, h2, _⟩ := hT k hlt
      rw [addLit] at h1 h2
      rcases hd with ⟨rfl, rfl⟩ | ⟨rfl, rfl⟩
      · exact h1
      · exact h2
    · simp only [List.mem_map, List.mem_range] at hu
      obtain ⟨i, hi, rfl⟩ := hu
      exact (hT i hi).2.2
theorem own_at {w : World} {base : Nat} {T : TypeId} {s n c : Nat} {A : Option Addr} {vs : List Value} (h : w.ownsRow base T s (.slice A n c) n vs) (hn : 0 < n) : ∃ g, A = some ⟨g, 0, none⟩ ∧ base ≤ g ∧ g < w.heap.size := by
  rcases h.2 with ⟨e, h0⟩ | ⟨g, cap, cur, e, hb, hg, _⟩
  · injection e with _ e2 _
    omega
  · injection e with e1 _ _
    exact ⟨g, e1, hb, (Array.getElem?_eq_some_iff.1 hg).1⟩
theorem Row.of_own2 {w : World} {base s : Nat} {T : TypeId} {A : Option Addr} {n c : Nat} {vs : List Value} (h : w.ownsRow base T s (.slice A n c) n vs) : Row w w.heap.size A vs := by
  intro hp
  rcases h.2 with ⟨e, hn⟩ | ⟨g, cap, cur, e, hb, hg, hnc, _, hcs, ht⟩
  · have := h.1
    rw [hn, Nat.zero_mul] at this
    omega
  · injection e with e1 e2 e3
    subst e1
    refine ⟨g, 0, rfl, (Array.getElem?_eq_some_iff.1 hg).1, fun i v hv => ?_⟩
    rw [Nat.zero_add, cell_of_row w g i cur T (0, 0) hg]
    rw [← ht, List.getElem?_take] at hv
    split at hv
    · simpa using hv
    · cases hv
theorem OwnV.trow {w : World} {lo hi : Nat} {T : TypeId} {A : Option Addr} {n c : Nat} {es : List Tm} (h : OwnV w lo hi T 2 A n c (tvs es)) : TRow w hi A es := by
  intro hp
  obtain ⟨b, off, e, hb, hc⟩ := Row.of_own2 h.own hp
  exact ⟨b, off, e, h.top b (by rw [e]; rfl), hc⟩
theorem OwnV.tlen {w : World} {lo hi : Nat} {T : TypeId} {A : Option Addr} {n c : Nat} {es : List Tm} (h : OwnV w lo hi T 2 A n c (tvs es)) : es.length = n := by
  have := h.own.1
  rw [tvs_length] at this
  omega
theorem made_two (z : Value) (n : Nat) : (madeCells #[z, z] n).toList = List.replicate n z := by
  apply List.ext_getElem?
  intro j
  by_cases hj : j < n
  · have : j % 2 = 0 ∨ j % 2 = 1 := by omega
    rcases this with h | h <;> simp [madeCells, hj, h]
  · simp [madeCells, hj]
/-- Two stores lay the next term behind those that are there. -/
theorem tvs_upd {es : List Tm} {t : Tm} {k n : Nat} (z : Value) (hn : es.length = n) (hk : es[k]? = some t) :
    ((tvs (es.take k) ++ List.replicate ((n - k) * 2) z).set (k * 2) (.int .i64 t.k)).set (k * 2 + 1) (.int .i64 t.v) = tvs (es.take (k + 1)) ++ List.replicate ((n - (k + 1)) * 2) z := by
  have hlt := (List.getElem?_eq_some_iff.1 hk).1
  have hl : (tvs (es.take k)).length = k * 2 := by rw [tvs_length, List.length_take]; omega
  have e : (n - k) * 2 = (n - (k + 1)) * 2 + 1 + 1 := by omega
  rw [e, List.set_append_right _ _ (by omega), hl, Nat.sub_self, List.replicate_succ, List.set_cons_zero, List.set_append_right _ _ (by omega), hl, show k * 2 + 1 - k * 2 = 1 by omega, List.replicate_succ]
  rw [take_one _ _ _ hk, tvs_append, List.append_assoc]
  rfl
/-- Two stores turn one term among others. -/
theorem tvs_set {es : List Tm} {t u : Tm} {k : Nat} (hk : es[k]? = some t) : ((tvs es).set (k * 2) (.int .i64 u.k)).set (k * 2 + 1) (.int .i64 u.v) = tvs (es.set k u) := by
  induction es generalizing k with
  | nil => simp at hk
  | cons a r ih =>
    cases k with
    | zero => rfl
    | succ k =>
      have := ih (k := k) (by simpa using hk)
      rw [show (k + 1) * 2 = k * 2 + 1 + 1 by omega, tvs_cons, List.set_cons_succ, List.set_cons_succ, List.set_cons_succ, List.set_cons_succ, this, List.set_cons_succ, tvs_cons]
/-- The marks that the laws write: two numbers a term, one after the other. -/
def marksT (k0 : Int) (n : Nat) : List Tm := (List.range n).map fun i => ⟨k0 + 2 * (i : Nat), k0 + 2 * (i : Nat) + 1⟩
theorem marksT_length (k0 : Int) (n : Nat) : (marksT k0 n).length = n := by simp [marksT]
theorem marksT_at {k0 : Int} {n i : Nat} (h : i < n) : (marksT k0 n)[i]? = some ⟨k0 + 2 * i, k0 + 2 * i + 1⟩ := by simp [marksT, h]
def midT (k0 : Int) (es : List Tm) (n k : Nat) : List Tm := (marksT k0 n).take k ++ es.drop k
theorem midT_zero (k0 : Int) (es : List Tm) (n : Nat) : midT k0 es n 0 = es := by simp [midT]
theorem midT_all {k0 : Int} {es : List Tm} {n : Nat} (h : es.length = n) : midT k0 es n n = marksT k0 n := by
  unfold midT
  rw [List.take_of_length_le (by rw [marksT_length]; exact Nat.le_refl _), List.drop_eq_nil_of_le (by omega), List.append_nil]
theorem midT_len {k0 : Int} {es : List Tm} {n k : Nat} (h : es.length = n) (hk : k ≤ n) : (midT k0 es n k).length = n := by
  unfold midT
  rw [List.length_append, List.length_take, marksT_length, List.length_drop]; omega
theorem midT_set {k0 : Int} {es : List Tm} {n k : Nat} (h : es.length = n) (hk : k < n) : (midT k0 es n k).set k ⟨k0 + 2 * k, k0 + 2 * k + 1⟩ = midT k0 es n (k + 1) := by
  have hl : ((marksT k0 n).take k).length = k := by rw [List.length_take, marksT_length]; omega
  have hx : es[k]? = some es[k] := List.getElem?_eq_getElem (by omega)
  unfold midT
  rw [drop_one _ _ _ hx, List.set_append_right _ _ (by omega), hl, Nat.sub_self, List.set_cons_zero, take_one _ _ _ (marksT_at hk), List.append_assoc]
  rfl
end Go.Proofs.Ytjnmndjhlllfkaa
