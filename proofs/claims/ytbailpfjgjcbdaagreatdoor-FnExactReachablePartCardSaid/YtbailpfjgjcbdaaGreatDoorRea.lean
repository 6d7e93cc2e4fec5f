/- Deterministic systems and the edges out of a state: plain mathematics. -/
/- Reachable states: plain mathematics. -/
/- Appends of elements of any type onto a row of the call's own. -/
/- Reachable states: the two searches, as mathematics. -/
/- A queue of numbers: a slice of the call's own whose first element is taken away, and to which others are appended. -/
/- Reachable states: the worklist, as mathematics; a map of numbers as a set. -/
/- slices.Sorted(maps.Keys(m)) of a set of numbers. -/
import Derived.Test.YtbailpfjgjcbdaaGreatDoorLtC
import Derived.Test.YtbailpfjgjcbdaaGreatDoorProg
import Derived.WalkKit
import Derived.ProofKit
import Derived.OwnWalk
import Derived.WalkSpells
import Derived.Lib.Hide
import Derived.Test.YtbailpfjgjcbdaaGreatDoorLow
import Derived.Deep.Upon
import Derived.Lib.Builder
import Derived.Maps.OwnSet
import Derived.Lib.SlKeysI
import Derived.Shelf.SlIterI.Nil
import Derived.Shelf.SortM.Plain
import Derived.Shelf.SortM.SortNone
import Derived.Ground.GgzProg
import Derived.Ground.SlgmProg
namespace Go.Proofs.YtbailpfjgjcbdaaGreatDoor
open Go.RowKit
def besE (a b : Ed) : Bool := a.f == b.f && a.l == b.l
/-- Whether edge k speaks against a deterministic system. -/
def badK (es : List Ed) : Nat → Bool
  | 0 => match es[0]? with
    | none => false
    | some e => e.l == 0
  | k + 1 => match es[k + 1]?, es[k]? with
    | some e, some u => e.l == 0 || besE e u
    | _, _ => false
def sglB (es : List Ed) (n : Nat) : Bool := (List.range n).all fun k => !badK es k
noncomputable def detB (x : Lt) : Bool := ltB x && sglB x.es x.es.length
theorem badK_zero {es : List Ed} {e : Ed} (h : es[0]? = some e) : badK es 0 = (e.l == 0) := by simp only [badK, h]
theorem badK_succ {es : List Ed} {k : Nat} {e u : Ed} (h : es[k + 1]? = some e) (hu : es[k]? = some u) : badK es (k + 1) = (e.l == 0 || besE e u) := by simp only [badK, h, hu]
theorem badK_tau {es : List Ed} {k : Nat} {e : Ed} (h : es[k]? = some e) (hl : (e.l == 0) = true) : badK es k = true := by
  rcases k with _ | k
  · rw [badK_zero h]; exact hl
  · have hk := (List.getElem?_eq_some_iff.1 h).1
    rw [badK_succ h (List.getElem?_eq_getElem (show k < es.length by omega)), hl]; rfl
theorem sglB_zero (es : List Ed) : sglB es 0 = true := rfl
theorem sglB_succ (es : List Ed) (k : Nat) : sglB es (k + 1) = (sglB es k && !badK es k) := by
  unfold sglB
  rw [List.range_succ, List.all_append]
  simp
theorem sglB_next {es : List Ed} {k : Nat} (h : sglB es k = true) (hb : badK es k = false) : sglB es (k + 1) = true := by rw [sglB_succ, h, hb]; rfl
theorem sglB_bad {es : List Ed} {k : Nat} (hk : k < es.length) (h : badK es k = true) : sglB es es.length = false := by
  rw [Bool.eq_false_iff]
  intro h2
  have h3 := List.all_eq_true.1 h2 k (List.mem_range.2 hk)
  rw [h] at h3
  cases h3
theorem detB_no {x : Lt} (h : ltB x = false) : detB x = false := by unfold detB; rw [h]; rfl
theorem detB_eq {x : Lt} (h : ltB x = true) : detB x = sglB x.es x.es.length := by unfold detB; rw [h]; rfl
/-- The first label of a valid system alone is tau. -/
theorem lab_tau {x : Lt} (hv : ltB x = true) {k : Nat} {u : ByteArray} (hu : x.ls[k]? = some u) : isT u = decide (k = 0) := by
  have h := (ltB_parts hv).2.2.1
  unfold lsOk at h
  rw [Bool.and_eq_true, Bool.and_eq_true, Bool.and_eq_true] at h
  obtain ⟨_, h1, h2, _⟩ := h
  rcases k with _ | k
  · have e : x.ls.take 1 = [u] := by rw [take_one _ _ _ hu]; rfl
    rw [e] at h1
    simpa using h1
  · have hk := (List.getElem?_eq_some_iff.1 hu).1
    have hp : x.ls[k]? = some x.ls[k] := List.getElem?_eq_getElem (by omega)
    by_cases h : cmL x.ls[k] u < 0
    · rw [cmL_not h]; simp
    · rw [inc_bad hp hu h] at h2; cases h2
/-- The edges out of a state. -/
def outE (x : Lt) (k : Int) : List Ed := x.es.filter fun e => e.f == k
noncomputable def stC (x : Lt) (k : Int) : Int := if ltB x = true then (if idxI k x.st = true then 0 else 2) else 1
noncomputable def outR (x : Lt) (k : Int) : List Ed := if stC x k = 0 then outE x k else []
theorem stC_inv {x : Lt} {k : Int} (h : ltB x = false) : stC x k = 1 := by unfold stC; rw [h]; rfl
theorem stC_rng {x : Lt} {k : Int} (h : ltB x = true) (h2 : idxI k x.st = false) : stC x k = 2 := by unfold stC; rw [h, h2]; rfl
theorem stC_ok {x : Lt} {k : Int} (h : ltB x = true) (h2 : idxI k x.st = true) : stC x k = 0 := by unfold stC; rw [h, h2]; rfl
theorem stC_parts {x : Lt} {k : Int} (h : stC x k = 0) : ltB x = true ∧ idxI k x.st = true := by
  unfold stC at h
  split at h
  · split at h
    · exact ⟨by assumption, by assumption⟩
    · cases h
  · cases h
theorem outR_ok {x : Lt} {k : Int} (h : stC x k = 0) : outR x k = outE x k := if_pos h
theorem outR_no {x : Lt} {k : Int} (h : ¬ stC x k = 0) : outR x k = [] := if_neg h
def outT (x : Lt) (k : Int) (j : Nat) : List Ed := (x.es.take j).filter fun e => e.f == k
theorem outT_zero (x : Lt) (k : Int) : outT x k 0 = [] := rfl
theorem outT_yes {x : Lt} {k : Int} {j : Nat} {e : Ed} (he : x.es[j]? = some e) (h : (e.f == k) = true) : outT x k (j + 1) = outT x k j ++ [e] := by
  unfold outT; rw [take_one _ _ _ he, List.filter_append]; simp [h]
theorem outT_no {x : Lt} {k : Int} {j : Nat} {e : Ed} (he : x.es[j]? = some e) (h : (e.f == k) = false) : outT x k (j + 1) = outT x k j := by
  unfold outT; rw [take_one _ _ _ he, List.filter_append]; simp [h]
theorem outT_len (x : Lt) (k : Int) (j : Nat) : (outT x k j).length ≤ j := by
  have h1 := List.length_filter_le (fun e : Ed => e.f == k) (x.es.take j)
  have h2 := List.length_take_le j x.es
  unfold outT; omega
theorem outT_all {x : Lt} {k : Int} {j : Nat} (h : x.es.length ≤ j) : outT x k j = outE x k := by unfold outT outE; rw [List.take_of_length_le h]
theorem outR_len (x : Lt) (k : Int) : (outR x k).length ≤ x.es.length := by
  unfold outR
  split
  · exact List.length_filter_le _ _
  · exact Nat.zero_le _
theorem ok_out {x : Lt} {k : Int} (ok : okLt x) : okList okAny (outR x k) := by
  have h1 := outR_len x k
  have h2 := ok.2.1
  exact ⟨by omega, fun _ _ => trivial⟩
theorem cnt_out {x : Lt} {k : Int} (ok : okLt x) : cntL edM (outR x k) ≤ 100000000 := by
  have h1 := cnt_ed (outR x k)
  have h2 := wL_z (outR x k)
  have h3 := outR_len x k
  have h4 := ok.2.1
  omega
/-- The cells of edges. -/
def edC (e : Ed) : List Value := [.int .i64 e.f, .int .i64 e.l, .int .i64 e.t]
def edCs (xs : List Ed) : List Value := xs.flatMap edC
theorem edCs_nil : edCs [] = [] := rfl
theorem edCs_snoc (xs : List Ed) (e : Ed) : edCs (xs ++ [e]) = edCs xs ++ edC e := by simp [edCs]
theorem edCs_len : ∀ xs : List Ed, (edCs xs).length = xs.length * 3
  | [] => rfl
  | a :: r => by
    have h := edCs_len r
    unfold edCs at h ⊢
    rw [List.flatMap_cons, List.length_append, h, List.length_cons]
    show 3 + _ = _
    omega
theorem edCs_at : ∀ {xs : List Ed} {j : Nat} {e : Ed}, xs[j]? = some e → ((edCs xs).drop (j * 3)).take 3 = edC e
  | [], _, _, h => by simp at h
  | a :: r, 0, e, h => by simp at h; subst h; rfl
  | a :: r, j + 1, e, h => by
    have h2 : r[j]? = some e := by simpa using h
    have h3 := edCs_at h2
    unfold edCs at h3 ⊢
    rw [List.flatMap_cons, show (j + 1) * 3 = 3 + j * 3 by omega, ← List.drop_drop]
    exact h3
theorem ol_ed {w : World} {lo n c : Nat} {A : Option Addr} {xs : List Ed} {T : TypeId} (h : w.ownsRow lo T 3 (.slice A n c) n (edCs xs)) (hl : xs.length = n) : OL edO T w (In lo w.heap.size) A n c xs :=
  ⟨hl, fun g hg => h.lt g hg, edCs xs, fun _ _ => False, own_low h (Nat.zero_le _), fun _ _ he => edCs_at he, fun _ _ _ e => e.elim, fun _ _ _ _ _ _ e => e.elim⟩
end Go.Proofs.YtbailpfjgjcbdaaGreatDoor

namespace Go.Proofs.YtbailpfjgjcbdaaGreatDoor
open Go.RowKit
/-- States that a path leads to. -/
inductive Rch (x : Lt) : Int → Prop
  | ini : Rch x x.ini
  | step {e : Ed} : e ∈ x.es → Rch x e.f → Rch x e.t
theorem rch_in {x : Lt} (hv : ltB x = true) {k : Int} (h : Rch x k) : 0 ≤ k ∧ k < x.st := by
  cases h with
  | ini => exact (ltB_parts hv).2.1
  | step he _ => exact (inE_iff.1 (List.all_eq_true.1 (ltB_parts hv).2.2.2.2.2 _ he)).2.2
theorem rch_closed {x : Lt} {P : Int → Prop} (h0 : P x.ini) (h1 : ∀ e ∈ x.es, P e.f → P e.t) {k : Int} (h : Rch x k) : P k := by
  induction h with
  | ini => exact h0
  | step he _ ih => exact h1 _ he ih
noncomputable def rchB (x : Lt) (k : Int) : Bool := @decide (Rch x k) (Classical.propDecidable _)
theorem rchB_iff {x : Lt} {k : Int} : rchB x k = true ↔ Rch x k := by unfold rchB; exact @decide_eq_true_iff _ (Classical.propDecidable _)
def nums (n : Nat) : List Int := (List.range n).map fun i : Nat => (i : Int)
theorem nums_succ (n : Nat) : nums (n + 1) = nums n ++ [(n : Int)] := by unfold nums; rw [List.range_succ, List.map_append]; rfl
theorem mem_nums {n : Nat} {k : Int} : k ∈ nums n ↔ 0 ≤ k ∧ k < n := by
  unfold nums
  rw [List.mem_map]
  constructor
  · rintro ⟨i, hi, rfl⟩
    have := List.mem_range.1 hi
    omega
  · rintro ⟨h1, h2⟩
    exact ⟨k.toNat, List.mem_range.2 (by omega), by omega⟩
theorem nums_up : ∀ n : Nat, (nums n).Pairwise (· < ·)
  | 0 => List.Pairwise.nil
  | n + 1 => by
    rw [nums_succ, List.pairwise_append]
    exact ⟨nums_up n, List.pairwise_singleton _ _, fun a ha b hb => by
      have := mem_nums.1 ha
      rw [List.mem_singleton] at hb
      omega⟩
noncomputable def rchL (x : Lt) : List Int := (nums x.st.toNat).filter (rchB x)
noncomputable def rchC (x : Lt) : Int := if ltB x = true then 0 else 1
noncomputable def rchR (x : Lt) : List Int := if ltB x = true then rchL x else []
theorem rchC_no {x : Lt} (h : ltB x = false) : rchC x = 1 := by unfold rchC; rw [h]; rfl
theorem rchC_yes {x : Lt} (h : ltB x = true) : rchC x = 0 := if_pos h
theorem rchR_no {x : Lt} (h : ltB x = false) : rchR x = [] := by unfold rchR; rw [h]; rfl
theorem rchR_yes {x : Lt} (h : ltB x = true) : rchR x = rchL x := if_pos h
theorem mem_rchL {x : Lt} (hv : ltB x = true) {k : Int} : k ∈ rchL x ↔ Rch x k := by
  unfold rchL
  rw [List.mem_filter, mem_nums, rchB_iff]
  constructor
  · exact fun h => h.2
  · intro h
    have := rch_in hv h
    have := (ltB_parts hv).1
    exact ⟨by omega, h⟩
theorem rchL_up (x : Lt) : (rchL x).Pairwise (· < ·) := (nums_up _).filter _
theorem rchL_len (x : Lt) : (rchL x).length ≤ x.st.toNat := by
  have h := List.length_filter_le (rchB x) (nums x.st.toNat)
  have h2 : (nums x.st.toNat).length = x.st.toNat := by unfold nums; rw [List.length_map, List.length_range]
  unfold rchL
  omega
/-- Increasing lists with the same elements. -/
theorem up_same : ∀ {xs ys : List Int}, xs.Pairwise (· < ·) → ys.Pairwise (· < ·) → (∀ k, k ∈ xs ↔ k ∈ ys) → xs = ys
  | [], [], _, _, _ => rfl
  | [], y :: _, _, _, h => by have := (h y).2 (by simp); cases this
  | x :: _, [], _, _, h => by have := (h x).1 (by simp); cases this
  | x :: xs, y :: ys, hx, hy, h => by
    rw [List.pairwise_cons] at hx hy
    have e : x = y := by
      rcases List.mem_cons.1 ((h x).1 (by simp)) with h1 | h1
      · exact h1
      · rcases List.mem_cons.1 ((h y).2 (by simp)) with h2 | h2
        · exact h2.symm
        · have := hy.1 x h1
          have := hx.1 y h2
          omega
    subst e
    rw [up_same hx.2 hy.2 fun k => ?_]
    constructor
    · intro hk
      rcases List.mem_cons.1 ((h k).1 (List.mem_cons_of_mem _ hk)) with h1 | h1
      · have := hx.1 k hk; omega
      · exact h1
    · intro hk
      rcases List.mem_cons.1 ((h k).2 (List.mem_cons_of_mem _ hk)) with h1 | h1
      · have := hy.1 k hk; omega
      · exact h1
/-- A list without repetitions, sorted. -/
theorem up_sort {ks ls : List Int} (hn : ks.Nodup) (hl : ls.Pairwise (· < ·)) (h : ∀ k, k ∈ ks ↔ k ∈ ls) : ks.mergeSort (fun a b => decide (a ≤ b)) = ls := by
  have hp := List.mergeSort_perm ks (fun a b : Int => decide (a ≤ b))
  have hs := List.pairwise_mergeSort (le := fun a b : Int => decide (a ≤ b)) (fun a b c h1 h2 => decide_eq_true (by have := of_decide_eq_true h1; have := of_decide_eq_true h2; omega)) (fun a b => by simp only [Bool.or_eq_true, decide_eq_true_iff]; omega) ks
  have hd : (ks.mergeSort (fun a b => decide (a ≤ b))).Nodup := hp.symm.nodup hn
  refine up_same ?_ hl fun k => ?_
  · exact (hs.and hd).imp fun {a b} h => by
      have h1 := of_decide_eq_true h.1
      have h2 : a ≠ b := h.2
      omega
  · rw [hp.mem_iff]
    exact h k
end Go.Proofs.YtbailpfjgjcbdaaGreatDoor

namespace Go.Proofs.YtbailpfjgjcbdaaGreatDoor
open Go.RowKit
/-- What the program says of a type of slices and of their elements. -/
def ElOK (ST T : TypeId) (d : Nat) : Prop := Tryz.prog.underlying ST = some (.slice T) ∧ ∃ (i0 : TypeInfo) (z : Value), Tryz.prog.info? T = some i0 ∧ i0.zero = some z ∧ i0.size = d ∧ i0.bytes ≤ 64 ∧ z.cells.size = d ∧ 0 < d
theorem el_ok {ST T : TypeId} {d b : Nat} {z : Value} (ht : Tryz.prog.underlying ST = some (.slice T)) (hi : (Tryz.prog.info? T).map (fun i => (i.zero, i.size, i.bytes)) = some (some z, d, b)) (hb : b ≤ 64) (hz : z.cells.size = d) (hd : 0 < d) : ElOK ST T d := by
  obtain ⟨i0, h0, h1, h2, h3⟩ := info_parts hi
  exact ⟨ht, i0, z, h0, h1, h2, by omega, hz, hd⟩
theorem el_int : ElOK 26 2 1 := el_ok Tryz.underlying26 (show _ = some (some (.int .i64 0), 1, 8) by kernel_rfl) (by decide) rfl (by decide)
theorem el_str : ElOK 22 9 1 := el_ok Tryz.underlying22 (show _ = some (some (.string ByteArray.empty), 1, 16) by kernel_rfl) (by decide) rfl (by decide)
theorem run_appR_nil {P : Program} (w : World) (base : Nat) (t ty e : TypeId) (i : TypeInfo) (size : Nat) (ht : P.underlying t = some (.slice e)) (hi : P.info? e = some i) (v : Value) (n c : Nat) (xs : List Value) (hown : w.ownsRow base e size v n xs) :
    (Builtin.append_ #[t, t] ty #[v, .slice none 0 c]).run P w = .ok v w := by
  rcases hown.2 with ⟨rfl, rfl⟩ | ⟨g, cap, cur, rfl, _, _, hnc, _⟩
  · simp [Builtin.append_, run_underlying ht, sizeOf, typeInfo, hi, Builtin.lenOf, Builtin.firstCells]
  · simp [Builtin.append_, run_underlying ht, sizeOf, typeInfo, hi, Builtin.lenOf, Builtin.firstCells, hnc, storeCells]
set_option maxRecDepth 100000 in
/-- An append of elements onto a row of the call's own; the source may be nil. -/
theorem wpList_append_vs {ST T : TypeId} {d : Nat} (hE : ElOK ST T d) {ops : Array Oper} {rest : List Oper} {o : Oper} {a : Act} {Q : Exit → Act → World → Prop} (hgd : o.guard = none) (s x : Operand)
    (ho : o.op = .call { callee := .builtin .append, args := #[s, x], argTypes := #[ST, ST] })
    (w : World) (base : Nat) (v : Value) (n : Nat) (vs : List Value) (hs : a.eval s = v) (hown : w.ownsRow base T d v n vs)
    (S : Nat → Prop) (A : Option Addr) (m c : Nat) (news : List Value) (hx : a.eval x = .slice A m c) (hr : SRow w S A news) (hl : news.length = m * d) (h1 : ∀ u ∈ news, u.oneCell' = true) (hlen : n + m ≤ 8000000) (hbase : base ≤ w.heap.size)
    (h : ∀ A' c' w', w'.ownsRow base T d (.slice A' (n + m) c') (n + m) (vs ++ news) → w.grownBy w' v.ownBlock → wpList Tryz.prog ops Q rest (a.put o.dst (.slice A' (n + m) c')) w') :
    wpList Tryz.prog ops Q (o :: rest) a w := by
  obtain ⟨ht, i0, z, hi, hz0, hz1, hz2, hzs, hd⟩ := hE
  rcases A with _ | ad
  · have hnl : news = [] := by
      rcases Nat.eq_zero_or_pos news.length with h0 | h0
      · exact List.eq_nil_of_length_eq_zero h0
      · obtain ⟨b, off, e, _⟩ := hr h0
        cases e
    subst hnl
    have hm : m = 0 := by
      have : m * d = 0 := by simpa using hl.symm
      rcases Nat.mul_eq_zero.1 this with h | h
      · exact h
      · omega
    subst hm
    rw [List.append_nil] at h
    obtain ⟨A', c', rfl⟩ := own_slice hown
    have hrun := run_appR_nil (P := Tryz.prog) w base ST o.type T i0 d ht hi (.slice A' n c') n c vs hown
    have h2 := h A' c' w (by simpa using hown) (World.grownBy.refl _ _)
    refine wpList_plain hgd fun K hK => ?_
    unfold Oper.wp
    simp only [execOp, ho, resolve, invoke, builtin, Sem.run_bind, Sem.run_pure, Result.andThen_ok, List.map_toArray, List.map_cons, List.map_nil, hs, hx, hrun]
    exact hK _ _ (by simpa using h2)
  · refine wpList_append_own w hgd s x ST ho base T i0 z d i0.bytes ht hi hz0 hz1 rfl hzs hd v n vs hs hown ad m c news hx hl ?_ h1 (by unfold maxLen; omega) ?_ hbase ?_
    · intro j u hj
      have hp : 0 < news.length := by have := (List.getElem?_eq_some_iff.1 hj).1; omega
      obtain ⟨b, off, e, _, hc⟩ := hr hp
      injection e with e
      subst e
      rw [addLit]
      exact hc j u hj
    · exact Nat.le_trans (Nat.mul_le_mul hlen hz2) (by decide)
    · intro v' w' ho' hg _
      obtain ⟨A', c', rfl⟩ := own_slice ho'
      exact h A' c' w' ho' hg
/-- A kind of record whose cells say all, whatever the world. -/
def Flat {α : Type} (G : Owd α) : Prop := ∀ {w S x cs}, G.F.R w S x cs → (∀ w' S', G.O w' S' x cs) ∧ ∀ u ∈ cs, u.oneCell' = true
theorem flat_int : Flat intO := fun {_ _ x cs} h => by
  obtain rfl : cs = [Value.int .i64 x] := h
  exact ⟨fun _ _ => rfl, fun u hu => by simp at hu; subst hu; rfl⟩
theorem flat_txt : Flat txtO := fun {_ _ x cs} h => by
  obtain ⟨rfl, hz⟩ : cs = [Value.string x] ∧ x.size ≤ maxLen := h
  exact ⟨fun _ _ => ⟨rfl, hz⟩, fun u hu => by simp at hu; subst hu; rfl⟩
theorem flat_tm : Flat tmO := fun {_ _ x cs} h => by
  obtain rfl : cs = [Value.int .i64 x.k, Value.int .i64 x.v] := h
  exact ⟨fun _ _ => rfl, fun u hu => by simp at hu; rcases hu with rfl | rfl <;> rfl⟩
theorem flat_mt : Flat mtO := fun {_ _ x cs} h => by
  obtain ⟨rfl, hz⟩ : cs = [Value.string x.l, Value.string x.r, Value.string x.s] ∧ x.l.size ≤ maxLen ∧ x.r.size ≤ maxLen ∧ x.s.size ≤ maxLen := h
  exact ⟨fun _ _ => ⟨rfl, hz⟩, fun u hu => by simp at hu; rcases hu with rfl | rfl | rfl <;> rfl⟩
/-- The cells of a list of flat records. -/
theorem LRow.flat {α : Type} {G : Owd α} (hf : Flat G) {w : World} {S : Nat → Prop} {A : Option Addr} {xs : List α} (h : LRow G.F w S A xs) :
    ∃ vs, SRow w S A vs ∧ vs.length = xs.length * G.F.width ∧ (∀ u ∈ vs, u.oneCell' = true) ∧ ∀ (w' : World) (lo n c : Nat) (T : TypeId) (A' : Option Addr), xs.length = n → w'.ownsRow lo T G.F.width (.slice A' n c) n vs → OL G T w' (In lo w'.heap.size) A' n c xs := by
  obtain ⟨vs, h1, h2, h3⟩ := h
  refine ⟨vs, h1, h2, fun u hu => ?_, fun w' lo n c T A' hl ho => ⟨hl, fun g hg => ho.lt g hg, vs, fun _ _ => False, own_low ho (Nat.zero_le _), fun j x hx => (hf (h3 j x hx)).1 _ _, fun _ _ _ h => h.elim, fun _ _ _ _ _ _ h => h.elim⟩⟩
  obtain ⟨i, hi⟩ := List.getElem?_of_mem hu
  have hil := (List.getElem?_eq_some_iff.1 hi).1
  have hw := G.F.pos
  have hk : i / G.F.width < xs.length := Nat.div_lt_of_lt_mul (by rw [Nat.mul_comm, ← h2]; exact hil)
  have e : i / G.F.width * G.F.width + i % G.F.width = i := Nat.div_add_mod' i G.F.width
  refine (hf (h3 _ _ (List.getElem?_eq_getElem hk))).2 u (List.mem_of_getElem? (i := i % G.F.width) ?_)
  rw [List.getElem?_take, if_pos (Nat.mod_lt _ hw), List.getElem?_drop, e]
  exact hi
/-- A copy of a list of the call's own. -/
def CopyL {α : Type} (G : Owd α) (T : TypeId) (xs : List α) (w : World) (e : Ending) (w' : World) : Prop := ∃ A c, e = .returned (.slice A xs.length c) ∧ OL G T w' (In w.heap.size w'.heap.size) A xs.length c xs ∧ Below w.heap.size w w'
/- COPIES -/
set_option maxRecDepth 100000 in
theorem cloneInt_any (A : Option Addr) (n c : Nat) (xs : List _) (w : World) (S : Nat → Prop) (h : LRow intO.F w S A xs) (hS : ∀ b, S b → b < w.heap.size) (l : xs.length = n) (m : n ≤ 1048576) :
    Calls Tryz.prog 87 #[.slice A n c] w (CopyL intO 2 xs w) := by
  obtain ⟨vs, hr, hvl, h1, hc⟩ := LRow.flat flat_int h
  have HO := Lib.hid (World.ownsRow_made (e := 2) (size := 1) w #[] 0 (Nat.le_refl _) (Nat.zero_le _) rfl)
  have HR := Lib.hid (hr.keep (SameOn.of_below ((Below.refl w.heap.size w).alloc (Nat.le_refl _) (.cells #[] 2)) hS))
  have HL := Lib.hid (show vs.length = n * 1 by rw [hvl, l]; rfl)
  have L := Lib.hid l
  have H1 := Lib.hid h1
  have HC := Lib.hid hc
  clear l hvl h1 hc h hr
  rcases A with _ | ad
  · have hn : vs = [] := by
      rcases Nat.eq_zero_or_pos vs.length with h0 | h0
      · exact List.eq_nil_of_length_eq_zero h0
      · obtain ⟨b, off, e, _⟩ := HR.out h0
        cases e
    have hn0 : n = 0 := by have := HL.out; rw [hn] at this; simp at this; omega
    subst hn0
    have hnil := fun (w : World) => Lib.run_eql_slice_nil (P := Tryz.prog) w 26 2 none 0 c 0 0 Tryz.underlying26
    go_enter Tryz.func87, Tryz.ntmps87
    go_wp2
    go_ret
    exact ⟨none, 0, by rw [L.out]; rfl, by rw [L.out]; rw [List.eq_nil_of_length_eq_zero L.out]; exact OL.nil, Below.refl _ _⟩
  · have hnil := fun (w : World) => Lib.run_eql_slice_nil (P := Tryz.prog) w 26 2 (some ad) n c 0 0 Tryz.underlying26
    go_enter Tryz.func87, Tryz.ntmps87
    go_wp2_with (at_builtin; refine wpList_append_vs el_int rfl _ _ rfl _ w.heap.size (.slice (some ⟨w.heap.size, 0, none⟩) 0 0) 0 [] rfl (by exact HO.out) S (some ad) n c vs rfl (by exact HR.out) HL.out H1.out (by omega) (by simp) ?_; intro A' c' w' ho hg; have HO2 := Lib.hid ho; have HG := Lib.hid hg; clear ho hg)
    go_ret
    refine ⟨A', c', by rw [L.out]; rfl, ?_, ((Below.refl _ _).alloc (Nat.le_refl _) _).grown HG.out (by simp) (fun g e => by cases e; exact Nat.le_refl _)⟩
    have ho : w'.ownsRow w.heap.size 2 1 (.slice A' n c') n vs := by have := HO2.out; rw [Nat.zero_add, List.nil_append] at this; exact this
    rw [L.out]
    exact HC.out w' w.heap.size n c' _ A' L.out ho
set_option maxRecDepth 100000 in
theorem cloneTxt_any (A : Option Addr) (n c : Nat) (xs : List _) (w : World) (S : Nat → Prop) (h : LRow txtO.F w S A xs) (hS : ∀ b, S b → b < w.heap.size) (l : xs.length = n) (m : n ≤ 1048576) :
    Calls Tryz.prog 53 #[.slice A n c] w (CopyL txtO 9 xs w) := by
  obtain ⟨vs, hr, hvl, h1, hc⟩ := LRow.flat flat_txt h
  have HO := Lib.hid (World.ownsRow_made (e := 9) (size := 1) w #[] 0 (Nat.le_refl _) (Nat.zero_le _) rfl)
  have HR := Lib.hid (hr.keep (SameOn.of_below ((Below.refl w.heap.size w).alloc (Nat.le_refl _) (.cells #[] 9)) hS))
  have HL := Lib.hid (show vs.length = n * 1 by rw [hvl, l]; rfl)
  have L := Lib.hid l
  have H1 := Lib.hid h1
  have HC := Lib.hid hc
  clear l hvl h1 hc h hr
  rcases A with _ | ad
  · have hn : vs = [] := by
      rcases Nat.eq_zero_or_pos vs.length with h0 | h0
      · exact List.eq_nil_of_length_eq_zero h0
      · obtain ⟨b, off, e, _⟩ := HR.out h0
        cases e
    have hn0 : n = 0 := by have := HL.out; rw [hn] at this; simp at this; omega
    subst hn0
    have hnil := fun (w : World) => Lib.run_eql_slice_nil (P := Tryz.prog) w 22 9 none 0 c 0 0 Tryz.underlying22
    go_enter Tryz.func53, Tryz.ntmps53
    go_wp2
    go_ret
    exact ⟨none, 0, by rw [L.out]; rfl, by rw [L.out]; rw [List.eq_nil_of_length_eq_zero L.out]; exact OL.nil, Below.refl _ _⟩
  · have hnil := fun (w : World) => Lib.run_eql_slice_nil (P := Tryz.prog) w 22 9 (some ad) n c 0 0 Tryz.underlying22
    go_enter Tryz.func53, Tryz.ntmps53
    go_wp2_with (at_builtin; refine wpList_append_vs el_str rfl _ _ rfl _ w.heap.size (.slice (some ⟨w.heap.size, 0, none⟩) 0 0) 0 [] rfl (by exact HO.out) S (some ad) n c vs rfl (by exact HR.out) HL.out H1.out (by omega) (by simp) ?_; intro A' c' w' ho hg; have HO2 := Lib.hid ho; have HG := Lib.hid hg; clear ho hg)
    go_ret
    refine ⟨A', c', by rw [L.out]; rfl, ?_, ((Below.refl _ _).alloc (Nat.le_refl _) _).grown HG.out (by simp) (fun g e => by cases e; exact Nat.le_refl _)⟩
    have ho : w'.ownsRow w.heap.size 9 1 (.slice A' n c') n vs := by have := HO2.out; rw [Nat.zero_add, List.nil_append] at this; exact this
    rw [L.out]
    exact HC.out w' w.heap.size n c' _ A' L.out ho
end Go.Proofs.YtbailpfjgjcbdaaGreatDoor

namespace Go.Proofs.YtbailpfjgjcbdaaGreatDoor
open Go.RowKit
def selB (sb : List Bool) (j : Nat) : List Int := (nums j).filter fun k => sb.getD k.toNat false
theorem selB_yes {sb : List Bool} {j : Nat} (h : sb[j]? = some true) : selB sb (j + 1) = selB sb j ++ [(j : Int)] := by
  unfold selB
  rw [nums_succ, List.filter_append]
  simp [h]
theorem selB_no {sb : List Bool} {j : Nat} (h : sb[j]? = some false) : selB sb (j + 1) = selB sb j := by
  unfold selB
  rw [nums_succ, List.filter_append]
  simp [h]
theorem selB_len (sb : List Bool) (j : Nat) : (selB sb j).length ≤ j := by
  have h := List.length_filter_le (fun k : Int => sb.getD k.toNat false) (nums j)
  have h2 : (nums j).length = j := by unfold nums; rw [List.length_map, List.length_range]
  unfold selB; omega
/-- A set of states that is sound. -/
structure Mid (x : Lt) (sb : List Bool) : Prop where
  len : sb.length = x.st.toNat
  ini : sb[x.ini.toNat]? = some true
  snd : ∀ j : Nat, sb[j]? = some true → Rch x (j : Int)
/-- .. closed under the first j edges. -/
def clo (x : Lt) (sb : List Bool) (j : Nat) : Prop := ∀ e ∈ x.es.take j, sb[e.f.toNat]? = some true → sb[e.t.toNat]? = some true
theorem clo_zero (x : Lt) (sb : List Bool) : clo x sb 0 := fun e he => by simp at he
theorem clo_next {x : Lt} {sb : List Bool} {j : Nat} {e : Ed} (h : clo x sb j) (he : x.es[j]? = some e) (hs : sb[e.f.toNat]? = some true → sb[e.t.toNat]? = some true) : clo x sb (j + 1) := by
  intro u hu
  rw [take_one _ _ _ he, List.mem_append, List.mem_singleton] at hu
  rcases hu with hu | rfl
  · exact h u hu
  · exact hs
theorem mid_done {x : Lt} {sb : List Bool} (h : Mid x sb) (hc : clo x sb x.es.length) {j : Nat} {b : Bool} (hb : sb[j]? = some b) : b = rchB x (j : Int) := by
  rcases b with _ | _
  · symm
    rw [Bool.eq_false_iff]
    intro hr
    have h2 := rch_closed (P := fun k => sb[k.toNat]? = some true) h.ini (fun e he hf => hc e (by rw [List.take_of_length_le (Nat.le_refl _)]; exact he) hf) (rchB_iff.1 hr)
    have h3 : sb[(j : Int).toNat]? = some true := h2
    rw [Int.toNat_natCast, hb] at h3
    cases h3
  · exact (rchB_iff.2 (h.snd j hb)).symm
theorem selB_all {x : Lt} {sb : List Bool} (h : Mid x sb) (hc : clo x sb x.es.length) : selB sb x.st.toNat = rchL x := by
  unfold selB rchL
  refine List.filter_congr fun k hk => ?_
  have h1 := mem_nums.1 hk
  have h2 : k.toNat < sb.length := by rw [h.len]; omega
  have h3 := mid_done h hc (List.getElem?_eq_getElem h2)
  rw [List.getD_eq_getElem?_getD, List.getElem?_eq_getElem h2]
  show sb[k.toNat] = _
  rw [h3, Int.toNat_of_nonneg h1.1]
theorem Mid.set {x : Lt} {sb : List Bool} {e : Ed} {t : Nat} (h : Mid x sb) (he : e ∈ x.es) (hf : sb[e.f.toNat]? = some true) (h0 : 0 ≤ e.f) (ht : e.t = (t : Int)) : Mid x (sb.set t true) := by
  refine ⟨by rw [List.length_set]; exact h.len, ?_, fun j hj => ?_⟩
  · rw [List.getElem?_set]
    split
    · split
      · rfl
      · rename_i h1 h2
        have := (List.getElem?_eq_some_iff.1 h.ini).1
        omega
    · exact h.ini
  · rw [List.getElem?_set] at hj
    split at hj
    · rename_i h1
      subst h1
      rw [← ht]
      refine Rch.step he ?_
      have := h.snd _ hf
      rwa [Int.toNat_of_nonneg h0] at this
    · exact h.snd j hj
/-- How many states are not in the set. -/
def cntF (sb : List Bool) : Nat → Nat
  | 0 => 0
  | n + 1 => cntF sb n + (if sb[n]? = some false then 1 else 0)
theorem cntF_far {sb : List Bool} {j : Nat} : ∀ {n : Nat}, n ≤ j → cntF (sb.set j true) n = cntF sb n
  | 0, _ => rfl
  | n + 1, h => by
    unfold cntF
    rw [cntF_far (by omega), List.getElem?_set_ne (by omega)]
theorem cntF_set {sb : List Bool} {j : Nat} (h : sb[j]? = some false) : ∀ {n : Nat}, j < n → cntF (sb.set j true) n + 1 = cntF sb n
  | 0, hj => by omega
  | n + 1, hj => by
    unfold cntF
    by_cases e : j = n
    · subst e
      have hl := (List.getElem?_eq_some_iff.1 h).1
      rw [cntF_far (Nat.le_refl _), h, List.getElem?_set_self hl]
      simp
    · rw [List.getElem?_set_ne e]
      have := cntF_set h (n := n) (by omega)
      omega
noncomputable def lowN (W : World) (b : Nat) : Nat → Nat
  | 0 => 0
  | n + 1 => lowN W b n + (@ite _ (W.cell? ⟨b, n, none⟩ = some (.bool false)) (Classical.propDecidable _) 1 0)
theorem low_cnt {W : World} {b : Nat} {sb : List Bool} : ∀ {n : Nat}, (∀ j, j < n → W.cell? ⟨b, j, none⟩ = (sb.map Value.bool)[j]?) → lowN W b n = cntF sb n
  | 0, _ => rfl
  | n + 1, h => by
    unfold lowN cntF
    rw [low_cnt fun j hj => h j (by omega), h n (by omega), List.getElem?_map]
    cases sb[n]? with
    | none => simp
    | some v => cases v <;> simp
def mOf : Value → Nat
  | .bool true => 1
  | _ => 0
theorem srow_int (w : World) (i : Int) (T : TypeId) : SRow (w.alloc (.cells #[.int .i64 i] T)) (fun _ => True) (some ⟨w.heap.size, 0, none⟩) [.int .i64 i] := by
  intro _
  refine ⟨w.heap.size, 0, rfl, trivial, fun j u hj => ?_⟩
  match j, hj with
  | 0, hj => injection hj with hj; subst hj; simp [go_sem]
theorem one_int (i : Int) : ∀ u ∈ [Value.int .i64 i], u.oneCell' = true := by
  intro u hu
  rw [List.mem_singleton] at hu
  subst hu; rfl
theorem ol_int {w : World} {lo n c : Nat} {A : Option Addr} {xs : List Int} {T : TypeId} (h : w.ownsRow lo T 1 (.slice A n c) n (xs.map (Value.int .i64))) (hl : xs.length = n) : OL intO T w (In lo w.heap.size) A n c xs := by
  refine ⟨hl, fun g hg => h.lt g hg, xs.map (Value.int .i64), fun _ _ => False, own_low h (Nat.zero_le _), fun j e he => ?_, fun _ _ _ e => e.elim, fun _ _ _ _ _ _ e => e.elim⟩
  have h2 : (xs.map (Value.int .i64))[j]? = some (Value.int .i64 e) := by rw [List.getElem?_map, he]; rfl
  have e3 : ((xs.map (Value.int .i64)).drop (j * 1)).take 1 = [Value.int .i64 e] := by
    rw [Nat.mul_one, drop_one _ _ _ h2]; rfl
  show intR.R w (fun _ => False) e (((xs.map (Value.int .i64)).drop (j * 1)).take 1)
  rw [e3]; rfl
theorem ok_rch {x : Lt} (hx : ltB x = true) : (rchL x).length ≤ 40 := by
  have h1 := rchL_len x
  have h2 := (ltB_parts hx).1
  omega
end Go.Proofs.YtbailpfjgjcbdaaGreatDoor

namespace Go.Proofs.YtbailpfjgjcbdaaGreatDoor
open Go.RowKit
def Que (w : World) (lo : Nat) (A : Option Addr) (n c : Nat) (ws : List Int) : Prop :=
  ws.length = n ∧ n ≤ c ∧ c ≤ maxLen ∧ (0 < c → ∃ g off, A = some ⟨g, off, none⟩ ∧ lo ≤ g ∧ g < w.heap.size ∧ (∀ j u, ws[j]? = some u → w.cell? ⟨g, off + j, none⟩ = some (.int .i64 u)) ∧ ∀ j, j < c → (w.cell? ⟨g, off + j, none⟩).isSome = true ∧ w.frozen? ⟨g, off + j, none⟩ = false)
/-- All that is no row of cells stands as it stood. -/
def Kpt (w w' : World) : Prop := ∀ (k : Nat) (o : Obj), w.heap[k]? = some o → (∀ c t fz, o ≠ .cells c t fz) → w'.heap[k]? = some o
theorem Kpt.refl (w : World) : Kpt w w := fun _ _ h _ => h
theorem que_of_ol {w : World} {S : Nat → Prop} {A : Option Addr} {n c lo : Nat} {xs : List Int} {T : TypeId} (h : OL intO T w S A n c xs) (hS : ∀ b, S b → lo ≤ b) : Que w lo A n c xs := by
  have hl := h.len
  have ht := h.top
  have hcap := h.cap
  have hrd : LRow intR w S A xs := h.lrow
  obtain ⟨_, _, vs, E, ⟨h1, h2⟩, _⟩ := h
  refine ⟨hl, hcap.1, hcap.2, fun hc => ?_⟩
  rcases h2 with ⟨e, _⟩ | ⟨g, cap, cur, e, _, hg, hn, hm, hs, _⟩
  · injection e with _ _ e; omega
  · injection e with e1 _ e2
    subst e1 e2
    have hgl : g < w.heap.size := (Array.getElem?_eq_some_iff.1 hg).1
    refine ⟨g, 0, rfl, hS g (ht g rfl), hgl, fun j u hj => ?_, fun j hj => ?_⟩
    · obtain ⟨b, o, cs, i, eA, _, hR, hi, hcell⟩ := hrd.at_ (k := j) (List.getElem?_eq_some_iff.1 hj).1
      have hR : cs = [Value.int .i64 i] := hR
      subst hR
      injection eA with eA
      injection eA with e3 e4
      subst e3 e4
      have e5 : i = u := by have := hi.out.symm.trans hj; injection this
      subst e5
      have := hcell 0 _ rfl
      simpa [intR] using this
    · rw [Nat.zero_add, Lib.cell_of_heap hg, Lib.frozen_of_heap hg]
      have hsz : j < cur.size := by
        have : cur.size = c * 1 := hs
        omega
      exact ⟨by rw [Array.getElem?_eq_getElem hsz]; rfl, rfl⟩
theorem Que.keep {w w' : World} {lo : Nat} {A : Option Addr} {n c : Nat} {ws : List Int} (h : Que w lo A n c ws) (hb : Below w.heap.size w w') : Que w' lo A n c ws := by
  obtain ⟨h1, h2, h3, h4⟩ := h
  refine ⟨h1, h2, h3, fun hc => ?_⟩
  obtain ⟨g, off, e, hl, hg, h5, h6⟩ := h4 hc
  refine ⟨g, off, e, hl, Nat.lt_of_lt_of_le hg hb.size, fun j u hj => (hb.cell (p := ⟨g, off + j, none⟩) hg).trans (h5 j u hj), fun j hj => ?_⟩
  rw [World.cell?_of_block (a := ⟨g, off + j, none⟩) (hb.block g hg), World.frozen?_of_block (a := ⟨g, off + j, none⟩) (hb.block g hg)]
  exact h6 j hj
theorem Que.put {w w' : World} {lo : Nat} {A : Option Addr} {n c : Nat} {ws : List Int} (h : Que w lo A n c ws) (hs : w.heap.size ≤ w'.heap.size) (hb : ∀ (k : Nat) (o : Obj), w.heap[k]? = some o → (∃ cs t fz, o = .cells cs t fz) → w'.heap[k]? = some o) : Que w' lo A n c ws := by
  obtain ⟨h1, h2, h3, h4⟩ := h
  refine ⟨h1, h2, h3, fun hc => ?_⟩
  obtain ⟨g, off, e, hl, hg, h5, h6⟩ := h4 hc
  have hk : w'.heap[g]? = w.heap[g]? := by
    have h7 := (h6 0 hc).1
    cases ho : w.heap[g]? with
    | none => simp [World.cell?, ho] at h7
    | some o =>
      cases o with
      | cells cs t fz => exact hb g _ ho ⟨_, _, _, rfl⟩
      | _ => simp [World.cell?, ho] at h7
  refine ⟨g, off, e, hl, Nat.lt_of_lt_of_le hg hs, fun j u hj => (World.cell?_of_block (a := ⟨g, off + j, none⟩) hk).trans (h5 j u hj), fun j hj => ?_⟩
  rw [World.cell?_of_block (a := ⟨g, off + j, none⟩) hk, World.frozen?_of_block (a := ⟨g, off + j, none⟩) hk]
  exact h6 j hj
theorem Que.head {w : World} {lo : Nat} {A : Option Addr} {n c : Nat} {k : Int} {ws : List Int} (h : Que w lo A n c (k :: ws)) : ∃ g off, A = some ⟨g, off, none⟩ ∧ g < w.heap.size ∧ w.cell? ⟨g, off, none⟩ = some (.int .i64 k) := by
  obtain ⟨h1, h2, _, h4⟩ := h
  rw [List.length_cons] at h1
  obtain ⟨g, off, e, _, hg, h5, _⟩ := h4 (by omega)
  exact ⟨g, off, e, hg, h5 0 k rfl⟩
/-- What is left behind the first element. -/
theorem Que.tail {w : World} {lo g off n c : Nat} {k : Int} {ws : List Int} (h : Que w lo (some ⟨g, off, none⟩) (n + 1) c (k :: ws)) : if c = 1 then n = 0 ∧ Que w lo (some ⟨g, off, none⟩) 0 0 ws else Que w lo (some ⟨g, off + 1, none⟩) n (c - 1) ws := by
  obtain ⟨h1, h2, h3, h4⟩ := h
  rw [List.length_cons] at h1
  obtain ⟨g2, off2, e, hl, hg, h5, h6⟩ := h4 (by omega)
  injection e with e
  injection e with e1 e2 _
  subst e1 e2
  split
  · exact ⟨by omega, by omega, Nat.le_refl _, Nat.zero_le _, fun h => absurd h (by decide)⟩
  · refine ⟨by omega, by omega, by omega, fun hc => ⟨g, off + 1, rfl, hl, hg, fun j u hj => ?_, fun j hj => ?_⟩⟩
    · rw [show off + 1 + j = off + (j + 1) by omega]; exact h5 (j + 1) u hj
    · rw [show off + 1 + j = off + (j + 1) by omega]; exact h6 (j + 1) (by omega)
theorem setCells_rest (g : Nat) : ∀ (vs : List Value) (o : Nat) (w : World), (w.setCells g o vs).tape = w.tape ∧ (w.setCells g o vs).heap.size = w.heap.size
  | [], _, _ => ⟨rfl, rfl⟩
  | v :: r, o, w => by
    have h := setCells_rest g r (o + 1) (w.setCell ⟨g, o, none⟩ v)
    unfold World.setCells
    exact ⟨h.1.trans rfl, h.2.trans (by simp)⟩
theorem int_one {news : List Int} : ∀ u ∈ news.map (Value.int .i64), u.oneCell' = true := by
  intro u hu
  obtain ⟨_, _, rfl⟩ := List.mem_map.1 hu
  rfl
theorem src_row {w : World} {S : Nat → Prop} {A2 : Option Addr} {m c2 : Nat} {news : List Int} (hr : LRow intR w S A2 news) (hm : news.length = m) (hpos : 0 < m) : Src Tryz.prog 1 26 (.slice A2 m c2) m (news.map (Value.int .i64)) w := by
  obtain ⟨b, o, cs, u, rfl, _⟩ := hr.at_ (k := 0) (by omega)
  refine Src.ofSlice w (size := 1) Tryz.underlying26 ⟨b, o, none⟩ m c2 _ (by rw [List.length_map]; omega) (fun j u hj => ?_) int_one
  rw [List.getElem?_map] at hj
  cases hx : news[j]? with
  | none => rw [hx] at hj; cases hj
  | some x =>
    rw [hx] at hj
    injection hj with hj
    subst hj
    obtain ⟨b2, o2, cs2, i, eA, _, hR, hi, hcell⟩ := hr.at_ (k := j) (List.getElem?_eq_some_iff.1 hx).1
    have hR : cs2 = [Value.int .i64 i] := hR
    subst hR
    injection eA with eA
    injection eA with e3 e4
    subst e3 e4
    have e5 : i = x := by have := hi.out.symm.trans hx; injection this
    subst e5
    have := hcell 0 _ rfl
    rw [Addr.add_lit]
    simpa [intR] using this
set_option maxRecDepth 100000 in
theorem run_append_que {w : World} {lo : Nat} {A : Option Addr} {n c : Nat} {ws : List Int} (h : Que w lo A n c ws) (hlo : lo ≤ w.heap.size) {S : Nat → Prop} {A2 : Option Addr} {m c2 : Nat} {news : List Int} (hr : LRow intR w S A2 news) (hm : news.length = m) (ht : TypeId) (hb : n + m ≤ 8000000) :
    ∃ A' c' w', (Builtin.append_ #[26, 26] ht #[.slice A n c, .slice A2 m c2]).run Tryz.prog w = .ok (.slice A' (n + m) c') w' ∧ Que w' lo A' (n + m) c' (ws ++ news) ∧ Below lo w w' ∧ Kpt w w' := by
  obtain ⟨i0, hi, hz0, hz1, hz2⟩ := info_parts (show (Tryz.prog.info? 2).map (fun i => (i.zero, i.size, i.bytes)) = some (some (.int .i64 0), 1, 8) by kernel_rfl)
  rcases Nat.eq_zero_or_pos m with h0 | hpos
  · subst h0
    obtain rfl : news = [] := List.eq_nil_of_length_eq_zero hm
    have hs : Src Tryz.prog i0.size 26 (.slice A2 0 c2) 0 [] w := by
      rw [hz1]
      cases A2 with
      | none => exact Src.ofNil w (size := 1) Tryz.underlying26 c2
      | some a => exact Src.ofSlice w (size := 1) Tryz.underlying26 a 0 c2 [] rfl (fun j u hj => by simp at hj) (fun u hu => by cases hu)
    have hrun := run_append_nothing (P := Tryz.prog) w 26 26 ht 2 i0 Tryz.underlying26 hi A n c h.2.1 (.slice A2 0 c2) hs
    exact ⟨A, c, w, hrun, by rw [List.append_nil]; exact h, Below.refl _ _, Kpt.refl _⟩
  have hs : Src Tryz.prog i0.size 26 (.slice A2 m c2) m (news.map (Value.int .i64)) w := by rw [hz1]; exact src_row hr hm hpos
  obtain ⟨h1, h2, h3, h4⟩ := h
  by_cases hroom : n + m ≤ c
  · obtain ⟨g, off, rfl, hl, hg, h5, h6⟩ := h4 (by omega)
    have hnl : (news.map (Value.int .i64)).length = m := by rw [List.length_map, hm]
    have hin : ∀ j, j < (news.map (Value.int .i64)).length → (w.cell? ⟨g, off + n * i0.size + j, none⟩).isSome = true := fun j hj => by
      rw [hz1, show off + n * 1 + j = off + (n + j) by omega]; exact (h6 (n + j) (by omega)).1
    have hrun := run_append_room_src (P := Tryz.prog) w 26 26 ht 2 i0 Tryz.underlying26 hi g off n c _ m _ hs hroom hin
      (fun j hj => by rw [hz1, show off + n * 1 + j = off + (n + j) by omega]; exact (h6 (n + j) (by omega)).2)
    rw [hz1, show off + n * 1 = off + n by omega] at hrun
    rw [hz1] at hin
    obtain ⟨r1, r2⟩ := setCells_rest g (news.map (Value.int .i64)) (off + n) w
    have hoth : ∀ k, k < w.heap.size → k ≠ g → (w.setCells g (off + n) (news.map (Value.int .i64))).heap[k]? = w.heap[k]? := fun k hk hne => World.heap_setCells_other w g _ _ hk hne
    have hin2 := World.cell?_setCells_in g (news.map (Value.int .i64)) (off + n) w (fun j hj => by have := hin j hj; rwa [show off + n * 1 + j = off + n + j by omega] at this)
    refine ⟨_, _, _, hrun, ⟨by rw [List.length_append]; omega, hroom, h3, fun _ => ⟨g, off, rfl, hl, by rw [r2]; exact hg, fun j u hj => ?_, fun j hj => ?_⟩⟩, ⟨World.os_setCells _ _ _ _, r1, World.output_setCells _ _ _ _, by rw [r2]; exact Nat.le_refl _, fun k hk => hoth k (by omega) (by omega)⟩, fun k o hk hno => ?_⟩
    · by_cases hjn : j < n
      · rw [List.getElem?_append_left (by omega)] at hj
        rw [World.cell?_setCells_out g _ _ _ _ (fun _ _ => Or.inl (by show off + j < off + n; omega))]
        exact h5 j u hj
      · rw [List.getElem?_append_right (by omega), h1] at hj
        have hjm : j - n < (news.map (Value.int .i64)).length := by rw [List.length_map]; exact (List.getElem?_eq_some_iff.1 hj).1
        have := hin2 (j - n) hjm
        rw [show off + n + (j - n) = off + j by omega] at this
        rw [this]
        have e : (news.map (Value.int .i64))[j - n]? = some (.int .i64 u) := by rw [List.getElem?_map, hj]; rfl
        rw [← e, List.getElem?_eq_getElem hjm]
    · refine ⟨?_, (World.frozen?_setCells g _ _ _ _).trans (h6 j hj).2⟩
      by_cases hjn : n ≤ j ∧ j < n + m
      · have := hin2 (j - n) (by omega)
        rw [show off + n + (j - n) = off + j by omega] at this
        rw [this]; rfl
      · rw [World.cell?_setCells_out g _ _ _ _ (fun _ _ => by show off + j < off + n ∨ off + n + _ ≤ off + j; omega)]
        exact (h6 j hj).1
    · rw [hoth k (Array.getElem?_eq_some_iff.1 hk).1 (fun e => ?_)]
      · exact hk
      · subst e
        have h7 := (h6 0 (by omega)).1
        cases o with
        | cells cs t fz => exact hno cs t fz rfl
        | _ => simp [World.cell?, hk] at h7
  · have hold : (Builtin.firstCells i0.size n (.slice A n c)).run Tryz.prog w.drew = .ok (ws.map (Value.int .i64)).toArray w.drew := by
      rw [hz1]
      rcases Nat.eq_zero_or_pos c with hc0 | hcp
      · have hn0 : n = 0 := by omega
        subst hn0
        obtain rfl : ws = [] := List.eq_nil_of_length_eq_zero h1
        cases A with
        | none => exact run_firstCells_none w.drew 1 0 0 c
        | some a => exact run_firstCells_some w.drew 1 0 a 0 c [] rfl (fun j v hv => by simp at hv)
      · obtain ⟨g, off, rfl, _, _, h5, _⟩ := h4 hcp
        refine run_firstCells_some w.drew 1 n ⟨g, off, none⟩ n c _ (by rw [List.length_map]; omega) (fun j v hv => ?_)
        rw [List.getElem?_map] at hv
        cases hx : ws[j]? with
        | none => rw [hx] at hv; cases hv
        | some x =>
          rw [hx] at hv
          injection hv with hv
          subst hv
          rw [Addr.add_lit]
          exact h5 j x hx
    have hfit : Builtin.nextslicecap (n + m) c * i0.bytes ≤ 281474976710656 := growslice_fits (by omega) (by rw [hz2]; omega)
    have hrun := run_append_grow_src (P := Tryz.prog) w 26 26 ht 2 i0 (.int .i64 0) Tryz.underlying26 hi hz0 A n c _ hold _ m _ hs (by omega) (by omega) hfit
    have hge := grownCap_ge w (n + m) c 2
    have hcm := grownCap_le_maxLen w (n + m) c 2 (by unfold maxLen; omega)
    have hnew : (w.drew.alloc (.cells ((ws.map (Value.int .i64) ++ news.map (Value.int .i64)).toArray ++ Builtin.zeroCells (Value.int .i64 0).cells (grownCap w (n + m) c 2 - (n + m))) 2)).heap[w.heap.size]? = some (.cells ((ws.map (Value.int .i64) ++ news.map (Value.int .i64)).toArray ++ Builtin.zeroCells (Value.int .i64 0).cells (grownCap w (n + m) c 2 - (n + m))) 2) := heap_alloc_new w.drew _
    refine ⟨_, _, _, hrun, ⟨by rw [List.length_append]; omega, hge, hcm, fun _ => ⟨w.heap.size, 0, rfl, hlo, by simp, fun j u hj => ?_, fun j hj => ?_⟩⟩, ⟨rfl, rfl, rfl, by simp, fun k hk => Lib.alloc_old w.drew _ k (by show k < w.heap.size; omega)⟩, fun k o hk _ => by rw [Lib.alloc_old w.drew _ k (Array.getElem?_eq_some_iff.1 hk).1]; exact hk⟩
    · rw [Nat.zero_add, Lib.cell_of_heap hnew]
      have hjl := (List.getElem?_eq_some_iff.1 hj).1
      rw [Array.getElem?_append_left (by simpa using hjl)]
      rw [← List.map_append, List.getElem?_toArray, List.getElem?_map, hj]
      rfl
    · rw [Nat.zero_add, Lib.cell_of_heap hnew, Lib.frozen_of_heap hnew]
      refine ⟨?_, rfl⟩
      rw [Array.getElem?_eq_getElem]
      · rfl
      · have e1 : (Value.int .i64 0).cells.size = 1 := rfl
        simp only [Array.size_append, List.size_toArray, List.length_append, List.length_map, size_zeroCells, e1]
        omega
/-- .. at the operation, for the walk. -/
theorem wpList_append_que {ops : Array Oper} {rest : List Oper} {o : Oper} {a : Act} {Q : Exit → Act → World → Prop} (hgd : o.guard = none) (s x : Operand)
    (ho : o.op = .call { callee := .builtin .append, args := #[s, x], argTypes := #[26, 26] })
    {w : World} {lo : Nat} {A : Option Addr} {n c : Nat} {ws : List Int} (hs : a.eval s = .slice A n c) (h : Que w lo A n c ws) (hlo : lo ≤ w.heap.size) {S : Nat → Prop} {A2 : Option Addr} {m c2 : Nat} {news : List Int} (hx : a.eval x = .slice A2 m c2) (hr : LRow intR w S A2 news) (hm : news.length = m) (hb : n + m ≤ 8000000)
    (hK : ∀ A' c' w', Que w' lo A' (n + m) c' (ws ++ news) → Below lo w w' → Kpt w w' → wpList Tryz.prog ops Q rest (a.put o.dst (.slice A' (n + m) c')) w') :
    wpList Tryz.prog ops Q (o :: rest) a w := by
  refine wpList_plain hgd fun K hK' => ?_
  obtain ⟨A', c', w', hrun, h1, h2, h3⟩ := run_append_que h hlo hr hm o.type hb (c2 := c2)
  unfold Oper.wp
  simp only [execOp, ho, resolve, invoke, builtin, Sem.run_bind, Sem.run_pure, Result.andThen_ok, List.map_toArray, List.map_cons, List.map_nil, hs, hx, hrun]
  exact hK' _ _ (hK A' c' w' h1 h2 h3)
end Go.Proofs.YtbailpfjgjcbdaaGreatDoor

namespace Go.Proofs.YtbailpfjgjcbdaaGreatDoor
open Go.RowKit Go.Maps
def nxt (x : Lt) (k : Int) : List Int := (outE x k).map Ed.t
theorem mem_nxt {x : Lt} {k t : Int} : t ∈ nxt x k ↔ ∃ e ∈ x.es, e.f = k ∧ e.t = t := by
  unfold nxt outE
  rw [List.mem_map]
  constructor
  · rintro ⟨e, he, h⟩
    rw [List.mem_filter] at he
    exact ⟨e, he.1, by simpa using he.2, h⟩
  · rintro ⟨e, he, h1, h2⟩
    exact ⟨e, List.mem_filter.2 ⟨he, by simpa using h1⟩, h2⟩
theorem nxt_len (x : Lt) (k : Int) : (nxt x k).length ≤ x.es.length := by
  unfold nxt
  rw [List.length_map]
  exact List.length_filter_le _ _
structure Srch (x : Lt) (ks ws : List Int) : Prop where
  nd : ks.Nodup
  sk : ∀ k ∈ ks, Rch x k
  sw : ∀ k ∈ ws, Rch x k
  cl : ∀ e ∈ x.es, e.f ∈ ks → e.t ∈ ks ∨ e.t ∈ ws
  ini : x.ini ∈ ks ∨ x.ini ∈ ws
theorem Srch.start (x : Lt) : Srch x [] [x.ini] :=
  ⟨List.nodup_nil, fun k h => (by cases h), fun k h => (by rw [List.mem_singleton] at h; subst h; exact Rch.ini), fun e _ h => (by cases h), .inr (List.mem_singleton.2 rfl)⟩
theorem Srch.skip {x : Lt} {ks ws : List Int} {k : Int} (h : Srch x ks (k :: ws)) (hk : k ∈ ks) : Srch x ks ws := by
  refine ⟨h.nd, h.sk, fun u hu => h.sw u (List.mem_cons_of_mem _ hu), fun e he hf => ?_, ?_⟩
  · rcases h.cl e he hf with h1 | h1
    · exact .inl h1
    · rcases List.mem_cons.1 h1 with h2 | h2
      · rw [h2]; exact .inl hk
      · exact .inr h2
  · rcases h.ini with h1 | h1
    · exact .inl h1
    · rcases List.mem_cons.1 h1 with h2 | h2
      · rw [h2]; exact .inl hk
      · exact .inr h2
theorem Srch.step {x : Lt} {ks ws : List Int} {k : Int} (h : Srch x ks (k :: ws)) (hk : k ∉ ks) : Srch x (ks ++ [k]) (ws ++ nxt x k) := by
  have hrk : Rch x k := h.sw k (by simp)
  refine ⟨?_, fun u hu => ?_, fun u hu => ?_, fun e he hf => ?_, ?_⟩
  · rw [List.nodup_append]
    refine ⟨h.nd, by simp, fun a ha b hb => ?_⟩
    rw [List.mem_singleton] at hb
    subst hb
    intro e; subst e; exact hk ha
  · rw [List.mem_append, List.mem_singleton] at hu
    rcases hu with hu | rfl
    · exact h.sk u hu
    · exact hrk
  · rw [List.mem_append] at hu
    rcases hu with hu | hu
    · exact h.sw u (List.mem_cons_of_mem _ hu)
    · obtain ⟨e, he, h1, h2⟩ := mem_nxt.1 hu
      rw [← h2]
      exact Rch.step he (by rw [h1]; exact hrk)
  · rw [List.mem_append, List.mem_singleton] at hf
    rw [List.mem_append, List.mem_append, List.mem_singleton]
    rcases hf with hf | hf
    · rcases h.cl e he hf with h1 | h1
      · exact .inl (.inl h1)
      · rcases List.mem_cons.1 h1 with h2 | h2
        · exact .inl (.inr h2)
        · exact .inr (.inl h2)
    · exact .inr (.inr (mem_nxt.2 ⟨e, he, hf, rfl⟩))
  · rw [List.mem_append, List.mem_append, List.mem_singleton]
    rcases h.ini with h1 | h1
    · exact .inl (.inl h1)
    · rcases List.mem_cons.1 h1 with h2 | h2
      · exact .inl (.inr h2)
      · exact .inr (.inl h2)
theorem Srch.done {x : Lt} {ks : List Int} (h : Srch x ks []) (k : Int) : k ∈ ks ↔ Rch x k := by
  refine ⟨h.sk k, fun hr => ?_⟩
  refine rch_closed (P := fun k => k ∈ ks) ?_ (fun e he hf => ?_) hr
  · rcases h.ini with h1 | h1
    · exact h1
    · cases h1
  · rcases h.cl e he hf with h1 | h1
    · exact h1
    · cases h1
theorem up_len : ∀ {xs : List Int} {lo hi : Int}, xs.Pairwise (· < ·) → (∀ k ∈ xs, lo ≤ k ∧ k < hi) → lo ≤ hi → (xs.length : Int) ≤ hi - lo
  | [], lo, hi, _, _, h => by simp; omega
  | x :: xs, lo, hi, hp, hb, h => by
    rw [List.pairwise_cons] at hp
    have h1 := hb x (by simp)
    have h2 := up_len (lo := x + 1) (hi := hi) hp.2 (fun k hk => ⟨by have := hp.1 k hk; omega, (hb k (List.mem_cons_of_mem _ hk)).2⟩) (by omega)
    rw [List.length_cons]
    omega
theorem srch_len {x : Lt} {ks ws : List Int} (hv : ltB x = true) (h : Srch x ks ws) : ks.length ≤ 40 := by
  have hp := List.mergeSort_perm ks (fun a b : Int => decide (a ≤ b))
  have hs := List.pairwise_mergeSort (le := fun a b : Int => decide (a ≤ b)) (fun a b c h1 h2 => decide_eq_true (by have := of_decide_eq_true h1; have := of_decide_eq_true h2; omega)) (fun a b => by simp only [Bool.or_eq_true, decide_eq_true_iff]; omega) ks
  have hd : (ks.mergeSort (fun a b => decide (a ≤ b))).Nodup := hp.symm.nodup h.nd
  have hu : (ks.mergeSort (fun a b => decide (a ≤ b))).Pairwise (· < ·) := (hs.and hd).imp fun {a b} h => by
    have h1 := of_decide_eq_true h.1
    have h2 : a ≠ b := h.2
    omega
  have hst := (ltB_parts hv).1
  have h3 := up_len (lo := 0) (hi := x.st) hu (fun k hk => rch_in hv (h.sk k (hp.mem_iff.1 hk))) (by omega)
  rw [hp.length_eq] at h3
  omega
/-- A map of numbers to truth values that is a set. -/
structure SetIs (D : DataW Unit) (ks : List Int) : Prop where
  has : ∀ k, Maps.has D (.int .i64 k) = decide (k ∈ ks)
  val : ∀ k, D.atKey (.int .i64 k) (.lit (.bool false)) = .lit (.bool (decide (k ∈ ks)))
  size : Maps.size D = ks.length
theorem SetIs.nil : SetIs (.map []) [] := ⟨fun _ => rfl, fun _ => rfl, rfl⟩
theorem lit_ne {a b : Int} (h : a ≠ b) : (Lit.int .i64 a) ≠ .int .i64 b := fun e => h (by injection e)
theorem SetIs.put {D : DataW Unit} {ks : List Int} {k : Int} (h : SetIs D ks) (ht : Maps.Tidy D) (hk : k ∉ ks) : SetIs (D.put (.int .i64 k) (.lit (.bool true))) (ks ++ [k]) := by
  have hno : Maps.has D (.int .i64 k) = false := by rw [h.has]; exact decide_eq_false hk
  refine ⟨fun u => ?_, fun u => ?_, by rw [Maps.size_put ht, hno, h.size]; simp⟩
  · by_cases e : u = k
    · subst e; rw [Maps.has_put_same ht.isMap (show WideAt.IsKeyLit (.int .i64 u) from trivial)]; simp
    · rw [Maps.has_put_other (lit_ne e), h.has]; simp [e]
  · by_cases e : u = k
    · subst e; rw [Maps.atKey_put_same ht.isMap (show WideAt.IsKeyLit (.int .i64 u) from trivial)]; simp
    · rw [Maps.atKey_put_other (lit_ne e), h.val]; simp [e]
def mapSize (W : World) (b : Nat) : Nat := match W.heap[b]? with
  | some (.map es _) => es.size
  | _ => 0
theorem mapN {H : Type} {P : Program} {k : TypeId} {R : Value → Option (DataW H × List MemPlace)} {w : World} {b n : Nat} {D : DataW H} (h : w.ownsMap P k R b n D) : mapSize w b = Maps.size D := by
  obtain ⟨es, clock, hb, F, _, rfl⟩ := h
  unfold mapSize
  rw [hb]
  simp [Maps.size, length_sorted]
theorem owns_bel {H : Type} {P : Program} {k : TypeId} {R : Value → Option (DataW H × List MemPlace)} {w w' : World} {b n : Nat} {D : DataW H} (h : w.ownsMap P k R b n D) (hb : Below w.heap.size w w') : w'.ownsMap P k R b n D :=
  h.kept (row := none) ⟨hb.os, hb.tape, hb.output, hb.size, fun k hk _ => hb.block k hk⟩ (by simp)
theorem owns_kpt {H : Type} {P : Program} {k : TypeId} {R : Value → Option (DataW H × List MemPlace)} {w w' : World} {b n : Nat} {D : DataW H} (h : w.ownsMap P k R b n D) (hb : Kpt w w') : w'.ownsMap P k R b n D := by
  obtain ⟨es, clock, h1, h2⟩ := h
  exact ⟨es, clock, hb _ _ h1 (fun c t fz e => by cases e), h2⟩
theorem que_map {H : Type} {P : Program} {k : TypeId} {R : Value → Option (DataW H × List MemPlace)} {w w' : World} {lo b n m c : Nat} {D : DataW H} {A : Option Addr} {ws : List Int} (h : Que w lo A n c ws) (ho : w.ownsMap P k R b m D) (hg : w.grownBy w' (some b)) : Que w' lo A n c ws := by
  obtain ⟨es, clock, h1, _⟩ := ho
  refine h.put hg.size fun i o hi hc => ?_
  obtain ⟨cs, t, fz, rfl⟩ := hc
  rw [hg.block i (Array.getElem?_eq_some_iff.1 hi).1 (fun e => ?_)]
  · exact hi
  · injection e with e
    subst e
    rw [hi] at h1
    cases h1
def qLen : Value → Nat
  | .slice _ n _ => n
  | _ => 0
theorem plainElem_boolI {H : Type} {P : Program} {e : TypeId} (he : P.underlying e = some .bool) {v : Value} {z : DataW H × List MemPlace} (h : plainElem P e v = some z) : ∃ a, v = .bool a ∧ z = (.lit (.bool a), []) := by
  unfold plainElem at h
  rw [he] at h
  cases v <;> simp at h
  subst h
  exact ⟨_, rfl, rfl⟩
theorem look_bool {H : Type} {P : Program} {k e t : TypeId} {w : World} {b n : Nat} {D : DataW H} (h : w.ownsMap P k (plainElem P e) b n D) (K : Keyed P k) (ht : P.underlying t = some (.map k e)) (he : P.underlying e = some .bool) (hz : (zeroValue e).run P w = .ok (.bool false) w)
    {key : Value} {kl : Lit} (hkey : keyOf P k key = some kl) {x : Bool} (hx : D.atKey kl (.lit (.bool false)) = .lit (.bool x)) : (Instr.lookup t (.map (some b)) key false).run P w = .ok (.bool x) w := by
  obtain ⟨v, ps, hrun, hv⟩ := h.lookup K ht hz (plainElem_bool he false) hkey
  obtain ⟨c, rfl, hc⟩ := plainElem_boolI he hv
  simp only [Prod.mk.injEq] at hc
  rw [hx] at hc
  have := hc.1
  simp only [DataW.lit.injEq, Lit.bool.injEq] at this
  rw [this]; exact hrun
end Go.Proofs.YtbailpfjgjcbdaaGreatDoor

namespace Go.Proofs
open Go.RowKit Go.Maps Go.Sort Go.Shelf
shelf_lay_g SlLaysZI.n7 Ggz 7 at Tryz 89 as Tryz.keysI
shelf_lay_g SlLaysZI.n6 Ggz 6 at Tryz 88 as Tryz.sortedI
shelf_lay_g SlLaysM.n5 Slgm 5 at Tryz 103 as Tryz.sortI
/-- slices.Sort's two contracts, at the fence that asks nothing. -/
theorem Tryz.sortsI (m : Nat) : AnyZI.SortsIn Tryz.prog Tryz.sortedI_ren Fence.wide m :=
  ⟨fun blk off cap ss W hH hblk hsz => callsIn_wide.2 (AnyM.slices_Sort_int Tryz.sortI blk off cap ss W hH hblk hsz),
   fun p cap W => callsIn_wide.2 (AnyM.slices_Sort_int_none Tryz.sortI p cap W)⟩
theorem Tryz.keys_call (mb : Option Nat) (W : World) : Calls Tryz.prog 89 #[.map mb] W fun e w' => e = .returned (.func (.func 104) #[] #[.pointer (some ⟨W.heap.size, 0, none⟩)]) ∧ w' = W.alloc (.cells #[.map mb] 106) :=
  (callsIn_wide (n := 5)).1 (AnyZI.keys_in Tryz.keysI Fence.wide 5 trivial rfl mb W)
set_option maxHeartbeats 1000000 in
theorem Tryz.sorted_call {H : Type} (b nn : Nat) (D0 : DataW H) (R : Value → Option (DataW H × List MemPlace)) (w : World) (hown : w.ownsMap Tryz.prog 2 R b nn D0) (hmax : Maps.size D0 ≤ maxLen) (hbytes : Maps.size D0 * 8 ≤ 140737488355328) :
    Calls Tryz.prog 88 #[.func (.func 104) #[] #[.pointer (some ⟨w.heap.size, 0, none⟩)]] (w.alloc (.cells #[.map (some b)] 106)) fun e w' => ∃ (v : Value) (ss : List Int), e = .returned v ∧ ss.Perm (intKeys D0) ∧
      w'.ownsRow (w.alloc (.cells #[.map (some b)] 106)).heap.size 2 1 v ss.length ((ss.mergeSort (fun x y => decide (x ≤ y))).map encZ) ∧ (v = .slice none 0 0 ↔ ss = []) ∧ Below (w.alloc (.cells #[.map (some b)] 106)).heap.size (w.alloc (.cells #[.map (some b)] 106)) w' := by
  have hbl := hown.lt
  have hseq : SeqGives Fence.wide 2 Tryz.prog 104 #[.pointer (some ⟨w.heap.size, 0, none⟩)] encZ (fun ss => ss.Perm (intKeys D0)) (Maps.size D0) (w.alloc (.cells #[.map (some b)] 106)) :=
    AnyZI.keys_gives (ρ := Tryz.keysI_ren) { Tryz.keysI with } Fence.wide _ trivial rfl (by omega) w.heap.size b nn D0 _ (by simp) (by simp) (by
      obtain ⟨es, clock, hb, Ft, hs, hD⟩ := hown
      exact ⟨es, clock, (Below.heap_alloc _ _ b hbl).trans hb, Ft, hs, hD⟩)
  have cS := AnyZI.sorted_in Tryz.sortedI Fence.wide 5 trivial trivial trivial trivial rfl (by omega) (Tryz.sortsI _) (enters_of Tryz.func103 (by kernel_rfl) rfl) 104 #[.pointer (some ⟨w.heap.size, 0, none⟩)] trivial (enters_of Tryz.func104 (by kernel_rfl) rfl) _ _ hmax hbytes _ hseq
  exact (callsIn_wide (n := 5)).1 cS
end Go.Proofs
