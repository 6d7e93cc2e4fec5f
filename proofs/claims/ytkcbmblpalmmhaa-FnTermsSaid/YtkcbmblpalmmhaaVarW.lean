/- Lists of numbers of the call's own: a number laid behind, the library's sort, its removal of doubles. -/
import Derived.Test.YtkcbmblpalmmhaaProg
import Derived.WalkKit
import Derived.ProofKit
import Derived.OwnWalk
import Derived.Outline
import Derived.Lib.Hide
import Derived.Shelf.SortM.Plain
import Derived.Shelf.SortM.SortNone
import Derived.Shelf.SlicesE.Compact
import Derived.Sort.OwnSortedInts
import Derived.Ground.SlgnProg
import Derived.Ground.SlgmProg
import Derived.Test.YtkcbmblpalmmhaaMem
import Derived.Test.YtkcbmblpalmmhaaOwn
import Derived.Test.YtkcbmblpalmmhaaTmM
import Derived.Test.YtkcbmblpalmmhaaTmW
import Derived.Test.YtkcbmblpalmmhaaRet
import Derived.Test.YtkcbmblpalmmhaaVarM
namespace Go.Proofs.Ytkcbmblpalmmhaa
open Go.RowKit Go.Shelf Go.Lib Go.Sort
shelf_lay_g SlLaysM.n5 Slgm 5 at Try 91 as Try.sortNums
shelf_lay_g SlLaysE.n43 Slgn 43 at Try 92 as Try.compactNums
theorem info_i64 : (Try.prog.info? 2).map (fun i => (i.zero, i.size, i.bytes)) = some (some (.int .i64 0), 1, 8) := by kernel_rfl
theorem own_lenI {w : World} {base : Nat} {T : TypeId} {n : Nat} {v : Value} {xs : List Int} (h : w.ownsRow base T 1 v n (xs.map (Value.int .i64))) : xs.length = n := by
  have := h.1
  simp at this
  omega
/-- A number laid behind a row of the call's own, which may be nil. -/
theorem wpList_append_i {ops : Array Oper} {rest : List Oper} {o : Oper} {a : Act} {Q : Exit → Act → World → Prop} (hgd : o.guard = none) (s x : Operand)
    (ho : o.op = .call { callee := .builtin .append, args := #[s, x], argTypes := #[27, 27] })
    (w : World) (base : Nat) (v : Value) (n : Nat) (xs : List Int) (hs : a.eval s = v) (hown : w.ownsRow base 2 1 v n (xs.map (Value.int .i64)))
    (b c : Nat) (u : Int) (hx : a.eval x = .slice (some ⟨b, 0, none⟩) 1 c) (hc : w.cell? ⟨b, 0, none⟩ = some (.int .i64 u)) (hlen : n + 1 ≤ 8000000) (hbase : base ≤ w.heap.size)
    (h : ∀ A' c' w', w'.ownsRow base 2 1 (.slice A' (n + 1) c') (n + 1) ((xs ++ [u]).map (Value.int .i64)) → w.grownBy w' v.ownBlock → wpList Try.prog ops Q rest (a.put o.dst (.slice A' (n + 1) c')) w') :
    wpList Try.prog ops Q (o :: rest) a w := by
  obtain ⟨i0, hi, hz0, hz1, hz2⟩ := info_parts info_i64
  refine wpList_append_own w hgd s x 27 ho base 2 i0 (.int .i64 0) 1 8 Try.underlying27 hi hz0 hz1 hz2 rfl (by decide) v n (xs.map (Value.int .i64)) hs hown ⟨b, 0, none⟩ 1 c [.int .i64 u] hx rfl ?_ ?_ (by unfold maxLen; omega) (by omega) hbase ?_
  · intro j y hj
    match j, hj with
    | 0, hj => simp at hj; subst hj; simpa [Addr.add] using hc
  · intro y hy; simp at hy; subst hy; rfl
  · intro v' w' ho' hg _
    obtain ⟨A', c', rfl⟩ := own_slice ho'
    exact h A' c' w' (by simpa using ho') hg
theorem own_takeI {w : World} {base g n cap k : Nat} {T : TypeId} {vs : List Value} (h : w.ownsRow base T 1 (.slice (some ⟨g, 0, none⟩) n cap) n vs) (hk : k ≤ n) : w.ownsRow base T 1 (.slice (some ⟨g, 0, none⟩) k cap) k (vs.take k) := by
  have hl := h.1
  refine ⟨by rw [List.length_take]; omega, ?_⟩
  rcases h.2 with ⟨e, _⟩ | ⟨g', cap', cur, e, hb, hh, hnc, hcm, hcs, ht⟩
  · cases e
  · injection e with e1 e2 e3
    injection e1 with e1
    injection e1 with e1
    subst e1 e3
    refine .inr ⟨g, cap, cur, rfl, hb, hh, by omega, hcm, hcs, ?_⟩
    rw [← ht, List.take_take]
    congr 1
    omega
theorem sorted_any (A : Option Addr) (n c : Nat) (xs : List Int) (w : World) (base : Nat) (h : w.ownsRow base 2 1 (.slice A n c) n (xs.map (Value.int .i64))) (m : n ≤ 2000000) :
    Calls Try.prog 91 #[.slice A n c] w fun e w' => e = .returned (.tuple #[]) ∧ w'.ownsRow base 2 1 (.slice A n c) n ((sortI xs).map (Value.int .i64)) ∧ w.grownBy w' (Value.slice A n c).ownBlock := by
  have hl := own_lenI h
  rcases Nat.eq_zero_or_pos n with h0 | h0
  · subst h0
    obtain rfl : xs = [] := List.eq_nil_of_length_eq_zero hl
    have hE := AnyM.slices_Sort_int_none Try.sortNums A c w
    refine Calls.mono hE ?_
    rintro e w' ⟨rfl, rfl⟩
    exact ⟨rfl, by rw [show sortI [] = [] by simp [sortI]]; exact h, World.grownBy.refl _ _⟩
  · rcases h.2 with ⟨_, e0⟩ | ⟨g, cap, cur, e, hb, hh, hnc, hcm, hcs, ht⟩
    · omega
    · injection e with e1 e2 e3
      subst e1 e3
      rw [Nat.mul_one] at ht
      have hH : Holds (Value.int .i64) w g 0 xs.toArray := holds_of_blockI hh (by rw [hl]; exact ht)
      have hR := AnyM.slices_Sort_int Try.sortNums g 0 c xs w hH (Array.getElem?_eq_some_iff.1 hh).1 (by omega)
      rw [hl] at hR
      refine Calls.mono hR ?_
      rintro e w' ⟨rfl, q, os, rfl⟩
      have hs := ownsRow_sortedI (w := w) (n := q) (os := os) (ss := xs) (ts := sortI xs) (base := base) (sortI_len xs) hb hh (by rw [hl]; exact hnc) hcm hcs
      rw [hl] at hs
      exact ⟨rfl, hs, grownBy_sortedI _⟩
set_option maxHeartbeats 1000000 in
theorem compacted_any (A : Option Addr) (n c : Nat) (xs : List Int) (w : World) (base : Nat) (h : w.ownsRow base 2 1 (.slice A n c) n (xs.map (Value.int .i64))) (m : n ≤ 2000000) :
    Calls Try.prog 92 #[.slice A n c] w fun e w' => ∃ k, e = .returned (.slice A k c) ∧ w'.ownsRow base 2 1 (.slice A k c) k ((compactUpTo xs.toArray xs.length).map (Value.int .i64)) ∧ w.grownBy w' (Value.slice A n c).ownBlock := by
  have hl := own_lenI h
  rcases Nat.eq_zero_or_pos n with h0 | h0
  · subst h0
    obtain rfl : xs = [] := List.eq_nil_of_length_eq_zero hl
    have H := Lib.hid h
    clear h hl
    go_enter Try.func92, Try.ntmps92
    go_wp2
    go_ret
    exact ⟨0, rfl, H.out, World.grownBy.refl _ _⟩
  · rcases h.2 with ⟨_, e0⟩ | ⟨g, cap, cur, e, hb, hh, hnc, hcm, hcs, ht⟩
    · omega
    · injection e with e1 e2 e3
      subst e1 e3
      rw [Nat.mul_one] at ht
      have hH : Holds (Value.int .i64) w g 0 xs.toArray := holds_of_blockI hh (by rw [hl]; exact ht)
      have hR := AnyE.slices_Compact Try.compactNums (Value.int .i64) (fun _ => rfl) (EqlAt.intD _ _ _) (NeqAt.intD _ _ _) 0 Try.zeroValue2 g 0 c xs.toArray w hH (by simp; omega) (by simp; omega)
      have hsz : xs.toArray.size = n := by simpa using hl
      rw [hsz] at hR
      refine Calls.mono hR ?_
      rintro e w' ⟨rfl, q, rfl⟩
      have hcl : (compactUpTo xs.toArray xs.length).length ≤ n := by
        have h1 := List.length_filter_le (keeps xs.toArray) (List.range xs.length)
        unfold compactUpTo
        rw [List.length_map]
        rw [List.length_range] at h1
        omega
      rw [← hl] at hcl ⊢
      have hs := ownsRow_sortedI (w := w) (n := q) (os := #[]) (ss := xs) (ts := compactUpTo xs.toArray xs.length ++ List.replicate (xs.length - (compactUpTo xs.toArray xs.length).length) 0) (base := base) (e := 2) (by simp; omega) hb hh (by rw [hl]; exact hnc) hcm hcs
      have hg := grownBy_sortedI (w := w) (g := g) (n := q) (os := #[]) (compactUpTo xs.toArray xs.length ++ List.replicate (xs.length - (compactUpTo xs.toArray xs.length).length) 0).toArray
      rw [grow_empty] at hs hg
      have h2 := own_takeI hs (k := (compactUpTo xs.toArray xs.length).length) hcl
      rw [← List.map_take, List.take_left'] at h2
      · exact ⟨_, rfl, h2, hg⟩
      · rfl
/-- A list sorted and rid of doubles, in the same memory. -/
theorem sortedSet_any (A : Option Addr) (n c : Nat) (xs ys : List Int) (w : World) (base : Nat) (h : w.ownsRow base 2 1 (.slice A n c) n (xs.map (Value.int .i64))) (m : n ≤ 2000000) (hy : compactUpTo (sortI xs).toArray (sortI xs).length = ys) :
    Calls Try.prog 76 #[.slice A n c] w fun e w' => ∃ k, e = .returned (.slice A k c) ∧ w'.ownsRow base 2 1 (.slice A k c) k (ys.map (Value.int .i64)) ∧ w.grownBy w' (Value.slice A n c).ownBlock := by
  have CS := Lib.hid (sorted_any A n c xs w base h m)
  have HY := Lib.hid hy
  clear hy h
  go_enter Try.func76, Try.ntmps76
  go_wp2_with (first
    | (go_at_call 91; refine (CS.out).mono ?_; rintro e w5 ⟨rfl, ho5, hg5⟩; have CC := Lib.hid (compacted_any A n c (sortI xs) w5 base ho5 m); have HG5 := Lib.hid hg5; clear ho5 hg5)
    | (go_at_call 92; refine (CC.out).mono ?_; rintro e w6 ⟨k6, rfl, ho6, hg6⟩; rw [HY.out] at ho6; have HO6 := Lib.hid ho6; have HG6 := Lib.hid (grown_trans HG5.out hg6); clear ho6 hg6))
  go_ret
  exact ⟨k6, rfl, HO6.out, HG6.out⟩
/-- One list of numbers of the call's own. -/
def RetN1 (w : World) (xs : List Int) (e : Ending) (w' : World) : Prop :=
  ∃ A n c, e = .returned (.slice A n c) ∧ w'.ownsRow w.heap.size 2 1 (.slice A n c) n (xs.map (Value.int .i64)) ∧ Below w.heap.size w w'
theorem cell_one1 (w : World) (v : Value) (T : TypeId) : (w.alloc (.cells #[v] T)).cell? ⟨w.heap.size, 0, none⟩ = some v := by
  have := cell_of_row (w.alloc (.cells #[v] T)) w.heap.size 0 #[v] T (0, 0) (heap_alloc_new w _)
  rw [this]; simp
theorem cell_one2 (w : World) (o : Obj) (v : Value) (T : TypeId) : ((w.alloc o).alloc (.cells #[v] T)).cell? ⟨w.heap.size + 1, 0, none⟩ = some v := by
  have h := cell_one1 (w.alloc o) v T
  have e : (w.alloc o).heap.size = w.heap.size + 1 := by simp
  rw [e] at h
  exact h
end Go.Proofs.Ytkcbmblpalmmhaa
