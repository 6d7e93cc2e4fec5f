/- A slice of slices that a call builds row by row: what a round's append leaves of it. -/
import Derived.Test.YthnopigibjmgbaaProg
import Derived.WalkKit
import Derived.ProofKit
import Derived.OwnWalk
import Derived.Lib.Hide
import Derived.Test.YthnopigibjmgbaaMem
import Derived.Test.YthnopigibjmgbaaOwn
import Derived.Test.YthnopigibjmgbaaRRow
import Derived.Test.YthnopigibjmgbaaTurn
namespace Go.Proofs.Ythnopigibjmgbaa
open Go.RowKit
/-- The rows of numbers lie in blocks of their own. -/
structure Rowed (w : World) (lo : Nat) (n : Nat) (xss : List (List Int)) (G : Nat → Option Addr) (C : Nat → Nat) : Prop where
  own : ∀ i, i < n → OwnV w lo w.heap.size 2 1 (G i) (xss.getD i []).length (C i) ((xss.getD i []).map (Value.int .i64))
  one : ∀ i j g, i < n → j < n → G i = some ⟨g, 0, none⟩ → G j = some ⟨g, 0, none⟩ → i = j
/-- A slice of slices of the call's own, as it grows. -/
def Build (w : World) (lo : Nat) (v : Value) (xss : List (List Int)) : Prop :=
  ∃ (G : Nat → Option Addr) (C : Nat → Nat), w.ownsRow lo 30 1 v xss.length (innerV xss G C xss.length) ∧ Rowed w lo xss.length xss G C
theorem Build.nil (w : World) (lo : Nat) : Build w lo (.slice none 0 0) [] :=
  ⟨fun _ => none, fun _ => 0, World.ownsRow_nil _ _ _ _, ⟨fun i h => by simp at h, fun i j g h => by simp at h⟩⟩
theorem Build.made (w : World) (lo : Nat) (h : lo ≤ w.heap.size) : Build (w.alloc (.cells #[] 30)) lo (.slice (some ⟨w.heap.size, 0, none⟩) 0 0) [] :=
  ⟨fun _ => none, fun _ => 0, World.ownsRow_made w #[] 0 h (Nat.zero_le _) rfl, ⟨fun i h => by simp at h, fun i j g h => by simp at h⟩⟩
theorem Rowed.below {w w' : World} {lo n : Nat} {xss : List (List Int)} {G : Nat → Option Addr} {C : Nat → Nat} (h : Rowed w lo n xss G C) (hb : Below w.heap.size w w') : Rowed w' lo n xss G C :=
  ⟨fun i hi => ((h.own i hi).below hb (Nat.le_refl _)).wide (Nat.le_refl _) hb.size, h.one⟩
theorem Build.below {w w' : World} {lo : Nat} {v : Value} {xss : List (List Int)} (h : Build w lo v xss) (hb : Below w.heap.size w w') : Build w' lo v xss := by
  obtain ⟨G, C, h1, h2⟩ := h
  exact ⟨G, C, own_below' h1 hb, h2.below hb⟩
theorem Build.drawn {w w' : World} {lo : Nat} {v : Value} {xss : List (List Int)} (h : Build w lo v xss) (hd : Drawn w w') : Build w' lo v xss := h.below (hd.below _)
theorem Build.drewN {w : World} {lo : Nat} {v : Value} {xss : List (List Int)} (h : Build w lo v xss) (n : Nat) : Build (w.drewN n) lo v xss := h.drawn ⟨n, rfl⟩
theorem innerV_app {xss : List (List Int)} {G : Nat → Option Addr} {C : Nat → Nat} {xs : List Int} {A' : Option Addr} {c' : Nat} :
    innerV (xss ++ [xs]) (upd G xss.length A') (upd C xss.length c') (xss.length + 1) = innerV xss G C xss.length ++ [.slice A' xs.length c'] := by
  rw [innerV_snoc (xs := xs) (by simp)]
  congr 1
  unfold innerV
  refine List.map_congr_left fun i hi => ?_
  have := List.mem_range.1 hi
  rw [List.getD_eq_getElem?_getD, List.getD_eq_getElem?_getD, List.getElem?_append_left this]
theorem own_form {w : World} {base : Nat} {e : TypeId} {size : Nat} {v : Value} {n : Nat} {xs : List Value} (h : w.ownsRow base e size v n xs) : ∃ A c, v = .slice A n c := by
  rcases h.2 with ⟨rfl, rfl⟩ | ⟨g, cap, cur, rfl, _⟩
  · exact ⟨_, _, rfl⟩
  · exact ⟨_, _, rfl⟩
theorem own_block {w : World} {base : Nat} {e : TypeId} {size : Nat} {v : Value} {n g : Nat} {xs : List Value} (h : w.ownsRow base e size v n xs) (hg : v.ownBlock = some g) : ∃ cur, w.heap[g]? = some (.cells cur e (0, 0)) := by
  rcases h.2 with ⟨rfl, _⟩ | ⟨g', cap, cur, rfl, _, hh, _⟩
  · cases hg
  · injection hg with hg; subst hg; exact ⟨cur, hh⟩
/-- Rows of different element types lie in different blocks. -/
theorem own_apart {w : World} {b1 b2 : Nat} {e1 e2 : TypeId} {s1 s2 n1 n2 : Nat} {v1 v2 : Value} {xs ys : List Value} (h1 : w.ownsRow b1 e1 s1 v1 n1 xs) (h2 : w.ownsRow b2 e2 s2 v2 n2 ys) (hne : e1 ≠ e2) : v1.ownBlock = none ∨ v1.ownBlock ≠ v2.ownBlock := by
  rcases e : v1.ownBlock with _ | g
  · exact .inl rfl
  · refine .inr fun he => ?_
    obtain ⟨c1, h1⟩ := own_block h1 e
    obtain ⟨c2, h2⟩ := own_block h2 he.symm
    rw [h1] at h2
    injection h2 with h2
    injection h2 with _ h2 _
    exact hne h2
theorem OwnV.mono_base {w : World} {lo lo' hi : Nat} {T : TypeId} {s : Nat} {A : Option Addr} {n c : Nat} {vs : List Value} (h : OwnV w lo hi T s A n c vs) (h1 : lo' ≤ lo) : OwnV w lo' hi T s A n c vs := h.wide h1 (Nat.le_refl _)
/-- A round's append: a new row of numbers in a new block, laid into the slice that grows. -/
theorem Build.snoc {w w2 w' : World} {lo : Nat} {v v' : Value} {xss : List (List Int)} {G : Nat → Option Addr} {C : Nat → Nat} {xs : List Int} {A' : Option Addr} {c' lo2 : Nat}
    (h1 : w.ownsRow lo 30 1 v xss.length (innerV xss G C xss.length)) (h2 : Rowed w lo xss.length xss G C) (hlo : lo ≤ w.heap.size) (hb : Below w.heap.size w w2) (hl2 : w.heap.size ≤ lo2)
    (hn : OwnV w2 lo2 w2.heap.size 2 1 A' xs.length c' (xs.map (Value.int .i64))) (ho : w'.ownsRow lo 30 1 v' (xss.length + 1) (innerV xss G C xss.length ++ [.slice A' xs.length c'])) (hg : w2.grownBy w' v.ownBlock) :
    Build w' lo v' (xss ++ [xs]) := by
  have hne : (2 : TypeId) ≠ 30 := by decide
  refine ⟨upd G xss.length A', upd C xss.length c', ?_, ?_, ?_⟩
  · rw [List.length_append, List.length_singleton, innerV_app]; exact ho
  · intro i hi
    rw [List.length_append, List.length_singleton] at hi
    have hv2 := own_below' h1 hb
    by_cases e : i = xss.length
    · subst e
      have e2 : (xss ++ [xs]).getD xss.length [] = xs := by rw [List.getD_eq_getElem?_getD]; simp
      rw [upd_same, upd_same, e2]
      exact (hn.apart hg (own_apart hn.own hv2 hne)).wide (by omega) hg.size
    · have e2 : (xss ++ [xs]).getD i [] = xss.getD i [] := by rw [List.getD_eq_getElem?_getD, List.getD_eq_getElem?_getD, List.getElem?_append_left (by omega)]
      rw [upd_other e, upd_other e, e2]
      have hi2 := (h2.own i (by omega)).below hb (Nat.le_refl _)
      exact (hi2.apart hg (own_apart hi2.own hv2 hne)).wide (Nat.le_refl _) (Nat.le_trans hb.size hg.size)
  · intro i j g hi hj e1 e2
    rw [List.length_append, List.length_singleton] at hi hj
    by_cases ei : i = xss.length <;> by_cases ej : j = xss.length
    · omega
    · exfalso
      subst ei
      rw [upd_same] at e1; rw [upd_other ej] at e2
      subst e1
      have a := hn.lt_of
      have b := h2.own j (by omega)
      rw [e2] at b
      have := b.lt_of
      omega
    · exfalso
      subst ej
      rw [upd_same] at e2; rw [upd_other ei] at e1
      subst e2
      have a := hn.lt_of
      have b := h2.own i (by omega)
      rw [e1] at b
      have := b.lt_of
      omega
    · rw [upd_other ei] at e1; rw [upd_other ej] at e2
      exact h2.one i j g (by omega) (by omega) e1 e2
theorem Build.done {w : World} {lo : Nat} {v : Value} {xss : List (List Int)} (h : Build w lo v xss) : ∃ A c, v = .slice A xss.length c ∧ OwnVV w lo w.heap.size A xss.length c xss := by
  obtain ⟨G, C, h1, h2⟩ := h
  obtain ⟨A, c, rfl⟩ := own_form h1
  refine ⟨A, c, rfl, rfl, 30, G, C, fun _ => 2, OwnV.mk' h1, ⟨h2.own, h2.one, fun i g hi e1 e2 => ?_⟩⟩
  have hr := h2.own i hi
  rcases own_apart hr.own h1 (by decide) with e | e
  · rw [e1] at e; cases e
  · rw [e1, e2] at e; exact e rfl
/-- Two worlds further on: a row of numbers in a new block, and behind it the one cell that is appended. -/
theorem own_pair (w : World) (a b : Int) (o : Obj) : OwnV ((w.alloc (.cells #[.int .i64 a, .int .i64 b] 2)).alloc o) w.heap.size ((w.alloc (.cells #[.int .i64 a, .int .i64 b] 2)).alloc o).heap.size 2 1 (some ⟨w.heap.size, 0, none⟩) [a, b].length 2 ([a, b].map (Value.int .i64)) :=
  OwnV.mk' ((World.ownsRow_lit w #[.int .i64 a, .int .i64 b] 2 (Nat.le_refl _) (by unfold maxLen; omega) rfl).alloc o)
theorem below_two (w : World) (o1 o2 : Obj) : Below w.heap.size w ((w.alloc o1).alloc o2) := ((Below.refl _ _).alloc (Nat.le_refl _) _).alloc (by simp) _
theorem info_IIo : (Try.prog.info? 30).map (fun i => (i.zero, i.size, i.bytes)) = some (some (.slice none 0 0), 1, 24) := by kernel_rfl
/-- The law of the round's append: a row of numbers in new memory joins the slice that grows. -/
theorem wpList_append_row {ops : Array Oper} {rest : List Oper} {o : Oper} {a : Act} {Q : Exit → Act → World → Prop} (hgd : o.guard = none) (s x : Operand)
    (ho : o.op = .call { callee := .builtin .append, args := #[s, x], argTypes := #[24, 24] }) (wo w2 : World) (lo lo2 : Nat) (xss : List (List Int)) (xs : List Int) (A' : Option Addr) (c' : Nat) (val : Value) (hs : a.eval s = val)
    (hb : Build wo lo val xss) (hlo : lo ≤ wo.heap.size) (hbel : Below wo.heap.size wo w2) (hl2 : wo.heap.size ≤ lo2) (hn : OwnV w2 lo2 w2.heap.size 2 1 A' xs.length c' (xs.map (Value.int .i64)))
    (g : Nat) (hx : a.eval x = .slice (some ⟨g, 0, none⟩) 1 1) (hc : w2.cell? ⟨g, 0, none⟩ = some (.slice A' xs.length c')) (hlen : xss.length ≤ 2000000)
    (h : ∀ v' w', Build w' lo v' (xss ++ [xs]) → Below lo wo w' → wpList Try.prog ops Q rest (a.put o.dst v') w') : wpList Try.prog ops Q (o :: rest) a w2 := by
  obtain ⟨i0, hi, hz0, hz1, hz2⟩ := info_parts info_IIo
  obtain ⟨G, C, h1, h2⟩ := hb
  refine wpList_append_own _ hgd s x 24 ho lo 30 i0 (.slice none 0 0) 1 24 Try.underlying24 hi hz0 hz1 hz2 rfl (by decide) val xss.length _ hs (own_below' h1 hbel) ⟨g, 0, none⟩ 1 1 [.slice A' xs.length c'] hx rfl ?_ ?_ ?_ ?_ (Nat.le_trans hlo hbel.size) ?_
  · intro j u hj
    match j, hj with
    | 0, hj => simp at hj; subst hj; simpa [Addr.add] using hc
  · intro u hu; simp at hu; subst hu; rfl
  · unfold maxLen; omega
  · omega
  · intro v' w' ho' hg _
    refine h v' w' (Build.snoc h1 h2 hlo hbel hl2 hn ho' hg) ?_
    exact (hbel.mono hlo).grown hg (Nat.le_trans hlo hbel.size) fun g' hg' => (h1.lt g' hg').1
theorem wpList_append_pair {ops : Array Oper} {rest : List Oper} {o : Oper} {a : Act} {Q : Exit → Act → World → Prop} (hgd : o.guard = none) (s x : Operand)
    (ho : o.op = .call { callee := .builtin .append, args := #[s, x], argTypes := #[24, 24] }) (wo : World) (lo : Nat) (xss : List (List Int)) (u v : Int) (val : Value) (hs : a.eval s = val)
    (hb : Build wo lo val xss) (hlo : lo ≤ wo.heap.size) (hx : a.eval x = .slice (some ⟨wo.heap.size + 1, 0, none⟩) 1 1) (hlen : xss.length ≤ 2000000)
    (h : ∀ v' w', Build w' lo v' (xss ++ [[u, v]]) → Below lo wo w' → wpList Try.prog ops Q rest (a.put o.dst v') w') :
    wpList Try.prog ops Q (o :: rest) a ((wo.alloc (.cells #[.int .i64 u, .int .i64 v] 2)).alloc (.cells #[.slice (some ⟨wo.heap.size, 0, none⟩) 2 2] 30)) :=
  wpList_append_row hgd s x ho wo _ lo wo.heap.size xss [u, v] (some ⟨wo.heap.size, 0, none⟩) 2 val hs hb hlo (below_two _ _ _) (Nat.le_refl _) (own_pair wo u v _) (wo.heap.size + 1) hx
    (by
      have hh := heap_alloc_new (wo.alloc (.cells #[.int .i64 u, .int .i64 v] 2)) (.cells #[.slice (some ⟨wo.heap.size, 0, none⟩) 2 2] 30)
      have e : (wo.alloc (.cells #[.int .i64 u, .int .i64 v] 2)).heap.size = wo.heap.size + 1 := by simp
      rw [e] at hh
      rw [cell_of_row _ _ 0 _ _ (0, 0) hh]; rfl) hlen h
end Go.Proofs.Ythnopigibjmgbaa
