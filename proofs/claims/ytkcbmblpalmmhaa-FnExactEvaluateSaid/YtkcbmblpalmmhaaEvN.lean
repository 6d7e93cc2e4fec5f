/- What a walk over an expression from the bottom up needs: the rest of it in a variable, and worlds that one block alone is changed in. -/
import Derived.Test.YtkcbmblpalmmhaaProg
import Derived.WalkKit
import Derived.ProofKit
import Derived.OwnWalk
import Derived.OneCell
import Derived.Outline
import Derived.Lib.Hide
import Derived.Laws.EntriesVeiled
import Derived.Test.YtkcbmblpalmmhaaMem
import Derived.Test.YtkcbmblpalmmhaaTmM
import Derived.Test.YtkcbmblpalmmhaaTmW
import Derived.Test.YtkcbmblpalmmhaaTmI
import Derived.Test.YtkcbmblpalmmhaaOpr
import Derived.Test.YtkcbmblpalmmhaaExM
import Derived.Test.YtkcbmblpalmmhaaCut
import Derived.Test.YtkcbmblpalmmhaaEvM
import Derived.Test.YtkcbmblpalmmhaaEvA
namespace Go.Proofs.Ytkcbmblpalmmhaa
open Go.RowKit
/-- The rest of an expression, in the variable that block R is. -/
def RestAt (w : World) (R B0 : Nat) (es : List Tm) : Prop := ∃ (A : Option Addr) (n c : Nat), w.heap[R]? = some (.cells #[.slice A n c] 24 (0, 0)) ∧ n ≤ c ∧ n ≤ 60 ∧ es.length = n ∧ TRow w B0 A es
theorem grown_of_below {w w' : World} {row : Option Nat} (h : Below w.heap.size w w') : w.grownBy w' row := ⟨h.os, h.tape, h.output, h.size, fun k hk _ => h.block k hk⟩
theorem grown_set {w w' : World} {R g k : Nat} (h : w.grownBy w' (some R)) (hg : w.heap.size ≤ g) (u : Value) : w.grownBy (w'.setCell ⟨g, k, none⟩ u) (some R) :=
  ⟨h.os, h.tape, h.output, by simpa [World.setCell] using h.size, fun i hi hne => (Below.heap_setCell _ _ _ _ (by show i ≠ g; omega)).trans (h.block i hi hne)⟩
theorem grown_setR {w w' : World} {R k : Nat} (h : w.grownBy w' (some R)) (u : Value) : w.grownBy (w'.setCell ⟨R, k, none⟩ u) (some R) :=
  ⟨h.os, h.tape, h.output, by simpa [World.setCell] using h.size, fun i hi hne => (Below.heap_setCell _ _ _ _ (by show i ≠ R; exact fun e => hne (by rw [e]))).trans (h.block i hi hne)⟩
theorem grown_alloc {w w' : World} {row : Option Nat} (h : w.grownBy w' row) (o : Obj) : w.grownBy (w'.alloc o) row :=
  ⟨h.os, h.tape, h.output, Nat.le_trans h.size (by simp), fun i hi hne => (Below.heap_alloc _ o i (Nat.lt_of_lt_of_le hi h.size)).trans (h.block i hi hne)⟩
theorem below_of_grown {w w' : World} {R B0 : Nat} (h : w.grownBy w' (some R)) (h1 : B0 ≤ R) (h2 : B0 ≤ w.heap.size) : Below B0 w w' := (Below.refl B0 w).grown h h2 (fun k e => by injection e with e; omega)
theorem RestAt.lt {w : World} {R B0 : Nat} {es : List Tm} (h : RestAt w R B0 es) : R < w.heap.size := by
  obtain ⟨A, n, c, hR, _⟩ := h
  exact lt_of_block hR
theorem RestAt.keep {w w' : World} {R B0 : Nat} {es : List Tm} (h : RestAt w R B0 es) (h1 : w'.heap[R]? = w.heap[R]?) (h2 : Below B0 w w') : RestAt w' R B0 es := by
  obtain ⟨A, n, c, hR, h3, h4, h5, h6⟩ := h
  exact ⟨A, n, c, h1.trans hR, h3, h4, h5, h6.below h2⟩
abbrev ptr (b : Nat) : Value := .pointer (some ⟨b, 0, none⟩)
theorem info_num : (Try.prog.info? 2).map (fun i => (i.zero, i.size, i.bytes)) = some (some (.int .i64 0), 1, 8) := by kernel_rfl
theorem rep_set {xs : List Int} {m k : Nat} {u : Int} (hl : xs.length = m) (hk : xs[k]? = some u) : (((xs.take k ++ List.replicate (m - k) 0).map (Value.int .i64)).set k (.int .i64 u)) = (xs.take (k + 1) ++ List.replicate (m - (k + 1)) 0).map (Value.int .i64) := by
  have hlt := (List.getElem?_eq_some_iff.1 hk).1
  have h1 : m - k = (m - (k + 1)) + 1 := by omega
  have h2 : ((xs.take k).map (Value.int .i64)).length = k := by rw [List.length_map, List.length_take]; omega
  rw [h1, List.map_append, List.replicate_succ, List.map_cons, List.set_append_right _ _ (by omega), h2, Nat.sub_self, List.set_cons_zero, take_one _ _ _ hk, List.append_assoc, List.map_append, List.map_append]
  rfl
theorem grown_none {w w' : World} {row : Option Nat} (h : w.grownBy w' none) : w.grownBy w' row := ⟨h.os, h.tape, h.output, h.size, fun k hk _ => h.block k hk (by simp)⟩
theorem two_cells {w : World} {b : Nat} {x y : Value} {T : TypeId} (h : w.heap[b]? = some (.cells #[x, y] T (0, 0))) : w.cell? ⟨b, 0, none⟩ = some x ∧ w.cell? ⟨b, 1, none⟩ = some y := by
  rw [cell_of_row w b 0 #[x, y] T (0, 0) h, cell_of_row w b 1 #[x, y] T (0, 0) h]
  exact ⟨rfl, rfl⟩
theorem cutA_at2 {b o c : Nat} (h : c ≠ 1) : cutA (some ⟨b, o, none⟩) c 1 = some ⟨b, o + 2, none⟩ := by
  unfold cutA
  rw [if_neg h]
  show some ((⟨b, o, none⟩ : Addr).add (1 * 2)) = _
  rw [addLit]
end Go.Proofs.Ytkcbmblpalmmhaa
