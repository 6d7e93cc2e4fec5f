/- The laws' own helpers on lists of lists of terms: how much they hold, a copy, comparing, marks. -/
import Derived.Test.YtkcbmblpalmmhaaProg
import Derived.WalkKit
import Derived.ProofKit
import Derived.BigQuiet
import Derived.StillTailTactics
import Derived.Outline
import Derived.Test.YtkcbmblpalmmhaaMem
import Derived.Test.YtkcbmblpalmmhaaOwn
import Derived.Test.YtkcbmblpalmmhaaTurn
import Derived.Test.YtkcbmblpalmmhaaTmM
import Derived.Test.YtkcbmblpalmmhaaTmW
import Derived.Test.YtkcbmblpalmmhaaTm
import Derived.Test.YtkcbmblpalmmhaaBuildT
namespace Go.Proofs.Ytkcbmblpalmmhaa
open Go.RowKit
theorem markTs_own {T : TypeId} (A : Option Addr) (n c : Nat) (k0 : Int) (es : List Tm) (w : World) (lo hi : Nat) (h : OwnV w lo hi T 2 A n c (tvs es)) (m : n ≤ 2000000) (k1 : 0 ≤ k0) (k2 : k0 ≤ 9000000000000000) :
    Calls Try.prog 24 #[.slice A n c, .int .i64 k0] w fun e w' => e = .returned (.int .i64 (k0 + 2 * n)) ∧
      OwnV w' lo hi T 2 A n c (tvs (marksT k0 n)) ∧ w.grownBy w' (Value.slice A n c).ownBlock :=
  (markTs_any A n c k0 es w lo h.own m k1 k2).mono fun _ _ ⟨h1, h2, h3⟩ => ⟨h1, ⟨h2, h.top⟩, h3⟩
/-- What the measure of a list of lists says: nothing if it is too great, or that all of it is small. -/
def SzTT (xss : List (List Tm)) (left r : Int) : Prop := r < 0 ∨ (0 ≤ r ∧ r ≤ left ∧ (xss.length : Int) ≤ left ∧ ∀ xs ∈ xss, (xs.length : Int) ≤ left)
def SzRetT (xss : List (List Tm)) (left : Int) (w : World) (e : Ending) (w' : World) : Prop := ∃ r : Int, e = .returned (.int .i64 r) ∧ SzTT xss left r ∧ w = w'
theorem info_TT : (Try.prog.info? 24).map (fun i => (i.zero, i.size, i.bytes)) = some (some (.slice none 0 0), 1, 24) := by kernel_rfl
theorem set_midT {vs : List Value} {n k : Nat} {z v : Value} (hv : vs.length = k) (hk : k < n) : (vs ++ List.replicate (n - k) z).set k v = (vs ++ [v]) ++ List.replicate (n - (k + 1)) z := by
  have h1 : n - k = (n - (k + 1)) + 1 := by omega
  rw [h1, List.replicate_succ, List.set_append_right _ _ (by omega), hv, Nat.sub_self, List.set_cons_zero, List.append_assoc]
  rfl
/-- How many numbers a list of lists holds. -/
def totalT : List (List Tm) → Nat
  | [] => 0
  | xs :: r => xs.length + totalT r
theorem totalT_append (a b : List (List Tm)) : totalT (a ++ b) = totalT a + totalT b := by
  induction a with
  | nil => simp [totalT]
  | cons x a ih => simp [totalT, ih, Nat.add_assoc]
theorem totalT_le {xss : List (List Tm)} (h : ∀ xs ∈ xss, xs.length ≤ 2000000) : totalT xss ≤ xss.length * 2000000 := by
  induction xss with
  | nil => simp [totalT]
  | cons x r ih =>
    have h1 := h x (by simp)
    have h2 := ih fun y hy => h y (by simp [hy])
    simp only [totalT, List.length_cons]
    omega
theorem totalT_take {xss : List (List Tm)} (h : ∀ xs ∈ xss, xs.length ≤ 2000000) (k : Nat) (hk : k ≤ 2000000) : totalT (xss.take k) ≤ 4000000000000 := by
  have := totalT_le (xss := xss.take k) fun x hx => h x (List.mem_of_mem_take hx)
  have hl : (xss.take k).length ≤ k := List.length_take_le _ _
  have : (xss.take k).length * 2000000 ≤ k * 2000000 := Nat.mul_le_mul_right _ hl
  omega
theorem totalT_succ {xss : List (List Tm)} {k : Nat} {xs : List Tm} (h : xss[k]? = some xs) : totalT (xss.take (k + 1)) = totalT (xss.take k) + xs.length := by
  rw [take_one _ _ _ h, totalT_append]; simp [totalT]
def marksTT (k0 : Int) (xss : List (List Tm)) : List (List Tm) := (List.range xss.length).map fun i => marksT (k0 + 2 * totalT (xss.take i)) (xss.getD i []).length
theorem marksTT_length (k0 : Int) (xss : List (List Tm)) : (marksTT k0 xss).length = xss.length := by simp [marksTT]
theorem marksTT_at {k0 : Int} {xss : List (List Tm)} {k : Nat} {xs : List Tm} (h : xss[k]? = some xs) : (marksTT k0 xss)[k]? = some (marksT (k0 + 2 * totalT (xss.take k)) xs.length) := by
  obtain ⟨hk, rfl⟩ := List.getElem?_eq_some_iff.1 h
  simp [marksTT, hk]
/-- Up to place k marked, from there on as it was. -/
def midTT (k0 : Int) (xss : List (List Tm)) (k : Nat) : List (List Tm) := (marksTT k0 xss).take k ++ xss.drop k
theorem midTT_zero (k0 : Int) (xss : List (List Tm)) : midTT k0 xss 0 = xss := by simp [midTT]
theorem midTT_all {k0 : Int} {xss : List (List Tm)} {n : Nat} (h : xss.length = n) : midTT k0 xss n = marksTT k0 xss := by
  unfold midTT
  rw [List.take_of_length_le (by rw [marksTT_length]; omega), List.drop_eq_nil_of_le (by omega), List.append_nil]
theorem midTT_at {k0 : Int} {xss : List (List Tm)} {k : Nat} {xs : List Tm} (h : xss[k]? = some xs) : (midTT k0 xss k)[k]? = some xs := by
  have hk := (List.getElem?_eq_some_iff.1 h).1
  have hl : ((marksTT k0 xss).take k).length = k := by rw [List.length_take, marksTT_length]; omega
  unfold midTT
  rw [List.getElem?_append_right (by omega), hl, Nat.sub_self, List.getElem?_drop]
  simpa using h
theorem midTT_succ {k0 : Int} {xss : List (List Tm)} {k : Nat} {xs : List Tm} (h : xss[k]? = some xs) : (midTT k0 xss k).set k (marksT (k0 + 2 * totalT (xss.take k)) xs.length) = midTT k0 xss (k + 1) := by
  have hk := (List.getElem?_eq_some_iff.1 h).1
  have hl : ((marksTT k0 xss).take k).length = k := by rw [List.length_take, marksTT_length]; omega
  unfold midTT
  rw [drop_one _ _ _ h, List.set_append_right _ _ (by omega), hl, Nat.sub_self, List.set_cons_zero, take_one _ _ _ (marksTT_at h), List.append_assoc]
  rfl
theorem midTT_length (k0 : Int) (xss : List (List Tm)) (k : Nat) (h : k ≤ xss.length) : (midTT k0 xss k).length = xss.length := by
  unfold midTT
  rw [List.length_append, List.length_take, marksTT_length, List.length_drop]; omega
theorem owner {w : World} {lo hi : Nat} {T : TypeId} {s n c : Nat} {A : Option Addr} {vs : List Value} (h : OwnV w lo hi T s A n c vs) : (Value.slice A n c).ownBlock = none ∨ ∃ g, A = some ⟨g, 0, none⟩ ∧ (Value.slice A n c).ownBlock = some g := by
  rcases h.own.2 with ⟨e, _⟩ | ⟨g, cap, cur, e, _⟩
  · left; rw [e]; rfl
  · right; injection e with e1 _ _; subst e1; exact ⟨g, rfl, rfl⟩
/-- One of the rows is written; the others, and the outer row, are kept. -/
theorem ownTT_put {w w' : World} {lo hi : Nat} {T : TypeId} {A : Option Addr} {n c : Nat} {xss : List (List Tm)} {G : Nat → Option Addr} {C : Nat → Nat} {R : Nat → TypeId} {i : Nat} {xs ys : List Tm} (hn : n = xss.length)
    (ho : OwnV w lo hi T 1 A n c (innerT xss G C n)) (h : InnerT w lo hi A n xss G C R) (hi' : i < n) (hx : xss[i]? = some xs) (hl : ys.length = xs.length)
    (hy : OwnV w' lo hi (R i) 2 (G i) xs.length (C i) (tvs ys)) (hg : w.grownBy w' (Value.slice (G i) xs.length (C i)).ownBlock) : OwnTT w' lo hi A n c (xss.set i ys) := by
  have hoi := h.own i hi'
  rw [getD_ofT hx] at hoi
  have hd : ∀ j, j < n → j ≠ i → ((xss.set i ys).getD j []) = xss.getD j [] := fun j _ hj => by simp [List.getD_eq_getElem?_getD, Ne.symm hj]
  have hdi : (xss.set i ys).getD i [] = ys := by simp [List.getD_eq_getElem?_getD, show i < xss.length by omega]
  have hv : innerT (xss.set i ys) G C n = innerT xss G C n := by
    unfold innerT
    refine List.map_congr_left fun j hj => ?_
    have hj' := List.mem_range.1 hj
    by_cases e : j = i
    · subst e; rw [hdi, getD_ofT hx, hl]
    · rw [hd j hj' e]
  refine ⟨by simp [hn], T, G, C, R, ?_, ⟨fun j hj => ?_, h.one, h.out⟩⟩
  · rw [hv]
    refine ho.apart hg ?_
    rcases owner ho with e | ⟨g, e, eo⟩
    · exact .inl e
    · rcases owner hoi with e2 | ⟨g2, e2, eo2⟩
      · right; rw [eo, e2]; simp
      · right
        rw [eo, eo2]
        intro e3
        injection e3 with e3
        subst e3
        exact h.out i g hi' e2 e
  · by_cases e : j = i
    · subst e; rw [hdi, hl]; exact hy
    · rw [hd j hj e]
      refine (h.own j hj).apart hg ?_
      rcases owner (h.own j hj) with e1 | ⟨g, e1, eo⟩
      · exact .inl e1
      · rcases owner hoi with e2 | ⟨g2, e2, eo2⟩
        · right; rw [eo, e2]; simp
        · right
          rw [eo, eo2]
          intro e3
          injection e3 with e3
          subst e3
          exact e (h.one j i g hj hi' e1 e2)
/-- What the measure has let by is small. -/
theorem szTT_small {xss : List (List Tm)} {left r : Int} (h : SzTT xss left r) (hr : ¬ r < 0) (hl : left ≤ 1048576) : xss.length ≤ 2000000 ∧ (∀ xs ∈ xss, xs.length ≤ 2000000) ∧ 0 ≤ r ∧ r ≤ 1048576 := by
  rcases h with h | ⟨h1, h2, h3, h4⟩
  · exact absurd h hr
  · exact ⟨by omega, fun xs hxs => by have := h4 xs hxs; omega, h1, by omega⟩
end Go.Proofs.Ytkcbmblpalmmhaa
