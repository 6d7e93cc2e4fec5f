/- A list of terms turned round by the library. -/
import Derived.Test.YtfoopgnnhgdfaaaProg
import Derived.WalkKit
import Derived.ProofKit
import Derived.OwnWalk
import Derived.Outline
import Derived.Lib.Hide
import Derived.Shelf.SlicesQ.Reverse
import Derived.Sort.OwnSortedInts
import Derived.Ground.SlgnProg
import Derived.Test.YtfoopgnnhgdfaaaMem
import Derived.Test.YtfoopgnnhgdfaaaOwn
import Derived.Test.YtfoopgnnhgdfaaaTmM
import Derived.Test.YtfoopgnnhgdfaaaTmW
import Derived.Test.YtfoopgnnhgdfaaaRet
import Derived.Test.YtfoopgnnhgdfaaaBuildT
import Derived.Test.YtfoopgnnhgdfaaaConc
import Derived.Test.YtfoopgnnhgdfaaaJoin
import Derived.Test.YtfoopgnnhgdfaaaStk
namespace Go.Proofs.Ytfoopgnnhgdfaaa
open Go.RowKit Go.Shelf Go.Lib Go.Sort
instance : Inhabited Tm := ⟨⟨0, 0⟩⟩
shelf_lay_g SlLaysE0.n35 Slgn 35 at Try 107 as Try.revTerms
theorem flat_tvs (es : List Tm) : (flatK tv 2 es.toArray).toList = tvs es := by
  apply List.ext_getElem?
  intro i
  by_cases hi : i < es.length * 2
  · have h1 := get_flatK tv 2 es.toArray i (by simpa using hi)
    have hs : i < (flatK tv 2 es.toArray).size := by simpa using hi
    rw [getElem!_pos _ i hs] at h1
    rw [Array.getElem?_toList, Array.getElem?_eq_getElem hs, h1]
    have hk : i / 2 < es.length := by omega
    have hx : es[i / 2]? = some es[i / 2] := List.getElem?_eq_getElem hk
    obtain ⟨t1, t2⟩ := tvs_at hx
    have he : (es.toArray)[i / 2]! = es[i / 2] := by rw [getElem!_pos _ _ (by simpa using hk)]; simp
    rw [he]
    rcases Nat.mod_two_eq_zero_or_one i with hm | hm
    · have e : i = i / 2 * 2 := by omega
      rw [hm, show (tvs es)[i]? = (tvs es)[i / 2 * 2]? by rw [← e], t1]; rfl
    · have e : i = i / 2 * 2 + 1 := by omega
      rw [hm, show (tvs es)[i]? = (tvs es)[i / 2 * 2 + 1]? by rw [← e], t2]; rfl
  · rw [List.getElem?_eq_none (by simp; omega), List.getElem?_eq_none (by rw [tvs_length]; omega)]
theorem holds_tms {w : World} {base g n cap : Nat} {T : TypeId} {es : List Tm} (h : w.ownsRow base T 2 (.slice (some ⟨g, 0, none⟩) n cap) n (tvs es)) : HoldsK tv 2 w g 0 es.toArray := by
  intro j hj
  have hl : es.length = n := own_lenJ h
  have hj' : j < es.length * 2 := by simpa using hj
  refine ⟨?_, h.frozenAt _⟩
  rw [Nat.zero_add, h.cellAt j (by omega), ← flat_tvs, Array.getElem?_toList, Array.getElem?_eq_getElem hj, getElem!_pos _ j hj]
  rfl
theorem own_rev {w : World} {base g n cap q : Nat} {T : TypeId} {es ts : List Tm} (h : w.ownsRow base T 2 (.slice (some ⟨g, 0, none⟩) n cap) n (tvs es)) (hl : ts.length = es.length) :
    (putRowK tv 2 (Sort.ahead w q) g 0 ts.toArray).ownsRow base T 2 (.slice (some ⟨g, 0, none⟩) n cap) n (tvs ts) ∧ w.grownBy (putRowK tv 2 (Sort.ahead w q) g 0 ts.toArray) (some g) := by
  have hn : es.length = n := own_lenJ h
  constructor
  · rcases h.2 with ⟨e, _⟩ | ⟨g', cap', cur, e, hb, hh, hnc, hcm, hcs, ht⟩
    · cases e
    · injection e with e1 e2 e3
      injection e1 with e1
      injection e1 with e1
      subst e1 e3
      refine ⟨by rw [tvs_length]; omega, .inr ⟨g, cap, putCells id 0 (flatK tv 2 ts.toArray) cur, rfl, hb, ?_, hnc, hcm, by simp [putCells, hcs], ?_⟩⟩
      · simp [putRowK, putRow, mapBlock, Sort.ahead, Array.getElem?_modify, hh, onCells]
      · rw [← flat_tvs]
        apply List.ext_getElem?
        intro j
        by_cases hj : j < n * 2
        · have hjs : j < ts.length * 2 := by omega
          have hjc : j < cur.size := by rw [hcs]; exact Nat.lt_of_lt_of_le hj (Nat.mul_le_mul_right 2 hnc)
          rw [List.getElem?_take_of_lt hj, Array.getElem?_toList, Array.getElem?_toList]
          have hjf : j < (flatK tv 2 ts.toArray).size := by simpa using hjs
          rw [Array.getElem?_eq_getElem hjf]
          simp only [putCells, Array.getElem?_mapIdx, Array.getElem?_eq_getElem hjc, Option.map_some, Nat.zero_le, true_and, Nat.zero_add, Nat.sub_zero]
          rw [if_pos hjf, getElem!_pos _ j hjf]
          rfl
        · rw [List.getElem?_take_eq_none (by omega), List.getElem?_eq_none (by simp; omega)]
  · refine ⟨rfl, rfl, rfl, by simp [putRowK, putRow, mapBlock, Sort.ahead], fun k hk hne => ?_⟩
    have : g ≠ k := fun e => hne (by rw [e])
    simp [putRowK, putRow, mapBlock, Sort.ahead, Array.getElem?_modify, this]
set_option maxRecDepth 100000 in
/-- A row of the call's own, turned round. -/
theorem reverse_any (A : Option Addr) (n c : Nat) (es : List Tm) (w : World) (base : Nat) (h : w.ownsRow base 77 2 (.slice A n c) n (tvs es)) (m : n ≤ 2000000) :
    Calls Try.prog 107 #[.slice A n c] w fun e w' => e = .returned (.tuple #[]) ∧ w'.ownsRow base 77 2 (.slice A n c) n (tvs es.reverse) ∧ w.grownBy w' (Value.slice A n c).ownBlock := by
  have hn : es.length = n := own_lenJ h
  rcases Nat.eq_zero_or_pos n with h0 | h0
  · subst h0
    obtain rfl : es = [] := List.eq_nil_of_length_eq_zero hn
    have hE := @AnyQ.slices_Reverse_empty _ _ Try.revTerms A c w
    refine Calls.mono hE ?_
    rintro e w' ⟨rfl, rfl⟩
    exact ⟨rfl, h, World.grownBy.refl _ _⟩
  · obtain ⟨g, rfl, _, _⟩ := own_at h h0
    have hR := AnyQ.slices_Reverse Try.revTerms 2 Try.isAgg77 Try.sizeOf77 tv (fun _ => rfl) (fun x v hv => by simp [tv] at hv; rcases hv with rfl | rfl <;> rfl) g 0 c es.toArray w (holds_tms h) (by simp; omega)
    rw [show es.toArray.size = n by simpa using hn] at hR
    refine Calls.mono hR ?_
    rintro e w' ⟨rfl, q, rfl⟩
    rw [show es.toArray.reverse = es.reverse.toArray by simp]
    obtain ⟨r1, r2⟩ := own_rev (q := q) h (ts := es.reverse) (by simp)
    exact ⟨rfl, r1, r2⟩
end Go.Proofs.Ytfoopgnnhgdfaaa
