/- What is asked of definitions, one of them and a part of it. -/
import Derived.Test.YthinoagdgbnphaaDoorPxK
import Derived.Test.YthinoagdgbnphaaDoorPxX
namespace Go.Proofs.YthinoagdgbnphaaDoor
open Go.RowKit
noncomputable def askC (ls : List Df) (k part : Int) : Int := if vdB ls = false then 1 else if idxB k ls.length = false then 2 else if idxB part (ls.getD k.toNat default).body.length = false then 2 else 0
noncomputable def anAt (ls : List Df) (k part : Int) : An := ((annOf (ls.getD k.toNat default))[part.toNat]?).getD ⟨default, 0, 0, false⟩
noncomputable def peR (ls : List Df) (k part : Int) : Int × Int := if askC ls k part = 0 then ((anAt ls k part).e, 0) else (0, askC ls k part)
noncomputable def saR (ls : List Df) (k part : Int) : Int × Int := if askC ls k part = 0 then ((anAt ls k part).s, 0) else (0, askC ls k part)
theorem idxB_yes {k : Int} {n : Nat} (h : idxB k n = true) : ∃ j : Nat, k = j ∧ j < n := by
  unfold idxB at h
  rw [Bool.and_eq_true] at h
  have h1 := of_decide_eq_true h.1
  have h2 := of_decide_eq_true h.2
  exact ⟨k.toNat, by omega, by omega⟩
theorem idxB_no {k : Int} {n : Nat} (h : idxB k n = false) : k < 0 ∨ (n : Int) - 1 < k := by
  unfold idxB at h
  by_cases h1 : 0 ≤ k
  · by_cases h2 : k < n
    · simp [h1, h2] at h
    · omega
  · omega
theorem askC_inv {ls : List Df} {k part : Int} (h : vdB ls = false) : askC ls k part = 1 := by unfold askC; rw [if_pos h]
theorem askC_k {ls : List Df} {k part : Int} (h : vdB ls = true) (hk : idxB k ls.length = false) : askC ls k part = 2 := by unfold askC; rw [if_neg (by rw [h]; simp), if_pos hk]
theorem askC_p {ls : List Df} {j : Nat} {part : Int} {d : Df} (h : vdB ls = true) (hd : ls[j]? = some d) (hp : idxB part d.body.length = false) : askC ls j part = 2 := by
  have hj := (List.getElem?_eq_some_iff.1 hd).1
  unfold askC
  rw [if_neg (by rw [h]; simp)]
  split
  · rfl
  · rw [List.getD_eq_getElem?_getD, Int.toNat_natCast, hd, if_pos (by exact hp)]
theorem askC_ok {ls : List Df} {j i : Nat} {d : Df} (h : vdB ls = true) (hd : ls[j]? = some d) (hi : i < d.body.length) : askC ls j i = 0 := by
  have hj := (List.getElem?_eq_some_iff.1 hd).1
  unfold askC
  rw [if_neg (by rw [h]; simp), if_neg (by unfold idxB; simp; exact hj), List.getD_eq_getElem?_getD, Int.toNat_natCast, hd, if_neg (by unfold idxB; simp; exact hi)]
theorem vdB_parts {ls : List Df} (h : vdB ls = true) {j : Nat} {d : Df} (hd : ls[j]? = some d) : ls.length ≤ 4 ∧ 0 ≤ d.ps ∧ d.ps ≤ 3 ∧ shapeB d.body = true := by
  unfold vdB at h
  rw [Bool.and_eq_true, Bool.and_eq_true, Bool.and_eq_true, headB_eq] at h
  have h1 := of_decide_eq_true h.1
  have h2 := (List.all_eq_true.1 h.2.1) d (List.mem_of_getElem? hd)
  have h3 := (List.all_eq_true.1 h.2.2.2) d (List.mem_of_getElem? hd)
  unfold hdB at h2
  rw [Bool.and_eq_true] at h2
  have h4 := of_decide_eq_true h2.2
  refine ⟨h1.2, h4.1, h4.2, ?_⟩
  rcases e : shapeB d.body with _ | _
  · unfold bodyF at h3
    rw [if_neg (by rw [e]; simp)] at h3
    simp at h3
  · rfl
theorem anAt_eq {ls : List Df} {j i : Nat} {d : Df} {a : An} (hd : ls[j]? = some d) (ha : (annOf d)[i]? = some a) : anAt ls j i = a := by
  unfold anAt
  rw [List.getD_eq_getElem?_getD, Int.toNat_natCast, hd, Int.toNat_natCast]
  show ((annOf d)[i]?).getD _ = a
  rw [ha]; rfl
theorem peR_ok {ls : List Df} {j i : Nat} {d : Df} {a : An} (h : vdB ls = true) (hd : ls[j]? = some d) (hi : i < d.body.length) (ha : (annOf d)[i]? = some a) : peR ls j i = ((a.e : Int), 0) := by
  unfold peR; rw [if_pos (askC_ok h hd hi), anAt_eq hd ha]
theorem saR_ok {ls : List Df} {j i : Nat} {d : Df} {a : An} (h : vdB ls = true) (hd : ls[j]? = some d) (hi : i < d.body.length) (ha : (annOf d)[i]? = some a) : saR ls j i = (a.s, 0) := by
  unfold saR; rw [if_pos (askC_ok h hd hi), anAt_eq hd ha]
theorem peR_bad {ls : List Df} {k part : Int} {c : Int} (h : askC ls k part = c) (hc : c ≠ 0) : peR ls k part = (0, c) := by unfold peR; rw [h, if_neg hc]
theorem saR_bad {ls : List Df} {k part : Int} {c : Int} (h : askC ls k part = c) (hc : c ≠ 0) : saR ls k part = (0, c) := by unfold saR; rw [h, if_neg hc]
end Go.Proofs.YthinoagdgbnphaaDoor
