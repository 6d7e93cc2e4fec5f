/- The meeting of two names: plain mathematics, and Go's min and max of two texts. -/
import Derived.Lib.MinMaxS
import Derived.Test.YtdgcpaeneafejaaGreatDoorSfLow
import Derived.Test.YtdgcpaeneafejaaGreatDoorSfT
namespace Go.Proofs.YtdgcpaeneafejaaGreatDoor
open Go.RowKit
def mlo (a b : ByteArray) : ByteArray := if lsB b a = true then b else a
def mhi (a b : ByteArray) : ByteArray := if lsB b a = true then a else b
def mtP (x y : ByteArray) (m : Mt) : Bool := eqB m.l x && eqB m.r y
def mtL (ms : List Mt) (x y : ByteArray) : Option Mt := ms.find? (mtP x y)
def mtS (o : Option Mt) : ByteArray := match o with | some m => m.s | none => ⟨#[]⟩
def mtC (o : Option Mt) : Int := match o with | some _ => 0 | none => 3
theorem mtL_hit {ms : List Mt} {x y : ByteArray} {k : Nat} {m : Mt} (h : (ms.take k).any (mtP x y) = false) (hm : ms[k]? = some m) (hp : mtP x y m = true) : mtL ms x y = some m := by
  unfold mtL
  have e : ms = ms.take k ++ ms.drop k := (List.take_append_drop k ms).symm
  have hk : k < ms.length := by
    rcases Nat.lt_or_ge k ms.length with h | h
    · exact h
    · rw [List.getElem?_eq_none (by omega)] at hm; cases hm
  have e2 : ms.drop k = m :: ms.drop (k + 1) := by
    rw [List.drop_eq_getElem_cons hk]
    rw [List.getElem?_eq_getElem hk] at hm
    injection hm with hm
    rw [hm]
  rw [e, List.find?_append, e2]
  have n1 : (ms.take k).find? (mtP x y) = none := by
    rw [List.find?_eq_none]
    intro z hz hzp
    have : (ms.take k).any (mtP x y) = true := List.any_eq_true.2 ⟨z, hz, hzp⟩
    rw [h] at this; cases this
  rw [n1, Option.none_or, List.find?_cons, hp]
theorem mtL_miss {ms : List Mt} {x y : ByteArray} (h : ms.any (mtP x y) = false) : mtL ms x y = none := by
  unfold mtL
  rw [List.find?_eq_none]
  intro z hz hzp
  have : ms.any (mtP x y) = true := List.any_eq_true.2 ⟨z, hz, hzp⟩
  rw [h] at this; cases this
theorem mtL_empty {ms : List Mt} {x y : ByteArray} {m : Mt} (h : msB ms = true) (hm : mtL ms x y = some m) : eqB m.s ⟨#[]⟩ = false := by
  unfold msB at h
  simp only [Bool.and_eq_true] at h
  have h1 := List.all_eq_true.1 h.2.2.1 m (List.mem_of_find?_eq_some hm)
  unfold mtA at h1
  simp only [Bool.and_eq_true] at h1
  have h2 := h1.2.2.1
  unfold actionB at h2
  rw [Bool.and_eq_true] at h2
  have h3 := nameB_iff.1 h2.1
  rw [Bool.eq_false_iff]
  intro he
  unfold eqB at he
  have h4 : m.s.toList = (⟨#[]⟩ : ByteArray).toList := by simpa using he
  rw [ByteArray.toList_eq, ByteArray.toList_eq] at h4
  have h5 := h3.1
  rw [h4] at h5
  simp at h5
theorem bl_lt (x y : ByteArray) : lsB x y = decide (x.data.toList < y.data.toList) := by
  unfold lsB
  rw [ByteArray.toList_eq, ByteArray.toList_eq, Go.Proofs.bytesLess_eq]
theorem minS_mlo (a b : ByteArray) : Lib.minS a b = mlo a b := by
  unfold Lib.minS mlo
  rcases h : lsB b a with _ | _
  · rw [if_pos ?_]
    · rfl
    · rcases h2 : lsB a b with _ | _
      · right
        have e := bl_tri (x := a.toList) (y := b.toList) h2 h
        rw [ByteArray.toList_eq, ByteArray.toList_eq] at e
        exact e
      · left
        rw [bl_lt] at h2
        exact of_decide_eq_true h2
  · rw [if_neg ?_]
    · rfl
    · rintro (h3 | h3)
      · have h4 := lsB_asymm h
        rw [bl_lt, decide_eq_true h3] at h4; cases h4
      · rw [bl_lt, h3] at h
        have := of_decide_eq_true h
        exact absurd this (List.lt_irrefl _)
theorem maxS_mhi (a b : ByteArray) : Lib.maxS a b = mhi a b := by
  unfold Lib.maxS mhi
  rcases h : lsB b a with _ | _
  · rcases h2 : lsB a b with _ | _
    · have e := bl_tri (x := a.toList) (y := b.toList) h2 h
      rw [ByteArray.toList_eq, ByteArray.toList_eq] at e
      have e2 : a = b := by
        rcases a with ⟨a⟩; rcases b with ⟨b⟩
        simp only at e
        rw [ByteArray.mk.injEq]; exact Array.ext' e
      subst e2
      simp
    · rw [bl_lt] at h2
      rw [if_pos (of_decide_eq_true h2)]; rfl
  · have h4 := lsB_asymm h
    rw [bl_lt] at h4
    rw [if_neg (of_decide_eq_false h4)]; rfl
theorem mlo_le (a b : ByteArray) : lsB (mhi a b) (mlo a b) = false := by
  unfold mhi mlo
  rcases h : lsB b a with _ | _
  · exact h
  · exact lsB_asymm h
end Go.Proofs.YtdgcpaeneafejaaGreatDoor
