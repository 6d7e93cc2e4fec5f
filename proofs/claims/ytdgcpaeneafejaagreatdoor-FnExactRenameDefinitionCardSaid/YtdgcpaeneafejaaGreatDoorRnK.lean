/- What RenameDefinition's answer is bounded by. -/
import Derived.Test.YtdgcpaeneafejaaGreatDoorRen
namespace Go.Proofs.YtdgcpaeneafejaaGreatDoor
open Go.RowKit
theorem sW_set {α : Type} {f : α → Nat} {xs : List α} {i : Nat} {x y : α} (h : xs[i]? = some x) (e : f y = f x) : sW f (xs.set i y) = sW f xs := by
  induction xs generalizing i with
  | nil => simp at h
  | cons a r ih =>
    rcases i with _ | i
    · simp at h
      subst h
      show f y + sW f r = f a + sW f r
      rw [e]
    · simp at h
      show f a + sW f (r.set i y) = f a + sW f r
      rw [ih h]
theorem ok_rn {s : Sy} {k : Int} {t : ByteArray} (ok : okSy s) (ht : t.size ≤ 1048576) : okSy (rnS s k t) := by
  unfold rnS
  split
  · rename_i hc
    obtain ⟨h1, h2, h3, h4, h5⟩ := ok
    refine ⟨⟨?_, fun x hx => ?_⟩, h2, h3, h4, h5⟩
    · show (s.ds.set _ _).length ≤ 1048576
      rw [List.length_set]
      exact h1.1
    · have hx : x ∈ s.ds.set k.toNat ⟨t, (s.ds.getD k.toNat default).ps, (s.ds.getD k.toNat default).body⟩ := hx
      by_cases hk : k.toNat < s.ds.length
      · rcases List.mem_or_eq_of_mem_set hx with h | h
        · exact h1.2 x h
        · subst h
          have e : s.ds.getD k.toNat default = s.ds[k.toNat] := by rw [List.getD_eq_getElem?_getD, List.getElem?_eq_getElem hk]; rfl
          rw [e]
          exact ⟨ht, (h1.2 _ (List.getElem_mem hk)).2⟩
      · rw [List.set_eq_of_length_le (by omega)] at hx
        exact h1.2 x hx
  · refine ⟨⟨by show (0 : Nat) ≤ _; omega, fun x hx => by cases hx⟩, ⟨by show (0 : Nat) ≤ _; omega, fun x hx => by cases hx⟩, ⟨by show (0 : Nat) ≤ _; omega, fun x hx => by cases hx⟩, ⟨by show (0 : Nat) ≤ _; omega, fun x hx => by cases hx⟩, ⟨by show (0 : Nat) ≤ _; omega, fun x hx => by cases hx⟩⟩
theorem wt_rn (s : Sy) (k : Int) (t : ByteArray) : wtSy (rnS s k t) ≤ wtSy s := by
  unfold rnS
  split
  · have e : wL wtDf (s.ds.set k.toNat ⟨t, (s.ds.getD k.toNat default).ps, (s.ds.getD k.toNat default).body⟩) = wL wtDf s.ds := by
      by_cases hk : k.toNat < s.ds.length
      · have e : s.ds.getD k.toNat default = s.ds[k.toNat] := by rw [List.getD_eq_getElem?_getD, List.getElem?_eq_getElem hk]; rfl
        unfold wL
        rw [List.length_set, sW_set (List.getElem?_eq_getElem hk) (by rw [e]; rfl)]
      · rw [List.set_eq_of_length_le (by omega)]
    show wL wtDf (s.ds.set k.toNat ⟨t, (s.ds.getD k.toNat default).ps, (s.ds.getD k.toNat default).body⟩) + wL wtCp s.cs + wL wtZ s.ms + wL wtZ s.al + wL wtZ s.hd ≤ _
    rw [e]
    exact Nat.le_refl _
  · exact Nat.zero_le _
end Go.Proofs.YtdgcpaeneafejaaGreatDoor
