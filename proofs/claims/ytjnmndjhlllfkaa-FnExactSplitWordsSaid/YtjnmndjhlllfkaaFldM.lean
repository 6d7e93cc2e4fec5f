/- The words between blanks: the library's pieces (by runes) are the pieces between the bytes 32 that are not empty. -/
import Derived.Lib.FieldsP
import Derived.Lib.SpaceUEq
import Derived.Test.YtjnmndjhlllfkaaSplM
namespace Go.Proofs.Ytjnmndjhlllfkaa
open Go.Lib
def blankR (r : Nat) : Bool := decide (r = 32)
def wordsL (l : List UInt8) : List (List UInt8) := (pcs 32 l).filter (fun p => p != [])
theorem decode_ascii32 (s : ByteArray) (pos : Nat) (e : (s.data.toList.getD pos 0).toNat = 32) : Utf8.decode s pos = (32, 1) := by
  rw [decode_N, e]
  unfold decodeN
  rfl
/-- The rune at pos: a blank of one byte, or bytes none of which is a blank. -/
theorem rune_blank (s : ByteArray) (pos : Nat) (h : pos < s.size) :
    1 ≤ (Utf8.decode s pos).2 ∧ pos + (Utf8.decode s pos).2 ≤ s.size ∧
    ((blankR (Utf8.decode s pos).1 = true ∧ (Utf8.decode s pos).2 = 1 ∧ s.data.toList[pos]? = some 32) ∨
     (blankR (Utf8.decode s pos).1 = false ∧ ∀ i, i < (Utf8.decode s pos).2 → s.data.toList[pos + i]? ≠ some 32)) := by
  have hw := width_pos s pos
  have hN := decode_N s pos
  have hlen : s.data.toList.length = s.size := (size_eq s).symm
  have hc := decodeN_conts (s.data.toList.length - pos) (s.data.toList.getD pos 0).toNat (s.data.toList.getD (pos + 1) 0).toNat (s.data.toList.getD (pos + 2) 0).toNat (s.data.toList.getD (pos + 3) 0).toNat
  have hk := decodeN_cases (s.data.toList.length - pos) (s.data.toList.getD pos 0).toNat (s.data.toList.getD (pos + 1) 0).toNat (s.data.toList.getD (pos + 2) 0).toNat (s.data.toList.getD (pos + 3) 0).toNat
  rw [← hN] at hc hk
  obtain ⟨c2, c3, c4, c5⟩ := hc
  refine ⟨hw, by omega, ?_⟩
  have hb : ∀ i, (s.data.toList.getD (pos + i) 0).toNat ≠ 32 → s.data.toList[pos + i]? ≠ some 32 := by
    intro i hne e
    apply hne
    rw [List.getD_eq_getElem?_getD, e]; rfl
  have h0 : s.data.toList[pos]? = some (s.data.toList.getD pos 0) := by
    rw [List.getD_eq_getElem?_getD, List.getElem?_eq_getElem (by omega)]; rfl
  by_cases hr : (Utf8.decode s pos).1 = 32
  · left
    rcases hk with ⟨_, hk⟩ | ⟨_, _, _, h128, hk⟩ | ⟨_, _, _, _, h128, hk⟩ | ⟨h128, hk⟩ | hk
    · have h1 := congrArg Prod.fst hk
      have h2 := congrArg Prod.snd hk
      simp only at h1 h2
      refine ⟨by simp [blankR, hr], h2, ?_⟩
      rw [h0]
      congr 1
      apply UInt8.toNat_inj.1
      show _ = 32
      omega
    · have h1 := congrArg Prod.fst hk
      simp only at h1
      omega
    · have h1 := congrArg Prod.fst hk
      simp only at h1
      omega
    · omega
    · have h1 := congrArg Prod.fst hk
      simp only at h1
      omega
  · right
    refine ⟨by simp [blankR, hr], fun i hi => hb i ?_⟩
    rcases i with _ | i
    · intro e
      rw [Nat.add_zero] at e
      rcases hk with ⟨_, hk⟩ | ⟨h1, _⟩ | ⟨h1, _⟩ | ⟨h1, h2⟩ | hk
      · have h1 := congrArg Prod.fst hk
        simp only at h1
        omega
      · omega
      · omega
      · have hf := decode_ascii32 s pos e
        rw [hf] at h2
        simp at h2
      · have hf := decode_ascii32 s pos e
        rw [hf] at hr
        exact hr rfl
    · intro e
      rcases i with _ | i
      · have e1 : (s.data.toList.getD (pos + 1) 0).toNat = 32 := e
        have := (c2 (by omega)).1; omega
      · rcases i with _ | i
        · have e1 : (s.data.toList.getD (pos + 2) 0).toNat = 32 := e
          have := (c3 (by omega)).1; omega
        · rcases i with _ | i
          · have e1 : (s.data.toList.getD (pos + 3) 0).toNat = 32 := e
            have := (c4 (by omega)).1; omega
          · omega
def keepW (o : List UInt8) : List (List UInt8) := if o = [] then [] else [o]
theorem keep_ne {o : List UInt8} (h : o ≠ []) : keepW o = [o] := by unfold keepW; rw [if_neg h]
theorem filter_open {o r : List UInt8} (h : (32 : UInt8) ∉ o) : wordsL (o ++ 32 :: r) = keepW o ++ wordsL r := by
  unfold wordsL keepW
  rw [pcs_hit 32 r o h]
  by_cases ho : o = []
  · simp [ho]
  · simp [ho]
theorem filter_end {o : List UInt8} (h : (32 : UInt8) ∉ o) : wordsL o = keepW o := by
  unfold wordsL keepW
  rw [pcs_none 32 o h]
  by_cases ho : o = []
  · simp [ho]
  · simp [ho]
theorem words_spans (s : ByteArray) : ∀ (f pos : Nat) (st : Option Nat) (acc : List (Nat × Nat)), s.size ≤ pos + f → pos ≤ s.size → (∀ a, st = some a → a < pos) → (32 : UInt8) ∉ openPiece s.data.toList st pos →
    (closeSpans s (spansFromP blankR s f pos st acc)).map (fun p => pieceU s.data.toList p.1 p.2) = acc.map (fun p => pieceU s.data.toList p.1 p.2) ++ wordsL (openPiece s.data.toList st pos ++ s.data.toList.drop pos)
  | f, pos, st, acc, h, hp, hst, ho => by
    have hlen : s.data.toList.length = s.size := (size_eq s).symm
    by_cases hlt : pos < s.size
    · obtain ⟨f, rfl⟩ : ∃ g, f = g + 1 := ⟨f - 1, by omega⟩
      obtain ⟨hw, hwn, hk⟩ := rune_blank s pos hlt
      unfold spansFromP
      rw [if_pos hlt]
      rcases hk with ⟨hr, hw1, hb⟩ | ⟨hr, hb⟩
      · rw [if_pos hr, hw1]
        have hd : s.data.toList.drop pos = 32 :: s.data.toList.drop (pos + 1) := by
          obtain ⟨hlt', he⟩ := List.getElem?_eq_some_iff.1 hb
          rw [List.drop_eq_getElem_cons hlt', he]
        rw [hd]
        rw [filter_open ho]
        cases st with
        | none =>
          have ih := words_spans s f (pos + 1) none acc (by omega) (by omega) (fun a h => by cases h) (by simp [openPiece])
          simp only [openPiece, List.nil_append] at ih ⊢
          simpa [keepW] using ih
        | some a =>
          have ih := words_spans s f (pos + 1) none (acc ++ [(a, pos)]) (by omega) (by omega) (fun a h => by cases h) (by simp [openPiece])
          have hne : openPiece s.data.toList (some a) pos ≠ [] := pieceU_ne s.data.toList a pos (hst a rfl) (by omega)
          rw [keep_ne hne]
          simp only [openPiece, List.nil_append] at ih ⊢
          simpa using ih
      · rw [if_neg (by rw [hr]; exact Bool.false_ne_true)]
        generalize hww : (Utf8.decode s pos).2 = k at hw hwn hb
        have hno : (32 : UInt8) ∉ (s.data.toList.drop pos).take k := by
          intro hm
          obtain ⟨i, hi, he⟩ := List.getElem_of_mem hm
          rw [List.length_take, List.length_drop] at hi
          refine hb i (by omega) ?_
          rw [List.getElem_take, List.getElem_drop] at he
          rw [List.getElem?_eq_getElem (by omega), he]
        have hd : s.data.toList.drop pos = (s.data.toList.drop pos).take k ++ s.data.toList.drop (pos + k) := by
          rw [← List.drop_drop, List.take_append_drop]
        cases st with
        | none =>
          have hop : openPiece s.data.toList (some pos) (pos + k) = (s.data.toList.drop pos).take k := by
            simp only [openPiece, pieceU, Nat.add_sub_cancel_left]
          have ih := words_spans s f (pos + k) (some pos) acc (by omega) hwn (fun a h => by cases h; omega) (by rw [hop]; exact hno)
          rw [hop, ← hd] at ih
          simpa [openPiece] using ih
        | some a =>
          have hop : openPiece s.data.toList (some a) (pos + k) = openPiece s.data.toList (some a) pos ++ (s.data.toList.drop pos).take k :=
            (pieceU_grow _ _ _ _ (Nat.le_of_lt (hst a rfl))).symm
          have ih := words_spans s f (pos + k) (some a) acc (by omega) hwn (fun b h => by cases h; have := hst a rfl; omega) (by rw [hop, List.mem_append]; exact fun h => h.elim ho hno)
          rw [hop, List.append_assoc, ← hd] at ih
          exact ih
    · have hps : pos = s.size := by omega
      have hd : s.data.toList.drop pos = [] := List.drop_eq_nil_of_le (by omega)
      rw [spansFromP_end _ s _ _ _ _ hlt, hd, List.append_nil, filter_end ho]
      cases st with
      | none => simp [closeSpans, openPiece, keepW]
      | some a =>
        have hne : openPiece s.data.toList (some a) pos ≠ [] := pieceU_ne s.data.toList a pos (hst a rfl) (by omega)
        rw [keep_ne hne]
        simp [closeSpans, openPiece, hps]
theorem goFields_words (s : ByteArray) : goFieldsP blankR s = (wordsL s.data.toList).map fun l => ⟨l.toArray⟩ := by
  have h := words_spans s s.size 0 none [] (by omega) (Nat.zero_le _) (fun a h => by cases h) (by simp [openPiece])
  simp only [List.map_nil, List.nil_append, openPiece, List.drop_zero] at h
  rw [← h]
  unfold goFieldsP spansOfP
  rw [List.map_map]
  refine List.map_congr_left fun p _ => ?_
  apply ByteArray.ext
  apply Array.ext'
  simp [pieceU]
end Go.Proofs.Ytjnmndjhlllfkaa
