/- The text of a transition system, the program's way: decimal forms joined, texts of edges, parts. -/
import Derived.Test.YthbnfjedjijacaaGreatDoorLxM
import Derived.Test.YthbnfjedjijacaaGreatDoorLisJ
import Derived.Test.YthbnfjedjijacaaGreatDoorLtV
namespace Go.Proofs.YthbnfjedjijacaaGreatDoor
open Go.RowKit Go.Lib
set_option linter.unusedVariables false
theorem dec_join (xs : List Int) (sep : List UInt8) (hwf : Wf xs) : (join (xs.map itoa) sep).length ≤ xs.length * (21 + sep.length) := by
  have := join_le sep 21 (xs.map itoa) (fun p hp => by obtain ⟨v, hv, rfl⟩ := List.mem_map.1 hp; exact itoa_le (hwf v hv).1 (hwf v hv).2)
  rwa [List.length_map] at this
theorem wf_head {x : Lt} (hv : ltB x = true) : Wf [x.st, x.ini] := by
  obtain ⟨h1, h2, _⟩ := ltB_parts hv
  intro v h
  simp at h
  rcases h with rfl | rfl <;> omega
theorem wf_ed {x : Lt} (hv : ltB x = true) {e : Ed} (he : e ∈ x.es) : Wf (edN e) := by
  obtain ⟨h1, h2, h3, h4, h5, h6⟩ := ltB_parts hv
  have hl : x.ls.length ≤ 12 := by
    refine Classical.byContradiction fun hn => ?_
    rw [lsOk_len (by omega)] at h3; cases h3
  have h7 := List.all_eq_true.1 h6 e he
  unfold inE at h7
  simp only [Bool.and_eq_true, idxI_iff] at h7
  intro v h
  simp [edN] at h
  rcases h with rfl | rfl | rfl <;> omega
theorem ls_len {x : Lt} (hv : ltB x = true) : 1 ≤ x.ls.length ∧ x.ls.length ≤ 12 := by
  obtain ⟨h1, h2, h3, _⟩ := ltB_parts hv
  refine Classical.byContradiction fun hn => ?_
  rw [lsOk_len hn] at h3; cases h3
theorem labT_len (x : Lt) : (labT x).length = x.ls.length - 1 := by simp [labT]
theorem lab_short {x : Lt} (ok : okLt x) : ∀ p ∈ labT x, p.length ≤ 1048576 := by
  intro p hp
  obtain ⟨u, hu, rfl⟩ := List.mem_map.1 hp
  exact ok.1.2 u (List.mem_of_mem_drop hu)
theorem head_short {x : Lt} (hv : ltB x = true) : (headT x).length ≤ 44 := dec_join [x.st, x.ini] [32] (wf_head hv)
theorem edge_short {x : Lt} (hv : ltB x = true) : ∀ p ∈ x.es.map edgeT, p.length ≤ 66 := by
  intro p hp
  obtain ⟨e, he, rfl⟩ := List.mem_map.1 hp
  exact dec_join (edN e) [58] (wf_ed hv he)
theorem part_short2 {ps : List (List UInt8)} {M : Nat} (h : ∀ p ∈ ps, p.length ≤ M) : (partT ps).length ≤ ps.length * (M + 1) + 1 := by
  unfold partT
  split
  · simp
  · have := join_le [32] M ps h
    rw [List.length_singleton] at this
    omega
set_option maxHeartbeats 1600000 in
set_option maxRecDepth 100000 in
theorem joinS_any (A : Option Addr) (n c : Nat) (xs : List Int) (b : UInt8) (w : World) (hr : IRow w w.heap.size A xs) (hn : xs.length = n) (h1 : 1 ≤ n) (h64 : n ≤ 64) (hwf : Wf xs) (ht : Pow10 w) :
    Calls Tryz.prog 39 #[.slice A n c, .string ⟨#[b]⟩] w fun e w' => e = .returned (.string ⟨(join (xs.map itoa) [b]).toArray⟩) ∧ Below w.heap.size w w' := by
  have HD := Lib.hid (mapDecimal_any A n c xs w hr hn h1 h64 hwf ht)
  have HW := Lib.hid (dec_join xs [b] hwf)
  have HL := Lib.hid hn
  clear hr hwf ht hn
  go_enter Tryz.func39, Tryz.ntmps39
  go_wp2_with (first | (go_at_call 77; refine HD.out.mono ?_; rintro e wo ⟨rfl, hown, hb⟩; have HB := Lib.hid hb; have HF := Lib.hid hown; have hsz := hb.size; have HJ := Lib.hid (join_call (some ⟨w.heap.size, 0, none⟩) (xs.map itoa) n [b] wo (Row.of_own HF.out) (by rw [List.length_map, HL.out]; exact h1) (by rw [List.length_map, HL.out]; omega) (by rw [List.length_map, HL.out]; exact Nat.le_refl _) (Nat.le_trans HW.out (by rw [HL.out]; show n * 22 ≤ _; omega))); rw [List.length_map, HL.out] at HJ; clear hb hown) | (go_at_call 43; refine HJ.out.mono ?_; rintro e w3 ⟨rfl, hb3⟩; have HB3 := Lib.hid (HB.out.trans (hb3.mono hsz)); clear hb3))
  go_ret
  exact ⟨rfl, HB3.out⟩
def orT (a b : ByteArray) : ByteArray := if a.toList = [] then b else a
theorem orS_any (g : Nat) (a b : ByteArray) (w : World) (hb : b.toList ≠ []) (h0 : w.cell? ⟨g, 0, none⟩ = some (.string a)) (h1 : w.cell? ⟨g, 1, none⟩ = some (.string b)) :
    Calls Tryz.prog 42 #[.slice (some ⟨g, 0, none⟩) 2 2] w fun e w' => e = .returned (.string (orT a b)) ∧ Below w.heap.size w w' := by
  have H0 := Lib.hid h0
  have H1 := Lib.hid h1
  have HB := Lib.hid (show b.toList.isEmpty = false by simpa using hb)
  clear h0 h1 hb
  go_enter Tryz.func42, Tryz.ntmps42
  go_wp2
  go_loopw [8] (fun i wr => ∃ k : Nat, k ≤ 1 ∧ i = .int .i64 k ∧ Hid (Drawn w wr) ∧ Hid (k = 1 → a.toList = [])) (fun i _ => 2 - (intOf i).toNat)
  case atStart => exact ⟨0, by omega, rfl, Lib.hid (Drawn.refl _), Lib.hid (by omega)⟩
  case round =>
    obtain ⟨k, hk, rfl, HD, HA⟩ := hrel
    by_cases hk0 : k = 0
    · subst hk0
      have r := (SameOn.of_drawn (S := fun _ => True) HD.out g 0 trivial).trans H0.out
      by_cases ha : a.toList = []
      · have hne : a.toList.isEmpty = true := by rw [ha]; rfl
        have HZ := Lib.hid ha
        clear ha
        go_wp2
        go_roundw
        case rel => exact ⟨1, by omega, by go_num, HD, Lib.hid (fun _ => HZ.out)⟩
        case measure => simp [intOf]
      · have hne : a.toList.isEmpty = false := by simpa using ha
        have HF := Lib.hid (show orT a b = a from if_neg ha)
        clear ha
        go_wp2
        go_ret
        exact ⟨by rw [HF.out]; rfl, HD.out.below _⟩
    · obtain rfl : k = 1 := by omega
      have r := (SameOn.of_drawn (S := fun _ => True) HD.out g 1 trivial).trans H1.out
      have HF := Lib.hid (show orT a b = b from if_pos (HA.out rfl))
      have hne := HB.out
      clear hk0
      go_wp2
      go_ret
      exact ⟨by rw [HF.out]; rfl, HD.out.below _⟩
end Go.Proofs.YthbnfjedjijacaaGreatDoor
