/- The text of a transition system, the program's way: the texts of edges, of parts, of the whole. -/
import Derived.Deep.RegionHeld3
import Derived.BigQuiet
import Derived.Test.YthbnfjedjijacaaGreatDoorLxI
namespace Go.Proofs.YthbnfjedjijacaaGreatDoor
open Go.RowKit Go.Lib
set_option linter.unusedVariables false
theorem irow2 {w : World} {g : Nat} {a b : Int} (z0 : w.cell? ⟨g, 0, none⟩ = some (.int .i64 a)) (z1 : w.cell? ⟨g, 1, none⟩ = some (.int .i64 b)) : IRow w w.heap.size (some ⟨g, 0, none⟩) [a, b] := by
  intro _
  refine ⟨g, 0, rfl, World.block_lt_of_cell? w _ z0, fun j v h => ?_⟩
  match j, h with
  | 0, h => (injection h with h; subst h; exact z0)
  | 1, h => (injection h with h; subst h; exact z1)
theorem irow3 {w : World} {g : Nat} {a b c : Int} (z0 : w.cell? ⟨g, 0, none⟩ = some (.int .i64 a)) (z1 : w.cell? ⟨g, 1, none⟩ = some (.int .i64 b)) (z2 : w.cell? ⟨g, 2, none⟩ = some (.int .i64 c)) : IRow w w.heap.size (some ⟨g, 0, none⟩) [a, b, c] := by
  intro _
  refine ⟨g, 0, rfl, World.block_lt_of_cell? w _ z0, fun j v h => ?_⟩
  match j, h with
  | 0, h => (injection h with h; subst h; exact z0)
  | 1, h => (injection h with h; subst h; exact z1)
  | 2, h => (injection h with h; subst h; exact z2)
set_option maxRecDepth 100000 in
set_option maxHeartbeats 1600000 in
theorem edText_any (v : Ed) (w : World) (hwf : Wf (edN v)) (ht : Pow10 w) :
    Calls Tryz.prog 41 #[.agg #[.int .i64 v.f, .int .i64 v.l, .int .i64 v.t]] w fun e w' => e = .returned (.string ⟨(edgeT v).toArray⟩) ∧ Below w.heap.size w w' := by
  have HJ := Lib.hid (fun (W : World) (hW : Below w.heap.size w W) (g : Nat) (z0 : W.cell? ⟨g, 0, none⟩ = some (.int .i64 v.f)) (z1 : W.cell? ⟨g, 1, none⟩ = some (.int .i64 v.l)) (z2 : W.cell? ⟨g, 2, none⟩ = some (.int .i64 v.t)) => (joinS_any (some ⟨g, 0, none⟩) 3 3 (edN v) 58 W (irow3 z0 z1 z2) rfl (by decide) (by decide) hwf (ht.below hW)).mono (fun e w' h => (⟨h.1, hW.trans (h.2.mono hW.size)⟩ : e = .returned (.string ⟨(edgeT v).toArray⟩) ∧ Below w.heap.size w w')))
  clear hwf ht
  go_enter Tryz.func41, Tryz.ntmps41
  go_wp2_with (go_at_call 39; refine (HJ.out _ (by repeat (first | exact Below.refl _ _ | refine Below.alloc ?_ (by simp <;> omega) _)) (w.heap.size + 1) (by simp [go_sem]) (by simp [go_sem]) (by simp [go_sem])).mono ?_; rintro e w3 ⟨rfl, hb3⟩; have HB3 := Lib.hid hb3; clear hb3)
  go_ret
  exact ⟨rfl, HB3.out⟩
def OwnT (w' : World) (g n : Nat) (ps : List (List UInt8)) : Prop := w'.ownsRow g 9 1 (.slice (some ⟨g, 0, none⟩) n n) n (strs ps)
set_option maxHeartbeats 1600000 in
set_option maxRecDepth 100000 in
theorem mapEdT_any (A : Option Addr) (n c : Nat) (xs : List Ed) (w : World) (S : Nat → Prop) (h : LRow edR w S A xs) (hS : ∀ b, S b → b < w.heap.size) (hn : xs.length = n) (hm : n ≤ 1048576) (hwf : ∀ e ∈ xs, Wf (edN e)) (ht : Pow10 w) :
    Calls Tryz.prog 40 #[.slice A n c, .func (.func 41) #[] #[]] w fun e w' => e = .returned (.slice (some ⟨w.heap.size, 0, none⟩) n n) ∧ OwnT w' w.heap.size n (xs.map edgeT) ∧ Below w.heap.size w w' := by
  obtain ⟨i0, hi, hz0, hz1, hz2⟩ := info_parts info_str
  have HR := Lib.hid h
  have HS := Lib.hid hS
  have HW := Lib.hid hwf
  have HT := Lib.hid ht
  have HL := Lib.hid hn
  have HM := Lib.hid (strs_len (xs.map edgeT))
  have HC := Lib.hid (fun (args : Array Value) (W : World) => Go.MuLone.run_callFunc_enter Tryz.func41 rfl rfl args W)
  clear h hS hwf ht hn
  go_enter Tryz.func40, Tryz.ntmps40
  go_wp2_with (at_make; refine wpList_make_full _ rfl _ _ _ rfl w.heap.size 9 i0 (.string ByteArray.empty) 1 Tryz.underlying22 hi hz0 hz1 .i64 .i64 _ _ n rfl rfl rfl rfl (by rw [hz2]; omega) (by unfold maxLen; omega) (Nat.le_refl _) ?_; intro w1 hown1 hg1)
  have H0 : w1.ownsRow w.heap.size 9 1 (.slice (some ⟨w.heap.size, 0, none⟩) n n) n ((strs (xs.map edgeT)).take 0 ++ List.replicate (n - 0) (.string ByteArray.empty)) := by
    have e := toList_madeCells_one (.string ByteArray.empty) n
    have e2 : (Value.string ByteArray.empty).cells = #[.string ByteArray.empty] := rfl
    rw [e2, Nat.mul_one, e] at hown1
    simpa using hown1
  have hb1 : Below w.heap.size w w1 := (Below.refl _ _).grown hg1 (Nat.le_refl _) (by simp)
  clear hown1 hg1 hi hz0 hz1 hz2
  go_loopw [6, 7, 13] (fun _ _ iv wr => ∃ k : Nat, k ≤ n ∧ iv = .int .i64 k ∧ Below w.heap.size w wr ∧ wr.ownsRow w.heap.size 9 1 (.slice (some ⟨w.heap.size, 0, none⟩) n n) n ((strs (xs.map edgeT)).take k ++ List.replicate (n - k) (.string ByteArray.empty))) (fun _ _ iv _ => n - (intOf iv).toNat)
  case atStart => exact ⟨0, Nat.zero_le _, rfl, hb1, H0⟩
  case round =>
    obtain ⟨k, hk, rfl, hb, hown⟩ := hrel
    obtain ⟨wo, rfl⟩ : ∃ wo : World, wo = wr := ⟨_, rfl⟩
    have HB := Lib.hid hb
    have HO := Lib.hid hown
    have hsz := hb.size
    clear H0 hb1 hb hown
    by_cases hlt : k < n
    · obtain ⟨b2, o2, cs, v, rfl, hb2, hR, hvv, hc⟩ := (HR.out.keep (SameOn.of_below HB.out HS.out)).at_ (k := k) (by rw [HL.out]; exact hlt)
      have hR : cs = [Value.int .i64 v.f, Value.int .i64 v.l, Value.int .i64 v.t] := hR
      subst hR
      have f0 : wo.cell? ⟨b2, o2 + k * 3, none⟩ = some (.int .i64 v.f) := hc 0 _ rfl
      have f1 : wo.cell? ⟨b2, o2 + k * 3 + 1, none⟩ = some (.int .i64 v.l) := hc 1 _ rfl
      have f2 : wo.cell? ⟨b2, o2 + k * 3 + 2, none⟩ = some (.int .i64 v.t) := hc 2 _ rfl
      have lb2 := World.block_lt_of_cell? wo _ f0
      have C := Lib.hid (fun (W : World) (hW : Below wo.heap.size wo W) => (edText_any v W (HW.out v (List.mem_of_getElem? hvv.out)) (HT.out.below (HB.out.trans (hW.mono hsz)))).mono (fun e w' h => (⟨h.1, hW.trans (h.2.mono hW.size)⟩ : e = .returned (.string ⟨(edgeT v).toArray⟩) ∧ Below wo.heap.size wo w')))
      have HX := Lib.hid (show (strs (xs.map edgeT))[k]? = some (.string ⟨(edgeT v).toArray⟩) by unfold strs; rw [List.getElem?_map, List.getElem?_map, hvv.out]; rfl)
      clear hc hvv hb2
      go_wp2_with fail
      refine (C.out _ (by repeat (first | exact Below.refl _ _ | refine Below.alloc ?_ (by simp <;> omega) _))).mono ?_
      rintro e w2 ⟨rfl, hb2⟩
      have HB2 := Lib.hid (HB.out.trans (hb2.mono hsz))
      have HO2 := Lib.hid (own_below' HO.out hb2)
      obtain ⟨⟨old, hx⟩, hf⟩ := own_some HO2.out (k := k) (by omega)
      clear hb2
      go_wp2
      go_roundw
      case rel => exact ⟨k + 1, by omega, by go_num, HB2.out.setCell (Nat.le_refl _) _, by have := (HO2.out.stored k (.string ⟨(edgeT v).toArray⟩)).1; rwa [upd_take _ _ _ _ _ (by rw [HM.out, List.length_map]; exact HL.out) HX.out] at this⟩
      case measure => simp [intOf]; omega
    · have hke : k = n := by omega
      have HF := Lib.hid (show wo.ownsRow w.heap.size 9 1 (.slice (some ⟨w.heap.size, 0, none⟩) n n) n (strs (xs.map edgeT)) by
        have := HO.out
        rw [hke, Nat.sub_self, List.replicate_zero, List.append_nil, List.take_of_length_le (by rw [HM.out, List.length_map, HL.out]; exact Nat.le_refl _)] at this
        exact this)
      go_wp2
      go_ret
      exact ⟨rfl, HF.out, HB.out⟩
theorem joinA_any (A : Option Addr) (ps : List (List UInt8)) (c : Nat) (b : UInt8) (w : World) (hr : Row w w.heap.size A (strs ps)) (hn : ps.length ≤ 1048576) (hc : ps.length ≤ c) (hl : (join ps [b]).length ≤ 140737488355328) :
    Calls Tryz.prog 43 #[.slice A ps.length c, .string ⟨#[b]⟩] w fun e w' => e = .returned (.string ⟨(join ps [b]).toArray⟩) ∧ Below w.heap.size w w' := by
  by_cases h0 : ps = []
  · subst h0
    clear hr hn hc hl
    go_enter Tryz.func43, Tryz.ntmps43
    go_wp2
    go_ret
    exact ⟨rfl, Below.refl _ _⟩
  · exact join_call A ps c [b] w hr (List.length_pos_iff.2 h0) hn hc hl
theorem orT_part {ps : List (List UInt8)} (hne : ∀ p ∈ ps, p ≠ []) : orT ⟨(join ps [32]).toArray⟩ ⟨#[45]⟩ = ⟨(partT ps).toArray⟩ := by
  unfold orT partT
  by_cases h0 : ps = []
  · subst h0
    rw [if_pos rfl, if_pos (by simp [join, ByteArray.toList_eq])]
  · rw [if_neg h0, if_neg (fun e => join_ne h0 hne (by simpa [ByteArray.toList_eq] using e))]
end Go.Proofs.YthbnfjedjijacaaGreatDoor
