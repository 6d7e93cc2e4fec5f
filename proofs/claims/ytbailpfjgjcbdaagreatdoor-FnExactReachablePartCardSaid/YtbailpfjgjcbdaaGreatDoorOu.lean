/- The edges out of a state: the model. -/
/- The edges out of a state: the program. -/
import Derived.Test.YtbailpfjgjcbdaaGreatDoorLtO
import Derived.Test.YtbailpfjgjcbdaaGreatDoorRea
import Derived.Test.YtbailpfjgjcbdaaGreatDoorLtZ
namespace Go.Proofs.YtbailpfjgjcbdaaGreatDoor
open Go.RowKit
set_option linter.unusedVariables false
set_option linter.unusedSimpArgs false
theorem el_ed : ElOK 30 79 3 := el_ok Tryz.underlying30 (show _ = some (some (.agg #[.int .i64 0, .int .i64 0, .int .i64 0]), 3, 24) by kernel_rfl) (by decide) rfl (by decide)
theorem srow_ed (w : World) (e : Ed) (T : TypeId) : SRow (w.alloc (.cells #[.int .i64 e.f, .int .i64 e.l, .int .i64 e.t] T)) (fun _ => True) (some ⟨w.heap.size, 0, none⟩) (edC e) := by
  intro _
  refine ⟨w.heap.size, 0, rfl, trivial, fun j u hj => ?_⟩
  match j, hj with
  | 0, hj => injection hj with hj; subst hj; simp [go_sem]
  | 1, hj => injection hj with hj; subst hj; simp [go_sem]
  | 2, hj => injection hj with hj; subst hj; simp [go_sem]
theorem one_ed (e : Ed) : ∀ u ∈ edC e, u.oneCell' = true := by
  intro u hu
  simp only [edC, List.mem_cons, List.not_mem_nil, or_false] at hu
  rcases hu with rfl | rfl | rfl <;> rfl
set_option maxRecDepth 100000 in
set_option maxHeartbeats 4000000 in
theorem l11Out_any (x : Lt) (p : Nat) (k : Int) (A2 : Option Addr) (c2 : Nat) (w : World) (S : Nat → Prop) (y3 : w.cell? ⟨p, 3, none⟩ = some (.slice A2 x.es.length c2)) (h2 : LRow edR w S A2 x.es) (hS : ∀ b, S b → b < w.heap.size) (ok : okLt x) :
    Calls Tryz.prog 46 #[.pointer (some ⟨p, 0, none⟩), .int .i64 k] w fun e w' => ∃ A c, e = .returned (.slice A (outE x k).length c) ∧ OL edO 79 w' (In w.heap.size w'.heap.size) A (outE x k).length c (outE x k) ∧ Below w.heap.size w w' := by
  have hp := World.block_lt_of_cell? w _ y3
  have M := ok.2.1
  have Y := Lib.hid (fun (W : World) (hW : Below w.heap.size w W) => (⟨(hW.cell (p := ⟨p, 3, none⟩) hp).trans y3, Nat.lt_of_lt_of_le hp hW.size⟩ : W.cell? ⟨p, 3, none⟩ = some (.slice A2 x.es.length c2) ∧ p < W.heap.size))
  have R2 := Lib.hid h2
  have HS := Lib.hid hS
  have H0 := Lib.hid (World.ownsRow_made w #[] 0 (e := 79) (size := 3) (base := w.heap.size) (Nat.le_refl _) (Nat.zero_le _) rfl)
  have HB0 := Lib.hid ((Below.refl w.heap.size w).alloc (Nat.le_refl _) (.cells #[] 79))
  clear y3 h2 hS ok
  go_enter Tryz.func46, Tryz.ntmps46
  go_wp2
  go_loopw [5, 6] (fun v i wr => ∃ (j n : Nat) (A : Option Addr) (c : Nat), j ≤ x.es.length ∧ n ≤ j ∧ i = .int .i64 (j : Int) ∧ v = .slice A n c ∧ Hid (n = (outT x k j).length) ∧ Hid (wr.ownsRow w.heap.size 79 3 (.slice A n c) n (edCs (outT x k j))) ∧ Hid (Below w.heap.size w wr)) (fun _ i _ => x.es.length - (intOf i).toNat)
  case atStart => exact ⟨0, 0, _, _, Nat.zero_le _, Nat.le_refl _, rfl, rfl, Lib.hid rfl, Lib.hid H0.out, HB0⟩
  case round =>
    obtain ⟨j, n, A, c, hk, hnj, rfl, rfl, HN, HO, HB⟩ := hrel
    clear H0 HB0
    have hsz := HB.out.size
    obtain ⟨z3, hpr⟩ := Y.out _ HB.out
    by_cases hlt : j < x.es.length
    · obtain ⟨b, o, cs, v, rfl, hb, hR, hv, hc⟩ := (R2.out.keep (SameOn.of_below HB.out HS.out)).at_ (k := j) hlt
      have hR : cs = [Value.int .i64 v.f, Value.int .i64 v.l, Value.int .i64 v.t] := hR
      subst hR
      have f0 : wr.cell? ⟨b, o + j * 3, none⟩ = some (.int .i64 v.f) := hc 0 _ rfl
      have f1 : wr.cell? ⟨b, o + j * 3 + 1, none⟩ = some (.int .i64 v.l) := hc 1 _ rfl
      have f2 : wr.cell? ⟨b, o + j * 3 + 2, none⟩ = some (.int .i64 v.t) := hc 2 _ rfl
      have lb := World.block_lt_of_cell? wr _ f0
      clear hc
      rcases te : (v.f == k) with _ | _
      · have HT := Lib.hid (outT_no hv.out te)
        go_wp2
        go_roundw
        case rel => exact ⟨j + 1, n, A, c, by omega, by omega, by go_num, rfl, Lib.hid (by rw [HT.out]; exact HN.out), Lib.hid (by rw [HT.out]; exact HO.out), HB⟩
        case measure => simp [intOf]; omega
      · have HT := Lib.hid (outT_yes hv.out te)
        have HO2 := Lib.hid (fun ob : Obj => HO.out.alloc ob)
        go_wp2_with (at_builtin; refine wpList_append_vs el_ed rfl _ _ rfl _ w.heap.size (.slice A n c) n (edCs (outT x k j)) rfl (by exact HO2.out _) (fun _ => True) (some ⟨wr.heap.size, 0, none⟩) 1 1 (edC v) rfl (by exact srow_ed _ v _) rfl (one_ed v) (by omega) (by simp <;> omega) ?_; intro A' c' w' ho hg; have HO3 := Lib.hid ho; have HG3 := Lib.hid hg; clear ho hg)
        go_roundw
        case rel => exact ⟨j + 1, n + 1, A', c', by omega, by omega, by go_num, rfl, Lib.hid (by rw [HT.out, List.length_append, ← HN.out]; rfl), Lib.hid (by rw [HT.out, edCs_snoc]; exact HO3.out), Lib.hid ((HB.out.alloc hsz _).grown HG3.out (by simp; omega) (fun g e => (HO.out.lt g e).1))⟩
        case measure => simp [intOf]; omega
    · have HE := Lib.hid (outT_all (k := k) (show x.es.length ≤ j by omega))
      go_wp2
      go_ret
      have hl : (outE x k).length = n := by rw [← HE.out, HN.out]
      refine ⟨A, c, by rw [hl]; rfl, ?_, HB.out⟩
      rw [hl]
      exact ol_ed (by rw [← HE.out]; exact HO.out) hl
end Go.Proofs.YtbailpfjgjcbdaaGreatDoor

namespace Go.Proofs.YtbailpfjgjcbdaaGreatDoor
open Go.RowKit
set_option linter.unusedVariables false
set_option linter.unusedSimpArgs false
set_option maxRecDepth 100000 in
set_option maxHeartbeats 4000000 in
theorem outOf_any (x : Lt) (k : Int) (A1 A2 : Option Addr) (c1 c2 : Nat) (w : World) (S : Nat → Prop) (h2 : LRow edR w S A2 x.es) (hS : ∀ b, S b → b < w.heap.size) (ok : okLt x) :
    Calls Tryz.prog 54 #[ltCells x A1 A2 c1 c2, .int .i64 k] w fun e w' => ∃ A c, e = .returned (.slice A (outE x k).length c) ∧ OL edO 79 w' (In w.heap.size w'.heap.size) A (outE x k).length c (outE x k) ∧ Below w.heap.size w w' := by
  have M := ok.2.1
  have R2 := Lib.hid h2
  have HS := Lib.hid hS
  have HB0 := Lib.hid (fun o : Obj => (Below.refl w.heap.size w).alloc (Nat.le_refl _) o)
  clear h2 hS ok
  go_enter Tryz.func54, Tryz.ntmps54
  go_wp2
  go_loopw [5, 11] (fun v i wr => ∃ (j n : Nat) (A : Option Addr) (c : Nat), j ≤ x.es.length ∧ n ≤ j ∧ i = .int .i64 (j : Int) ∧ v = .slice A n c ∧ Hid (n = (outT x k j).length) ∧ Hid (wr.ownsRow w.heap.size 79 3 (.slice A n c) n (edCs (outT x k j))) ∧ Hid (Below w.heap.size w wr)) (fun _ i _ => x.es.length - (intOf i).toNat)
  case atStart => exact ⟨0, 0, none, 0, Nat.zero_le _, Nat.le_refl _, rfl, rfl, Lib.hid rfl, Lib.hid (World.ownsRow_nil _ _ _ _), Lib.hid (HB0.out _)⟩
  case round =>
    obtain ⟨j, n, A, c, hk, hnj, rfl, rfl, HN, HO, HB⟩ := hrel
    clear HB0
    have hsz := HB.out.size
    by_cases hlt : j < x.es.length
    · obtain ⟨b, o, cs, v, rfl, hb, hR, hv, hc⟩ := (R2.out.keep (SameOn.of_below HB.out HS.out)).at_ (k := j) hlt
      have hR : cs = [Value.int .i64 v.f, Value.int .i64 v.l, Value.int .i64 v.t] := hR
      subst hR
      have f0 : wr.cell? ⟨b, o + j * 3, none⟩ = some (.int .i64 v.f) := hc 0 _ rfl
      have f1 : wr.cell? ⟨b, o + j * 3 + 1, none⟩ = some (.int .i64 v.l) := hc 1 _ rfl
      have f2 : wr.cell? ⟨b, o + j * 3 + 2, none⟩ = some (.int .i64 v.t) := hc 2 _ rfl
      have lb := World.block_lt_of_cell? wr _ f0
      clear hc
      rcases te : (v.f == k) with _ | _
      · have HT := Lib.hid (outT_no hv.out te)
        go_wp2
        go_roundw
        case rel => exact ⟨j + 1, n, A, c, by omega, by omega, by go_num, rfl, Lib.hid (by rw [HT.out]; exact HN.out), Lib.hid (by rw [HT.out]; exact (HO.out).alloc _), Lib.hid (HB.out.alloc hsz _)⟩
        case measure => simp [intOf]; omega
      · have HT := Lib.hid (outT_yes hv.out te)
        have HO2 := Lib.hid (fun o1 o2 : Obj => ((HO.out).alloc o1).alloc o2)
        go_wp2_with (at_builtin; refine wpList_append_vs el_ed rfl _ _ rfl _ w.heap.size (.slice A n c) n (edCs (outT x k j)) rfl (by exact HO2.out _ _) (fun _ => True) (some ⟨wr.heap.size + 1, 0, none⟩) 1 1 (edC v) rfl (by rw [show wr.heap.size + 1 = (wr.alloc (.cells #[.int .i64 v.f, .int .i64 v.l, .int .i64 v.t] 79)).heap.size by simp]; exact srow_ed _ v _) rfl (one_ed v) (by omega) (by simp <;> omega) ?_; intro A' c' w' ho hg; have HO3 := Lib.hid ho; have HG3 := Lib.hid hg; clear ho hg)
        go_roundw
        case rel => exact ⟨j + 1, n + 1, A', c', by omega, by omega, by go_num, rfl, Lib.hid (by rw [HT.out, List.length_append, ← HN.out]; rfl), Lib.hid (by rw [HT.out, edCs_snoc]; exact HO3.out), Lib.hid (((HB.out.alloc hsz _).alloc (by simp; omega) _).grown HG3.out (by simp; omega) (fun g e => (HO.out.lt g e).1))⟩
        case measure => simp [intOf]; omega
    · have HE := Lib.hid (outT_all (k := k) (show x.es.length ≤ j by omega))
      go_wp2
      go_ret
      have hl : (outE x k).length = n := by rw [← HE.out, HN.out]
      refine ⟨A, c, by rw [hl]; rfl, ?_, HB.out⟩
      rw [hl]
      exact ol_ed (by rw [← HE.out]; exact HO.out) hl
end Go.Proofs.YtbailpfjgjcbdaaGreatDoor
