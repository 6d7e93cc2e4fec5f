/- The edges out of a state: the model. -/
/- The edges out of a state: the program. -/
import Derived.Test.YthbnfjedjijacaaGreatDoorLtO
import Derived.Test.YthbnfjedjijacaaGreatDoorRea
import Derived.Test.YthbnfjedjijacaaGreatDoorLtV
namespace Go.Proofs.YthbnfjedjijacaaGreatDoor
open Go.RowKit
set_option linter.unusedVariables false
set_option linter.unusedSimpArgs false
theorem el_ed : ElOK 28 66 3 := el_ok Tryz.underlying28 (show _ = some (some (.agg #[.int .i64 0, .int .i64 0, .int .i64 0]), 3, 24) by kernel_rfl) (by decide) rfl (by decide)
theorem srow_ed (w : World) (e : Ed) (T : TypeId) : SRow (w.alloc (.cells #[.int .i64 e.f, .int .i64 e.l, .int .i64 e.t] T)) (fun _ => True) (some ⟨w.heap.size, 0, none⟩) (edC e) := by
  intro _
  refine ⟨w.heap.size, 0, rfl, trivial, fun j u hj => ?_⟩
  match j, hj with
  | 0, hj => injection hj with hj; subst hj; simp [go_sem]
  | 1, hj => injection hj with hj; subst hj; simp [go_sem]
  | 2, hj => injection hj with hj; subst hj; simp [go_sem]
theorem one_ed (e : Ed) : ∀ u ∈ edC e, u.oneCell' = true := by
  intro u hu
  simp only [edC, List.mem_cons, List.not_mem_nil, or_false] at hu
  rcases hu with rfl | rfl | rfl <;> rfl
set_option maxRecDepth 100000 in
theorem l11State_any (p : Nat) (st k : Int) (w : World) (m : -9223372036854775808 ≤ st - 1 ∧ st - 1 ≤ 9223372036854775807) (y0 : w.cell? ⟨p, 0, none⟩ = some (.int .i64 st)) :
    Calls Tryz.prog 46 #[.pointer (some ⟨p, 0, none⟩), .int .i64 k] w fun e w' => e = .returned (.bool (idxI k st)) ∧ w = w' := by
  have hw : IntKind.i64.wrap (st - 1) = st - 1 := by rw [IntKind.wrap_i64]; omega
  have CI := Lib.hid (fun W : World => (show Calls Tryz.prog 65 #[.int .i64 k, .int .i64 0, .int .i64 (st - 1)] W (fun e w' => e = .returned (.bool (idxI k st)) ∧ W = w') by have h := l00In_any k 0 (st - 1) W; rw [inR_idx] at h; exact h))
  clear m
  go_enter Tryz.func46, Tryz.ntmps46
  go_wp2_with (go_at_call 65; refine (CI.out _).mono ?_; rintro e w2 ⟨rfl, rfl⟩)
  go_ret
  exact ⟨rfl, rfl⟩
set_option maxRecDepth 100000 in
set_option maxHeartbeats 4000000 in
theorem l11Out_any (x : Lt) (p : Nat) (k : Int) (A2 : Option Addr) (c2 : Nat) (w : World) (S : Nat → Prop) (y3 : w.cell? ⟨p, 3, none⟩ = some (.slice A2 x.es.length c2)) (h2 : LRow edR w S A2 x.es) (hS : ∀ b, S b → b < w.heap.size) (ok : okLt x) :
    Calls Tryz.prog 47 #[.pointer (some ⟨p, 0, none⟩), .int .i64 k] w fun e w' => ∃ A c, e = .returned (.slice A (outE x k).length c) ∧ OL edO 66 w' (In w.heap.size w'.heap.size) A (outE x k).length c (outE x k) ∧ Below w.heap.size w w' := by
  have hp := World.block_lt_of_cell? w _ y3
  have M := ok.2.1
  have Y := Lib.hid (fun (W : World) (hW : Below w.heap.size w W) => (⟨(hW.cell (p := ⟨p, 3, none⟩) hp).trans y3, Nat.lt_of_lt_of_le hp hW.size⟩ : W.cell? ⟨p, 3, none⟩ = some (.slice A2 x.es.length c2) ∧ p < W.heap.size))
  have R2 := Lib.hid h2
  have HS := Lib.hid hS
  have H0 := Lib.hid (World.ownsRow_made w #[] 0 (e := 66) (size := 3) (base := w.heap.size) (Nat.le_refl _) (Nat.zero_le _) rfl)
  have HB0 := Lib.hid ((Below.refl w.heap.size w).alloc (Nat.le_refl _) (.cells #[] 66))
  clear y3 h2 hS ok
  go_enter Tryz.func47, Tryz.ntmps47
  go_wp2
  go_loopw [5, 6] (fun v i wr => ∃ (j n : Nat) (A : Option Addr) (c : Nat), j ≤ x.es.length ∧ n ≤ j ∧ i = .int .i64 (j : Int) ∧ v = .slice A n c ∧ Hid (n = (outT x k j).length) ∧ Hid (wr.ownsRow w.heap.size 66 3 (.slice A n c) n (edCs (outT x k j))) ∧ Hid (Below w.heap.size w wr)) (fun _ i _ => x.es.length - (intOf i).toNat)
  case atStart => exact ⟨0, 0, _, _, Nat.zero_le _, Nat.le_refl _, rfl, rfl, Lib.hid rfl, Lib.hid H0.out, HB0⟩
  case round =>
    obtain ⟨j, n, A, c, hk, hnj, rfl, rfl, HN, HO, HB⟩ := hrel
    clear H0 HB0
    have hsz := HB.out.size
    obtain ⟨z3, hpr⟩ := Y.out _ HB.out
    by_cases hlt : j < x.es.length
    · obtain ⟨b, o, cs, v, rfl, hb, hR, hv, hc⟩ := (R2.out.keep (SameOn.of_below HB.out HS.out)).at_ (k := j) hlt
      have hR : cs = [Value.int .i64 v.f, Value.int .i64 v.l, Value.int .i64 v.t] := hR
      subst hR
      have f0 : wr.cell? ⟨b, o + j * 3, none⟩ = some (.int .i64 v.f) := hc 0 _ rfl
      have f1 : wr.cell? ⟨b, o + j * 3 + 1, none⟩ = some (.int .i64 v.l) := hc 1 _ rfl
      have f2 : wr.cell? ⟨b, o + j * 3 + 2, none⟩ = some (.int .i64 v.t) := hc 2 _ rfl
      have lb := World.block_lt_of_cell? wr _ f0
      clear hc
      rcases te : (v.f == k) with _ | _
      · have HT := Lib.hid (outT_no hv.out te)
        go_wp2
        go_roundw
        case rel => exact ⟨j + 1, n, A, c, by omega, by omega, by go_num, rfl, Lib.hid (by rw [HT.out]; exact HN.out), Lib.hid (by rw [HT.out]; exact HO.out), HB⟩
        case measure => simp [intOf]; omega
      · have HT := Lib.hid (outT_yes hv.out te)
        have HO2 := Lib.hid (fun ob : Obj => HO.out.alloc ob)
        go_wp2_with (at_builtin; refine wpList_append_vs el_ed rfl _ _ rfl _ w.heap.size (.slice A n c) n (edCs (outT x k j)) rfl (by exact HO2.out _) (fun _ => True) (some ⟨wr.heap.size, 0, none⟩) 1 1 (edC v) rfl (by exact srow_ed _ v _) rfl (one_ed v) (by omega) (by simp <;> omega) ?_; intro A' c' w' ho hg; have HO3 := Lib.hid ho; have HG3 := Lib.hid hg; clear ho hg)
        go_roundw
        case rel => exact ⟨j + 1, n + 1, A', c', by omega, by omega, by go_num, rfl, Lib.hid (by rw [HT.out, List.length_append, ← HN.out]; rfl), Lib.hid (by rw [HT.out, edCs_snoc]; exact HO3.out), Lib.hid ((HB.out.alloc hsz _).grown HG3.out (by simp; omega) (fun g e => (HO.out.lt g e).1))⟩
        case measure => simp [intOf]; omega
    · have HE := Lib.hid (outT_all (k := k) (show x.es.length ≤ j by omega))
      go_wp2
      go_ret
      have hl : (outE x k).length = n := by rw [← HE.out, HN.out]
      refine ⟨A, c, by rw [hl]; rfl, ?_, HB.out⟩
      rw [hl]
      exact ol_ed (by rw [← HE.out]; exact HO.out) hl
set_option maxRecDepth 100000 in
set_option maxHeartbeats 2000000 in
theorem specOut_any {x : Lt} {cs : List Value} {k : Int} {w : World} {S : Nat → Prop} (h : ltR.R w S x cs) (hS : ∀ b, S b → b < w.heap.size) (ok : okLt x) :
    Calls Tryz.prog 14 #[.agg cs.toArray, .int .i64 k] w fun e w' => ∃ A c, e = .returned (.tuple #[.slice A (outR x k).length c, .int .i64 (stC x k)]) ∧ OL edO 66 w' (In w.heap.size w'.heap.size) A (outR x k).length c (outR x k) ∧ Below w.heap.size w w' := by
  obtain ⟨A1, c1, A2, c2, rfl, ⟨m1, m3, r1⟩, ⟨m2, m4, r2⟩⟩ := h
  have HB := Lib.hid (fun o : Obj => (Below.refl w.heap.size w).alloc (Nat.le_refl _) o)
  have C := Lib.hid (fun (W : World) (hW : Below w.heap.size w W) (q : Nat) (y0 : W.cell? ⟨q, 0, none⟩ = some (.int .i64 x.st)) (y1 : W.cell? ⟨q, 1, none⟩ = some (.int .i64 x.ini)) (y2 : W.cell? ⟨q, 2, none⟩ = some (.slice A1 x.ls.length c1)) (y3 : W.cell? ⟨q, 3, none⟩ = some (.slice A2 x.es.length c2)) => l11Is_any x q A1 A2 c1 c2 W S y0 y1 y2 y3 (r1.keep (SameOn.of_below hW hS)) (r2.keep (SameOn.of_below hW hS)) (fun b hb => Nat.lt_of_lt_of_le (hS b hb) hW.size) ok)
  have CO := Lib.hid (fun (W : World) (hW : Below w.heap.size w W) (q : Nat) (y3 : W.cell? ⟨q, 3, none⟩ = some (.slice A2 x.es.length c2)) => l11Out_any x q k A2 c2 W S y3 (r2.keep (SameOn.of_below hW hS)) (fun b hb => Nat.lt_of_lt_of_le (hS b hb) hW.size) ok)
  clear r1 r2 hS ok
  go_enter Tryz.func14, Tryz.ntmps14
  go_wp2_with fail
  refine (C.out _ (HB.out _) w.heap.size (by simp [go_sem]) (by simp [go_sem]) (by simp [go_sem]) (by simp [go_sem])).mono ?_
  rintro e w2 ⟨rfl, hb2⟩
  obtain ⟨hcc, _⟩ := bcell hb2
  have HB2 := Lib.hid ((HB.out _).trans (hb2.mono (HB.out _).size))
  have y0 : w2.cell? ⟨w.heap.size, 0, none⟩ = some (.int .i64 x.st) := (hcc _ _ (by simp)).trans (by simp [go_sem])
  have y3 : w2.cell? ⟨w.heap.size, 3, none⟩ = some (.slice A2 x.es.length c2) := (hcc _ _ (by simp)).trans (by simp [go_sem])
  clear hb2 hcc
  rcases tv : ltB x with _ | _
  · have HF := Lib.hid (stC_inv (k := k) tv)
    have HG := Lib.hid (outR_no (x := x) (k := k) (by rw [HF.out]; decide))
    clear tv
    go_wp2
    go_ret2
    exact ⟨none, 0, by rw [HF.out, HG.out]; rfl, by rw [HG.out]; exact OL.nil, HB2.out⟩
  · have TV := Lib.hid tv
    have hst := (ltB_parts tv).1
    have CS := Lib.hid (l11State_any w.heap.size x.st k w2 (by omega) y0)
    clear tv
    rcases tk : idxI k x.st with _ | _
    · have HF := Lib.hid (stC_rng TV.out tk)
      have HG := Lib.hid (outR_no (x := x) (k := k) (by rw [HF.out]; decide))
      rw [tk] at CS
      clear tk
      go_wp2_with (go_at_call 46; refine (CS.out).mono ?_; rintro e w3 ⟨rfl, rfl⟩)
      go_ret2
      exact ⟨none, 0, by rw [HF.out, HG.out]; rfl, by rw [HG.out]; exact OL.nil, HB2.out⟩
    · have HF := Lib.hid (stC_ok TV.out tk)
      have HG := Lib.hid (outR_ok HF.out)
      have HS3 := Lib.hid HB2.out.size
      rw [tk] at CS
      have C3 := Lib.hid (CO.out _ HB2.out w.heap.size y3)
      clear tk y0 y3
      go_wp2_with (first
        | (go_at_call 46; refine (CS.out).mono ?_; rintro e w3 ⟨rfl, rfl⟩)
        | (go_at_call 47; refine (C3.out).mono ?_; rintro e w4 ⟨A, c, rfl, hO, hb4⟩; have HB4 := Lib.hid (HB2.out.trans (hb4.mono HB2.out.size)); have HO := Lib.hid (hO.more (S' := In w.heap.size w4.heap.size) (fun b hb => ⟨Nat.le_trans HS3.out hb.1, hb.2⟩)); clear hb4 hO))
      go_ret2
      exact ⟨A, c, by (rw [HG.out, HF.out]; rfl), by rw [HG.out]; exact HO.out, HB4.out⟩
end Go.Proofs.YthbnfjedjijacaaGreatDoor

namespace Go.Proofs.YthbnfjedjijacaaGreatDoor
open Go.RowKit
set_option linter.unusedVariables false
set_option linter.unusedSimpArgs false
set_option maxRecDepth 100000 in
set_option maxHeartbeats 4000000 in
theorem outOf_any (x : Lt) (k : Int) (A1 A2 : Option Addr) (c1 c2 : Nat) (w : World) (S : Nat → Prop) (h2 : LRow edR w S A2 x.es) (hS : ∀ b, S b → b < w.heap.size) (ok : okLt x) :
    Calls Tryz.prog 49 #[ltCells x A1 A2 c1 c2, .int .i64 k] w fun e w' => ∃ A c, e = .returned (.slice A (outE x k).length c) ∧ OL edO 66 w' (In w.heap.size w'.heap.size) A (outE x k).length c (outE x k) ∧ Below w.heap.size w w' := by
  have M := ok.2.1
  have R2 := Lib.hid h2
  have HS := Lib.hid hS
  have HB0 := Lib.hid (fun o : Obj => (Below.refl w.heap.size w).alloc (Nat.le_refl _) o)
  clear h2 hS ok
  go_enter Tryz.func49, Tryz.ntmps49
  go_wp2
  go_loopw [5, 11] (fun v i wr => ∃ (j n : Nat) (A : Option Addr) (c : Nat), j ≤ x.es.length ∧ n ≤ j ∧ i = .int .i64 (j : Int) ∧ v = .slice A n c ∧ Hid (n = (outT x k j).length) ∧ Hid (wr.ownsRow w.heap.size 66 3 (.slice A n c) n (edCs (outT x k j))) ∧ Hid (Below w.heap.size w wr)) (fun _ i _ => x.es.length - (intOf i).toNat)
  case atStart => exact ⟨0, 0, none, 0, Nat.zero_le _, Nat.le_refl _, rfl, rfl, Lib.hid rfl, Lib.hid (World.ownsRow_nil _ _ _ _), Lib.hid (HB0.out _)⟩
  case round =>
    obtain ⟨j, n, A, c, hk, hnj, rfl, rfl, HN, HO, HB⟩ := hrel
    clear HB0
    have hsz := HB.out.size
    by_cases hlt : j < x.es.length
    · obtain ⟨b, o, cs, v, rfl, hb, hR, hv, hc⟩ := (R2.out.keep (SameOn.of_below HB.out HS.out)).at_ (k := j) hlt
      have hR : cs = [Value.int .i64 v.f, Value.int .i64 v.l, Value.int .i64 v.t] := hR
      subst hR
      have f0 : wr.cell? ⟨b, o + j * 3, none⟩ = some (.int .i64 v.f) := hc 0 _ rfl
      have f1 : wr.cell? ⟨b, o + j * 3 + 1, none⟩ = some (.int .i64 v.l) := hc 1 _ rfl
      have f2 : wr.cell? ⟨b, o + j * 3 + 2, none⟩ = some (.int .i64 v.t) := hc 2 _ rfl
      have lb := World.block_lt_of_cell? wr _ f0
      clear hc
      rcases te : (v.f == k) with _ | _
      · have HT := Lib.hid (outT_no hv.out te)
        go_wp2
        go_roundw
        case rel => exact ⟨j + 1, n, A, c, by omega, by omega, by go_num, rfl, Lib.hid (by rw [HT.out]; exact HN.out), Lib.hid (by rw [HT.out]; exact (HO.out).alloc _), Lib.hid (HB.out.alloc hsz _)⟩
        case measure => simp [intOf]; omega
      · have HT := Lib.hid (outT_yes hv.out te)
        have HO2 := Lib.hid (fun o1 o2 : Obj => ((HO.out).alloc o1).alloc o2)
        go_wp2_with (at_builtin; refine wpList_append_vs el_ed rfl _ _ rfl _ w.heap.size (.slice A n c) n (edCs (outT x k j)) rfl (by exact HO2.out _ _) (fun _ => True) (some ⟨wr.heap.size + 1, 0, none⟩) 1 1 (edC v) rfl (by rw [show wr.heap.size + 1 = (wr.alloc (.cells #[.int .i64 v.f, .int .i64 v.l, .int .i64 v.t] 66)).heap.size by simp]; exact srow_ed _ v _) rfl (one_ed v) (by omega) (by simp <;> omega) ?_; intro A' c' w' ho hg; have HO3 := Lib.hid ho; have HG3 := Lib.hid hg; clear ho hg)
        go_roundw
        case rel => exact ⟨j + 1, n + 1, A', c', by omega, by omega, by go_num, rfl, Lib.hid (by rw [HT.out, List.length_append, ← HN.out]; rfl), Lib.hid (by rw [HT.out, edCs_snoc]; exact HO3.out), Lib.hid (((HB.out.alloc hsz _).alloc (by simp; omega) _).grown HG3.out (by simp; omega) (fun g e => (HO.out.lt g e).1))⟩
        case measure => simp [intOf]; omega
    · have HE := Lib.hid (outT_all (k := k) (show x.es.length ≤ j by omega))
      go_wp2
      go_ret
      have hl : (outE x k).length = n := by rw [← HE.out, HN.out]
      refine ⟨A, c, by rw [hl]; rfl, ?_, HB.out⟩
      rw [hl]
      exact ol_ed (by rw [← HE.out]; exact HO.out) hl
set_option maxRecDepth 100000 in
set_option maxHeartbeats 2000000 in
theorem stateFault_any (x : Lt) (k : Int) (A1 A2 : Option Addr) (c1 c2 : Nat) (w : World) (S : Nat → Prop) (h1 : LRow txtR w S A1 x.ls) (h2 : LRow edR w S A2 x.es) (hS : ∀ b, S b → b < w.heap.size) (ok : okLt x) (ht : TxtTabs w) :
    Calls Tryz.prog 48 #[ltCells x A1 A2 c1 c2, .int .i64 k] w fun e w' => e = .returned (.int .i64 (stC x k)) ∧ Below w.heap.size w w' := by
  have HB := Lib.hid (fun o : Obj => (Below.refl w.heap.size w).alloc (Nat.le_refl _) o)
  have CV := Lib.hid (fun (W : World) (hW : Below w.heap.size w W) => implValidC_any x A1 A2 c1 c2 W S (h1.keep (SameOn.of_below hW hS)) (h2.keep (SameOn.of_below hW hS)) (fun b hb => Nat.lt_of_lt_of_le (hS b hb) hW.size) ok (ht.below hW))
  have CH := Lib.hid (fun (W : World) => hasState_any x.st x.ini k A1 A2 x.ls.length c1 x.es.length c2 W)
  clear h1 h2 hS ok ht
  go_enter Tryz.func48, Tryz.ntmps48
  go_wp2_with fail
  refine (CV.out _ (HB.out _)).mono ?_
  rintro e w2 ⟨rfl, hb2⟩
  have hs2 := hb2.size
  simp at hs2
  obtain ⟨hcc, _⟩ := bcell hb2
  have HB2 := Lib.hid ((HB.out _).trans (hb2.mono (HB.out _).size))
  have y0 : w2.cell? ⟨w.heap.size, 0, none⟩ = some (.int .i64 x.st) := (hcc _ _ (by simp)).trans (by simp [go_sem])
  have y1 : w2.cell? ⟨w.heap.size, 1, none⟩ = some (.int .i64 x.ini) := (hcc _ _ (by simp)).trans (by simp [go_sem])
  have y2 : w2.cell? ⟨w.heap.size, 2, none⟩ = some (.slice A1 x.ls.length c1) := (hcc _ _ (by simp)).trans (by simp [go_sem])
  have y3 : w2.cell? ⟨w.heap.size, 3, none⟩ = some (.slice A2 x.es.length c2) := (hcc _ _ (by simp)).trans (by simp [go_sem])
  have hpb : w.heap.size < w2.heap.size := by omega
  clear hb2 hcc hs2
  rcases tv : ltB x with _ | _
  · have HF := Lib.hid (stC_inv (k := k) tv)
    clear tv
    go_wp2
    go_ret
    exact ⟨by rw [HF.out]; rfl, HB2.out⟩
  · have TV := Lib.hid tv
    clear tv
    rcases tk : idxI k x.st with _ | _
    · have HF := Lib.hid (stC_rng TV.out tk)
      rw [tk] at CH
      clear tk
      go_wp2_with (go_at_call 70; refine (CH.out _).mono ?_; rintro e w3 ⟨rfl, hb3⟩; have HB3 := Lib.hid (HB2.out.trans (hb3.mono HB2.out.size)); clear hb3)
      go_ret
      exact ⟨by rw [HF.out]; rfl, HB3.out⟩
    · have HF := Lib.hid (stC_ok TV.out tk)
      rw [tk] at CH
      clear tk
      go_wp2_with (go_at_call 70; refine (CH.out _).mono ?_; rintro e w3 ⟨rfl, hb3⟩; have HB3 := Lib.hid (HB2.out.trans (hb3.mono HB2.out.size)); clear hb3)
      go_ret
      exact ⟨by rw [HF.out]; rfl, HB3.out⟩
set_option maxRecDepth 100000 in
set_option maxHeartbeats 2000000 in
theorem implOut_any {x : Lt} {cs : List Value} {k : Int} {w : World} {S : Nat → Prop} (h : ltR.R w S x cs) (hS : ∀ b, S b → b < w.heap.size) (ok : okLt x) (ht : TxtTabs w) :
    Calls Tryz.prog 15 #[.agg cs.toArray, .int .i64 k] w fun e w' => ∃ A c, e = .returned (.tuple #[.slice A (outR x k).length c, .int .i64 (stC x k)]) ∧ OL edO 66 w' (In w.heap.size w'.heap.size) A (outR x k).length c (outR x k) ∧ Below w.heap.size w w' := by
  obtain ⟨A1, c1, A2, c2, rfl, ⟨m1, m3, r1⟩, ⟨m2, m4, r2⟩⟩ := h
  have HB := Lib.hid (fun o : Obj => (Below.refl w.heap.size w).alloc (Nat.le_refl _) o)
  have CF := Lib.hid (fun (W : World) (hW : Below w.heap.size w W) => stateFault_any x k A1 A2 c1 c2 W S (r1.keep (SameOn.of_below hW hS)) (r2.keep (SameOn.of_below hW hS)) (fun b hb => Nat.lt_of_lt_of_le (hS b hb) hW.size) ok (ht.below hW))
  have CO := Lib.hid (fun (W : World) (hW : Below w.heap.size w W) => outOf_any x k A1 A2 c1 c2 W S (r2.keep (SameOn.of_below hW hS)) (fun b hb => Nat.lt_of_lt_of_le (hS b hb) hW.size) ok)
  clear r1 r2 hS ok ht
  go_enter Tryz.func15, Tryz.ntmps15
  go_wp2_with fail
  refine (CF.out _ (HB.out _)).mono ?_
  rintro e w2 ⟨rfl, hb2⟩
  have hs2 := hb2.size
  simp at hs2
  obtain ⟨hcc, _⟩ := bcell hb2
  have HB2 := Lib.hid ((HB.out _).trans (hb2.mono (HB.out _).size))
  have y0 : w2.cell? ⟨w.heap.size, 0, none⟩ = some (.int .i64 x.st) := (hcc _ _ (by simp)).trans (by simp [go_sem])
  have y1 : w2.cell? ⟨w.heap.size, 1, none⟩ = some (.int .i64 x.ini) := (hcc _ _ (by simp)).trans (by simp [go_sem])
  have y2 : w2.cell? ⟨w.heap.size, 2, none⟩ = some (.slice A1 x.ls.length c1) := (hcc _ _ (by simp)).trans (by simp [go_sem])
  have y3 : w2.cell? ⟨w.heap.size, 3, none⟩ = some (.slice A2 x.es.length c2) := (hcc _ _ (by simp)).trans (by simp [go_sem])
  have hpb : w.heap.size < w2.heap.size := by omega
  clear hb2 hcc hs2
  by_cases hc : stC x k = 0
  · have hne : (stC x k != 0) = false := by simp [hc]
    have HC := Lib.hid hc
    have HG := Lib.hid (outR_ok hc)
    have C3 := Lib.hid (CO.out w2 HB2.out)
    have HS3 := Lib.hid HB2.out.size
    clear hc
    go_wp2_with (go_at_call 49; refine (C3.out).mono ?_; rintro e w4 ⟨A, c, rfl, hO, hb4⟩; have HB4 := Lib.hid (HB2.out.trans (hb4.mono HB2.out.size)); have HO := Lib.hid (hO.more (S' := In w.heap.size w4.heap.size) (fun b hb => ⟨Nat.le_trans HS3.out hb.1, hb.2⟩)); clear hb4 hO)
    go_ret2
    exact ⟨_, _, by (rw [HG.out, HC.out]; rfl), by rw [HG.out]; exact HO.out, HB4.out⟩
  · have hne : (stC x k != 0) = true := by simp [hc]
    have HG := Lib.hid (outR_no hc)
    clear hc
    go_wp2
    go_ret2
    exact ⟨none, 0, by rw [HG.out]; rfl, by rw [HG.out]; exact OL.nil, HB2.out⟩
end Go.Proofs.YthbnfjedjijacaaGreatDoor
