/- Successors by a label: the model. -/
import Derived.Test.YthbnfjedjijacaaGreatDoorOu
import Derived.Test.YthbnfjedjijacaaGreatDoorRea
import Derived.Test.YthbnfjedjijacaaGreatDoorSuM
namespace Go.Proofs.YthbnfjedjijacaaGreatDoor
open Go.RowKit
set_option linter.unusedVariables false
set_option linter.unusedSimpArgs false
set_option maxRecDepth 100000 in
set_option maxHeartbeats 4000000 in
theorem l11Find_any (A : Option Addr) (n c : Nat) (ls : List ByteArray) (u : ByteArray) (w : World) (S : Nat → Prop) (h : LRow txtR w S A ls) (l : ls.length = n) (m : n ≤ 1048576) (hS : ∀ b, S b → b < w.heap.size) :
    Calls Tryz.prog 52 #[.slice A n c, .string u] w fun e w' => e = .returned (.int .i64 (fndI ls u)) ∧ Below w.heap.size w w' := by
  have HR := Lib.hid h
  have HS := Lib.hid hS
  have L := Lib.hid l
  clear h hS l
  go_enter Tryz.func52, Tryz.ntmps52
  go_wp2
  go_loopw [5] (fun i wr => ∃ j : Nat, j ≤ n ∧ i = .int .i64 (j : Int) ∧ Hid (Below w.heap.size w wr) ∧ Hid ((ls.take j).all (fun s => !(eqB s u)) = true)) (fun i _ => n - (intOf i).toNat)
  case atStart => exact ⟨0, Nat.zero_le _, rfl, Lib.hid (Below.refl _ _), Lib.hid rfl⟩
  case round =>
    obtain ⟨j, hj, rfl, HB, HE⟩ := hrel
    by_cases hlt : j < n
    · obtain ⟨b, o, cs, s, rfl, hb, hR, hs, hc⟩ := (HR.out.keep (SameOn.of_below HB.out HS.out)).at_ (k := j) (by rw [L.out]; exact hlt)
      obtain ⟨rfl, _⟩ := hR
      have f0 : wr.cell? ⟨b, o + j, none⟩ = some (.string s) := by have h := hc 0 _ rfl; simpa [txtR] using h
      have lb := World.block_lt_of_cell? wr _ f0
      clear hc
      rcases te : eqB s u with _ | _
      · have HN := Lib.hid (all_take_next (p := fun s => !(eqB s u)) HE.out hs.out (by rw [te]; rfl))
        have hq : (s.toList == u.toList) = false := te
        clear te
        go_wp2
        go_roundw
        case rel => exact ⟨j + 1, by omega, by go_num, HB, HN⟩
        case measure => simp [intOf]; omega
      · have HF := Lib.hid (show fndI ls u = (j : Int) by rw [fndI_yes (hasU_hit hs.out te), fndN_hit HE.out hs.out te])
        have hq : (s.toList == u.toList) = true := te
        clear te
        go_wp2
        go_ret
        exact ⟨by rw [HF.out]; rfl, HB.out⟩
    · have HF := Lib.hid (show fndI ls u = -1 from fndI_no (hasU_none (by
        have ht := HE.out
        rwa [List.take_of_length_le (by rw [L.out]; omega)] at ht)))
      go_wp2
      go_ret
      exact ⟨by rw [HF.out]; rfl, HB.out⟩
set_option maxRecDepth 100000 in
set_option maxHeartbeats 4000000 in
theorem l11Next_any (x : Lt) (p : Nat) (k : Int) (t : Nat) (A2 : Option Addr) (c2 : Nat) (w : World) (S : Nat → Prop) (y3 : w.cell? ⟨p, 3, none⟩ = some (.slice A2 x.es.length c2)) (h2 : LRow edR w S A2 x.es) (hS : ∀ b, S b → b < w.heap.size) (ok : okLt x) :
    Calls Tryz.prog 53 #[.pointer (some ⟨p, 0, none⟩), .int .i64 k, .int .i64 (t : Int)] w fun e w' => ∃ A c, e = .returned (.slice A (sucE x k t).length c) ∧ OL intO 2 w' (In w.heap.size w'.heap.size) A (sucE x k t).length c (sucE x k t) ∧ Below w.heap.size w w' := by
  have hp := World.block_lt_of_cell? w _ y3
  have M := ok.2.1
  have Y := Lib.hid (fun (W : World) (hW : Below w.heap.size w W) => (⟨(hW.cell (p := ⟨p, 3, none⟩) hp).trans y3, Nat.lt_of_lt_of_le hp hW.size⟩ : W.cell? ⟨p, 3, none⟩ = some (.slice A2 x.es.length c2) ∧ p < W.heap.size))
  have R2 := Lib.hid h2
  have HS := Lib.hid hS
  have H0 := Lib.hid (World.ownsRow_made w #[] 0 (e := 2) (size := 1) (base := w.heap.size) (Nat.le_refl _) (Nat.zero_le _) rfl)
  have HB0 := Lib.hid ((Below.refl w.heap.size w).alloc (Nat.le_refl _) (.cells #[] 2))
  clear y3 h2 hS ok
  go_enter Tryz.func53, Tryz.ntmps53
  go_wp2
  go_loopw [7, 8] (fun v i wr => ∃ (j n : Nat) (A : Option Addr) (c : Nat), j ≤ x.es.length ∧ n ≤ j ∧ i = .int .i64 (j : Int) ∧ v = .slice A n c ∧ Hid (n = (sucT x k t j).length) ∧ Hid (wr.ownsRow w.heap.size 2 1 (.slice A n c) n ((sucT x k t j).map (Value.int .i64))) ∧ Hid (Below w.heap.size w wr)) (fun _ i _ => x.es.length - (intOf i).toNat)
  case atStart => exact ⟨0, 0, _, _, Nat.zero_le _, Nat.le_refl _, rfl, rfl, Lib.hid rfl, Lib.hid H0.out, HB0⟩
  case round =>
    obtain ⟨j, n, A, c, hk, hnj, rfl, rfl, HN, HO, HB⟩ := hrel
    clear H0 HB0
    have hsz := HB.out.size
    obtain ⟨z3, hpr⟩ := Y.out _ HB.out
    by_cases hlt : j < x.es.length
    · obtain ⟨b, o, cs, v, rfl, hb, hR, hv, hc⟩ := (R2.out.keep (SameOn.of_below HB.out HS.out)).at_ (k := j) hlt
      have hR : cs = [Value.int .i64 v.f, Value.int .i64 v.l, Value.int .i64 v.t] := hR
      subst hR
      have f0 : wr.cell? ⟨b, o + j * 3, none⟩ = some (.int .i64 v.f) := hc 0 _ rfl
      have f1 : wr.cell? ⟨b, o + j * 3 + 1, none⟩ = some (.int .i64 v.l) := hc 1 _ rfl
      have f2 : wr.cell? ⟨b, o + j * 3 + 2, none⟩ = some (.int .i64 v.t) := hc 2 _ rfl
      have lb := World.block_lt_of_cell? wr _ f0
      clear hc
      rcases te : (v.f == k) with _ | _
      · have HT := Lib.hid (sucT_no hv.out (show sucP k t v = false by unfold sucP; rw [te]; rfl))
        go_wp2
        go_roundw
        case rel => exact ⟨j + 1, n, A, c, by omega, by omega, by go_num, rfl, Lib.hid (by rw [HT.out]; exact HN.out), Lib.hid (by rw [HT.out]; exact HO.out), HB⟩
        case measure => simp [intOf]; omega
      · rcases tl : (v.l == (t : Int)) with _ | _
        · have HT := Lib.hid (sucT_no hv.out (show sucP k t v = false by unfold sucP; rw [te, tl]; rfl))
          go_wp2
          go_roundw
          case rel => exact ⟨j + 1, n, A, c, by omega, by omega, by go_num, rfl, Lib.hid (by rw [HT.out]; exact HN.out), Lib.hid (by rw [HT.out]; exact HO.out), HB⟩
          case measure => simp [intOf]; omega
        · have HT := Lib.hid (sucT_yes hv.out (show sucP k t v = true by unfold sucP; rw [te, tl]; rfl))
          have HO2 := Lib.hid (fun ob : Obj => HO.out.alloc ob)
          go_wp2_with (at_builtin; refine wpList_append_vs el_int rfl _ _ rfl _ w.heap.size (.slice A n c) n ((sucT x k t j).map (Value.int .i64)) rfl (by exact HO2.out _) (fun _ => True) (some ⟨wr.heap.size, 0, none⟩) 1 1 [.int .i64 v.t] rfl (by exact srow_int _ v.t _) rfl (by intro u hu; simp at hu; subst hu; rfl) (by omega) (by simp <;> omega) ?_; intro A' c' w' ho hg; have HO3 := Lib.hid ho; have HG3 := Lib.hid hg; clear ho hg)
          go_roundw
          case rel => exact ⟨j + 1, n + 1, A', c', by omega, by omega, by go_num, rfl, Lib.hid (by rw [HT.out, List.length_append, ← HN.out]; rfl), Lib.hid (by rw [HT.out, List.map_append]; exact HO3.out), Lib.hid ((HB.out.alloc hsz _).grown HG3.out (by simp; omega) (fun g e => (HO.out.lt g e).1))⟩
          case measure => simp [intOf]; omega
    · have HE := Lib.hid (sucT_all (k := k) (n := (t : Int)) (show x.es.length ≤ j by omega))
      go_wp2
      go_ret
      have hl : (sucE x k t).length = n := by rw [← HE.out, HN.out]
      refine ⟨A, c, by rw [hl]; rfl, ?_, HB.out⟩
      rw [hl]
      exact ol_int (by rw [← HE.out]; exact HO.out) hl
set_option maxRecDepth 100000 in
set_option maxHeartbeats 2000000 in
theorem specSuc_any {x : Lt} {cs : List Value} {k : Int} {u : ByteArray} {w : World} {S : Nat → Prop} (h : ltR.R w S x cs) (hS : ∀ b, S b → b < w.heap.size) (ok : okLt x) :
    Calls Tryz.prog 20 #[.agg cs.toArray, .int .i64 k, .string u] w fun e w' => ∃ A c, e = .returned (.tuple #[.slice A (sucR x k u).length c, .int .i64 (sucC x k u)]) ∧ OL intO 2 w' (In w.heap.size w'.heap.size) A (sucR x k u).length c (sucR x k u) ∧ Below w.heap.size w w' := by
  obtain ⟨A1, c1, A2, c2, rfl, ⟨m1, m3, r1⟩, ⟨m2, m4, r2⟩⟩ := h
  have HB := Lib.hid (fun o : Obj => (Below.refl w.heap.size w).alloc (Nat.le_refl _) o)
  have C := Lib.hid (fun (W : World) (hW : Below w.heap.size w W) (q : Nat) (y0 : W.cell? ⟨q, 0, none⟩ = some (.int .i64 x.st)) (y1 : W.cell? ⟨q, 1, none⟩ = some (.int .i64 x.ini)) (y2 : W.cell? ⟨q, 2, none⟩ = some (.slice A1 x.ls.length c1)) (y3 : W.cell? ⟨q, 3, none⟩ = some (.slice A2 x.es.length c2)) => l11Is_any x q A1 A2 c1 c2 W S y0 y1 y2 y3 (r1.keep (SameOn.of_below hW hS)) (r2.keep (SameOn.of_below hW hS)) (fun b hb => Nat.lt_of_lt_of_le (hS b hb) hW.size) ok)
  have CF := Lib.hid (fun (W : World) (hW : Below w.heap.size w W) => l11Find_any A1 _ c1 x.ls u W S (r1.keep (SameOn.of_below hW hS)) rfl ok.1.1 (fun b hb => Nat.lt_of_lt_of_le (hS b hb) hW.size))
  have CO := Lib.hid (fun (W : World) (hW : Below w.heap.size w W) (q : Nat) (y3 : W.cell? ⟨q, 3, none⟩ = some (.slice A2 x.es.length c2)) => l11Next_any x q k (fndN x.ls u) A2 c2 W S y3 (r2.keep (SameOn.of_below hW hS)) (fun b hb => Nat.lt_of_lt_of_le (hS b hb) hW.size) ok)
  clear r1 r2 hS ok
  go_enter Tryz.func20, Tryz.ntmps20
  go_wp2_with fail
  refine (C.out _ (HB.out _) w.heap.size (by simp [go_sem]) (by simp [go_sem]) (by simp [go_sem]) (by simp [go_sem])).mono ?_
  rintro e w2 ⟨rfl, hb2⟩
  obtain ⟨hcc, _⟩ := bcell hb2
  have HB2 := Lib.hid ((HB.out _).trans (hb2.mono (HB.out _).size))
  have hs2 := hb2.size
  simp at hs2
  have hpb : w.heap.size < w2.heap.size := by omega
  have y0 : w2.cell? ⟨w.heap.size, 0, none⟩ = some (.int .i64 x.st) := (hcc _ _ (by simp)).trans (by simp [go_sem])
  have y2 : w2.cell? ⟨w.heap.size, 2, none⟩ = some (.slice A1 x.ls.length c1) := (hcc _ _ (by simp)).trans (by simp [go_sem])
  have y3 : w2.cell? ⟨w.heap.size, 3, none⟩ = some (.slice A2 x.es.length c2) := (hcc _ _ (by simp)).trans (by simp [go_sem])
  clear hb2 hcc hs2
  rcases tv : ltB x with _ | _
  · have HF := Lib.hid (show sucC x k u = 1 by rw [sucC_st (by rw [stC_inv tv]; decide), stC_inv tv])
    have HG := Lib.hid (sucR_no (x := x) (k := k) (u := u) (by rw [HF.out]; decide))
    clear tv
    go_wp2
    go_ret2
    exact ⟨none, 0, by rw [HF.out, HG.out]; rfl, by rw [HG.out]; exact OL.nil, HB2.out⟩
  · have TV := Lib.hid tv
    have hst := (ltB_parts tv).1
    have CS := Lib.hid (l11State_any w.heap.size x.st k w2 (by omega) y0)
    clear tv
    rcases tk : idxI k x.st with _ | _
    · have HF := Lib.hid (show sucC x k u = 2 by rw [sucC_st (by rw [stC_rng TV.out tk]; decide), stC_rng TV.out tk])
      have HG := Lib.hid (sucR_no (x := x) (k := k) (u := u) (by rw [HF.out]; decide))
      rw [tk] at CS
      clear tk
      go_wp2_with (go_at_call 46; refine (CS.out).mono ?_; rintro e w3 ⟨rfl, rfl⟩)
      go_ret2
      exact ⟨none, 0, by rw [HF.out, HG.out]; rfl, by rw [HG.out]; exact OL.nil, HB2.out⟩
    · have HK := Lib.hid (stC_ok TV.out tk)
      rw [tk] at CS
      clear tk
      have CF2 := Lib.hid (CF.out w2 HB2.out)
      clear y0
      rcases tu : hasU x.ls u with _ | _
      · have HF := Lib.hid (sucC_no HK.out tu)
        have HG := Lib.hid (sucR_no (x := x) (k := k) (u := u) (by rw [HF.out]; decide))
        rw [fndI_no tu] at CF2
        clear tu
        go_wp2_with (first
          | (go_at_call 46; refine (CS.out).mono ?_; rintro e w3 ⟨rfl, rfl⟩)
          | (go_at_call 52; refine (CF2.out).mono ?_; rintro e w3 ⟨rfl, hb3⟩; have HB3 := Lib.hid (HB2.out.trans (hb3.mono HB2.out.size)); clear hb3))
        go_ret2
        exact ⟨none, 0, by rw [HF.out, HG.out]; rfl, by rw [HG.out]; exact OL.nil, HB3.out⟩
      · have HF := Lib.hid (sucC_ok HK.out tu)
        have HG := Lib.hid (sucR_ok HF.out)
        have hlt0 : ¬ ((fndN x.ls u : Nat) : Int) < 0 := by omega
        rw [fndI_yes tu] at CF2
        clear tu
        obtain ⟨t, ht⟩ : ∃ t, fndN x.ls u = t := ⟨_, rfl⟩
        rw [ht] at CF2 hlt0 HG
        rw [ht] at CO
        clear ht
        go_wp2_with (first
          | (go_at_call 46; refine (CS.out).mono ?_; rintro e w3 ⟨rfl, rfl⟩)
          | (go_at_call 52; refine (CF2.out).mono ?_; rintro e w3 ⟨rfl, hb3⟩; have HB3 := Lib.hid (HB2.out.trans (hb3.mono HB2.out.size)); have C3 := Lib.hid (CO.out w3 HB3.out w.heap.size ((hb3.cell (p := ⟨w.heap.size, 3, none⟩) hpb).trans y3)); have HS3 := Lib.hid HB3.out.size; clear hb3)
          | (go_at_call 53; refine (C3.out).mono ?_; rintro e w4 ⟨A, c, rfl, hO, hb4⟩; have HB4 := Lib.hid (HB3.out.trans (hb4.mono HB3.out.size)); have HO := Lib.hid (hO.more (S' := In w.heap.size w4.heap.size) (fun b hb => ⟨Nat.le_trans HS3.out hb.1, hb.2⟩)); clear hb4 hO))
        go_ret2
        exact ⟨A, c, by (rw [HG.out, HF.out]; rfl), by rw [HG.out]; exact HO.out, HB4.out⟩
end Go.Proofs.YthbnfjedjijacaaGreatDoor
