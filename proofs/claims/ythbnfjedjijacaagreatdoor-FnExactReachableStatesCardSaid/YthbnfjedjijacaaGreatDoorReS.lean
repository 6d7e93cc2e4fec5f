/- Reachable states: the model. -/
import Derived.BigQuiet
import Derived.Test.YthbnfjedjijacaaGreatDoorLtO
import Derived.Test.YthbnfjedjijacaaGreatDoorRea
namespace Go.Proofs.YthbnfjedjijacaaGreatDoor
open Go.RowKit
set_option linter.unusedVariables false
set_option linter.unusedSimpArgs false
set_option maxRecDepth 100000 in
set_option maxHeartbeats 8000000 in
theorem l11Reach_any (x : Lt) (p : Nat) (A2 : Option Addr) (c2 : Nat) (w : World) (S : Nat → Prop) (y0 : w.cell? ⟨p, 0, none⟩ = some (.int .i64 x.st)) (y1 : w.cell? ⟨p, 1, none⟩ = some (.int .i64 x.ini)) (y3 : w.cell? ⟨p, 3, none⟩ = some (.slice A2 x.es.length c2)) (h2 : LRow edR w S A2 x.es) (hS : ∀ b, S b → b < w.heap.size) (tv : ltB x = true) :
    Calls Tryz.prog 59 #[.pointer (some ⟨p, 0, none⟩)] w fun e w' => ∃ A c, e = .returned (.slice A (rchL x).length c) ∧ OL intO 2 w' (In w.heap.size w'.heap.size) A (rchL x).length c (rchL x) ∧ Below w.heap.size w w' := by
  obtain ⟨i0, hi, hz0, hz1, hz2⟩ := info_parts (show (Tryz.prog.info? 4).map (fun i => (i.zero, i.size, i.bytes)) = some (some (.bool false), 1, 1) by kernel_rfl)
  have hp := World.block_lt_of_cell? w _ y0
  obtain ⟨hst, hini, _, hm, _, hin⟩ := ltB_parts tv
  have HIN := Lib.hid (fun (e : Ed) (he : e ∈ x.es) => inE_iff.1 (List.all_eq_true.1 hin e he))
  clear hin
  obtain ⟨N, hN⟩ : ∃ N : Nat, x.st = (N : Int) := ⟨x.st.toNat, by omega⟩
  obtain ⟨I, hI⟩ : ∃ I : Nat, x.ini = (I : Int) := ⟨x.ini.toNat, by omega⟩
  rw [hN] at y0
  rw [hI] at y1
  have hIN : I < N := by omega
  have hN40 : N ≤ 40 := by omega
  have HST := Lib.hid (show x.st.toNat = N by omega)
  have HII := Lib.hid (show x.ini.toNat = I by omega)
  have HN := Lib.hid hN
  have HI := Lib.hid hI
  have Y := Lib.hid (fun (W : World) (hW : Below w.heap.size w W) => (⟨(hW.cell (p := ⟨p, 0, none⟩) hp).trans y0, (hW.cell (p := ⟨p, 3, none⟩) hp).trans y3, Nat.lt_of_lt_of_le hp hW.size⟩ : W.cell? ⟨p, 0, none⟩ = some (.int .i64 (N : Int)) ∧ W.cell? ⟨p, 3, none⟩ = some (.slice A2 x.es.length c2) ∧ p < W.heap.size))
  have R2 := Lib.hid h2
  have HS := Lib.hid hS
  have TV := Lib.hid tv
  have HM0 := Lib.hid (show Mid x ((List.replicate N false).set I true) from ⟨by rw [List.length_set, List.length_replicate, HST.out], by rw [HII.out, List.getElem?_set_self (by rw [List.length_replicate]; exact hIN)], fun j hj => by
    rw [List.getElem?_set] at hj
    split at hj
    · rename_i e; subst e; rw [← hI]; exact Rch.ini
    · rw [List.getElem?_replicate] at hj
      split at hj
      · cases hj
      · cases hj⟩)
  clear h2 hS tv hst hini hN hI y3
  go_enter Tryz.func59, Tryz.ntmps59
  go_wp2_with (at_make; refine wpList_make_full _ rfl _ _ _ rfl w.heap.size 4 i0 (.bool false) 1 Tryz.underlying107 hi hz0 hz1 .i64 .i64 _ _ N rfl rfl rfl rfl (by rw [hz2]; omega) (by unfold maxLen; omega) (Nat.le_refl _) ?_; intro w1 hown1 hg1; have hb1 := Lib.hid (show Below w.heap.size w w1 from (Below.refl _ _).grown hg1 (Nat.le_refl _) (by simp)); have z1 := (hb1.out.cell (p := ⟨p, 1, none⟩) hp).trans y1; obtain ⟨⟨old0, hx0⟩, hf0⟩ := own_some hown1 (k := I) (by omega); have hpr1 := Nat.lt_of_lt_of_le hp hb1.out.size; have HO1 := Lib.hid hown1; clear hown1 hg1)
  have H0 := Lib.hid (show (w1.setCell ⟨w.heap.size, I, none⟩ (.bool true)).ownsRow w.heap.size 4 1 (.slice (some ⟨w.heap.size, 0, none⟩) N N) N (((List.replicate N false).set I true).map Value.bool) by
    have h := HO1.out
    have e := toList_madeCells_one (.bool false) N
    have e2 : (Value.bool false).cells = #[.bool false] := rfl
    rw [e2, Nat.mul_one, e] at h
    have h3 := (h.stored I (.bool true)).1
    have e3 : ((List.replicate N false).set I true).map Value.bool = (List.replicate N (Value.bool false)).set I (Value.bool true) := by rw [List.map_set, List.map_replicate]
    rw [e3]; exact h3)
  have HB0 := Lib.hid (hb1.out.setCell (p := ⟨w.heap.size, I, none⟩) (Nat.le_refl _) (.bool true))
  clear hi hz0 hz1 hz2 HO1 z1 hx0 hf0 y1 y0
  go_loopw [4] (fun m wr => ∃ (b : Bool) (sb : List Bool), m = .bool b ∧ Hid (Mid x sb) ∧ Hid (b = false → clo x sb x.es.length) ∧ Hid (wr.ownsRow w.heap.size 4 1 (.slice (some ⟨w.heap.size, 0, none⟩) N N) N ((sb).map Value.bool)) ∧ Hid (Below w.heap.size w wr)) (fun m wr => 2 * lowN wr w.heap.size N + mOf m)
  case atStart => exact ⟨true, _, rfl, HM0, Lib.hid (fun e => by cases e), H0, HB0⟩
  case round =>
    clear H0 HB0 HM0 hb1
    obtain ⟨b, sb, rfl, HM, HC, HO, HB⟩ := hrel
    obtain ⟨wo, rfl⟩ : ∃ wo : World, wo = wr := ⟨_, rfl⟩
    have hsz := HB.out.size
    have HL := Lib.hid (low_cnt (W := wo) (b := w.heap.size) (sb := sb) (n := N) (fun j hj => HO.out.cellAt j (by omega)))
    rcases b with _ | _
    case true =>
      go_wp2
      go_loopw [4, 5] (fun m i wr => ∃ (b : Bool) (j : Nat) (sb' : List Bool), j ≤ x.es.length ∧ i = .int .i64 (j : Int) ∧ m = .bool b ∧ Hid (Mid x sb') ∧ Hid (b = false → clo x sb' j) ∧ Hid (cntF sb' N + (if b = true then 1 else 0) ≤ cntF sb N) ∧ Hid (wr.ownsRow w.heap.size 4 1 (.slice (some ⟨w.heap.size, 0, none⟩) N N) N ((sb').map Value.bool)) ∧ Hid (Below w.heap.size w wr)) (fun _ i _ => x.es.length - (intOf i).toNat)
      case atStart => exact ⟨false, 0, sb, Nat.zero_le _, rfl, rfl, HM, Lib.hid (fun _ => clo_zero _ _), Lib.hid (by simp), HO, HB⟩
      case round =>
        clear HM HC HO HB hsz
        obtain ⟨b, j, sb', hj, rfl, rfl, HM, HC, HLE, HO, HB⟩ := hrel
        obtain ⟨z0, z3, hpr⟩ := Y.out _ HB.out
        have hsz := HB.out.size
        by_cases hlt : j < x.es.length
        · obtain ⟨b2, o, cs, v, rfl, hb2, hR, hv, hc⟩ := (R2.out.keep (SameOn.of_below HB.out HS.out)).at_ (k := j) hlt
          have hR : cs = [Value.int .i64 v.f, Value.int .i64 v.l, Value.int .i64 v.t] := hR
          subst hR
          obtain ⟨⟨f0, f1⟩, _, ⟨t0, t1⟩⟩ := HIN.out v (List.mem_of_getElem? hv.out)
          rw [HN.out] at f1 t1
          obtain ⟨F, hF⟩ : ∃ F : Nat, v.f = (F : Int) := ⟨v.f.toNat, by omega⟩
          obtain ⟨T, hT⟩ : ∃ T : Nat, v.t = (T : Int) := ⟨v.t.toNat, by omega⟩
          have hFN : F < N := by omega
          have hTN : T < N := by omega
          have g0 : wr.cell? ⟨b2, o + j * 3, none⟩ = some (.int .i64 (F : Int)) := by rw [← hF]; exact hc 0 _ rfl
          have g2 : wr.cell? ⟨b2, o + j * 3 + 2, none⟩ = some (.int .i64 (T : Int)) := by rw [← hT]; exact hc 2 _ rfl
          have HFF := Lib.hid (show v.f.toNat = F by omega)
          have HTT := Lib.hid (show v.t.toNat = T by omega)
          have HVT := Lib.hid hT
          have lb := World.block_lt_of_cell? wr _ g0
          have hlen : sb'.length = N := by rw [HM.out.len, HST.out]
          obtain ⟨vF, hvF⟩ : ∃ vF, sb'[F]? = some vF := ⟨_, List.getElem?_eq_getElem (by omega)⟩
          obtain ⟨vT, hvT⟩ : ∃ vT, sb'[T]? = some vT := ⟨_, List.getElem?_eq_getElem (by omega)⟩
          have gF : wr.cell? ⟨w.heap.size, F, none⟩ = some (.bool vF) := by rw [HO.out.cellAt F (by omega), List.getElem?_map, hvF]; rfl
          have gT : wr.cell? ⟨w.heap.size, T, none⟩ = some (.bool vT) := by rw [HO.out.cellAt T (by omega), List.getElem?_map, hvT]; rfl
          have lw : w.heap.size < wr.heap.size := World.block_lt_of_cell? wr _ gF
          have hfT := HO.out.frozenAt T
          have HVF := Lib.hid hvF
          have HVTT := Lib.hid hvT
          clear hc hF hT hlen hvF hvT f0 f1 t0 t1
          rcases vF with _ | _
          · have HN2 := Lib.hid (fun e : b = false => clo_next (HC.out e) hv.out (by rw [HFF.out, HVF.out]; intro h; cases h))
            go_wp2
            go_roundw
            case rel => exact ⟨b, j + 1, sb', by omega, by go_num, rfl, HM, HN2, HLE, HO, HB⟩
            case measure => simp [intOf]; omega
          · rcases vT with _ | _
            · have HM2 := Lib.hid (HM.out.set (List.mem_of_getElem? hv.out) (by rw [HFF.out]; exact HVF.out) (by have := (HIN.out v (List.mem_of_getElem? hv.out)).1.1; exact this) HVT.out)
              have HLE2 := Lib.hid (show cntF (sb'.set T true) N + (if true = true then 1 else 0) ≤ cntF sb N by
                have h1 := cntF_set HVTT.out hTN
                have h2 := HLE.out
                rw [if_pos rfl]; omega)
              go_wp2
              go_roundw
              case rel => exact ⟨true, j + 1, sb'.set T true, by omega, by go_num, rfl, HM2, Lib.hid (fun e => by cases e), HLE2, Lib.hid (by rw [List.map_set]; exact (HO.out.stored T (.bool true)).1), Lib.hid (HB.out.setCell (p := ⟨w.heap.size, T, none⟩) (Nat.le_refl _) _)⟩
              case measure => simp [intOf]; omega
            · have HN2 := Lib.hid (fun e : b = false => clo_next (HC.out e) hv.out (by intro _; rw [HTT.out]; exact HVTT.out))
              go_wp2
              go_roundw
              case rel => exact ⟨b, j + 1, sb', by omega, by go_num, rfl, HM, HN2, HLE, HO, HB⟩
              case measure => simp [intOf]; omega
        · have HL2 := Lib.hid (low_cnt (W := wr) (b := w.heap.size) (sb := sb') (n := N) (fun j hj => HO.out.cellAt j (by omega)))
          have hje : j = x.es.length := by omega
          have HC2 := Lib.hid (fun e : b = false => (show clo x sb' x.es.length from hje ▸ HC.out e))
          clear hje
          go_wp2
          go_roundw
          case rel => exact ⟨b, sb', rfl, HM, HC2, HO, HB⟩
          case measure =>
            have h1 := HL.out
            have h2 := HL2.out
            have h3 := HLE.out
            simp only [h1, h2]
            rcases b with _ | _ <;> simp [mOf] at h3 ⊢ <;> omega
    case false =>
      have HALL := Lib.hid (selB_all HM.out (HC.out rfl))
      have hlen : sb.length = N := by rw [HM.out.len, HST.out]
      have HRO := HO
      have HBO := HB
      have H0 := Lib.hid (World.ownsRow_made wo #[] 0 (e := 2) (size := 1) (base := wo.heap.size) (Nat.le_refl _) (Nat.zero_le _) rfl)
      have HB0 := Lib.hid ((Below.refl wo.heap.size wo).alloc (Nat.le_refl _) (.cells #[] 2))
      clear HM HC HO HB HL
      go_wp2
      go_loopw [6, 7] (fun v i wr => ∃ (j n : Nat) (A : Option Addr) (c : Nat), j ≤ N ∧ n ≤ j ∧ i = .int .i64 (j : Int) ∧ v = .slice A n c ∧ Hid (n = (selB sb j).length) ∧ Hid (wr.ownsRow wo.heap.size 2 1 (.slice A n c) n ((selB sb j).map (Value.int .i64))) ∧ Hid (Below wo.heap.size wo wr)) (fun _ i _ => N - (intOf i).toNat)
      case atStart => exact ⟨0, 0, _, _, Nat.zero_le _, Nat.le_refl _, rfl, rfl, Lib.hid rfl, Lib.hid H0.out, HB0⟩
      case round =>
        clear H0 HB0
        obtain ⟨j, n, A, c, hj, hnj, rfl, rfl, HNN, HO, HB⟩ := hrel
        have HBW := Lib.hid (HBO.out.trans (HB.out.mono hsz))
        obtain ⟨z0, z3, hpr⟩ := Y.out _ HBW.out
        have hszw := HB.out.size
        by_cases hlt : j < N
        · obtain ⟨vJ, hvJ⟩ : ∃ vJ, sb[j]? = some vJ := ⟨_, List.getElem?_eq_getElem (by omega)⟩
          have gJ : wr.cell? ⟨w.heap.size, j, none⟩ = some (.bool vJ) := by rw [(own_below' HRO.out HB.out).cellAt j (by omega), List.getElem?_map, hvJ]; rfl
          have lw : w.heap.size < wr.heap.size := World.block_lt_of_cell? wr _ gJ
          rcases vJ with _ | _
          · have HT := Lib.hid (selB_no hvJ)
            clear hvJ
            go_wp2
            go_roundw
            case rel => exact ⟨j + 1, n, A, c, by omega, by omega, by go_num, rfl, Lib.hid (by rw [HT.out]; exact HNN.out), Lib.hid (by rw [HT.out]; exact HO.out), HB⟩
            case measure => simp [intOf]; omega
          · have HT := Lib.hid (selB_yes hvJ)
            have HO2 := Lib.hid (fun ob : Obj => HO.out.alloc ob)
            clear hvJ
            go_wp2_with (at_builtin; refine wpList_append_vs el_int rfl _ _ rfl _ wo.heap.size (.slice A n c) n ((selB sb j).map (Value.int .i64)) rfl (by exact HO2.out _) (fun _ => True) (some ⟨wr.heap.size, 0, none⟩) 1 1 [.int .i64 (j : Int)] rfl (by exact srow_int _ _ _) rfl (one_int _) (by omega) (by simp <;> omega) ?_; intro A' c' w' ho hg; have HO3 := Lib.hid ho; have HG3 := Lib.hid hg; clear ho hg)
            go_roundw
            case rel => exact ⟨j + 1, n + 1, A', c', by omega, by omega, by go_num, rfl, Lib.hid (by rw [HT.out, List.length_append, ← HNN.out]; rfl), Lib.hid (by rw [HT.out, List.map_append]; exact HO3.out), Lib.hid ((HB.out.alloc hszw _).grown HG3.out (by simp; omega) (fun g e => (HO.out.lt g e).1))⟩
            case measure => simp [intOf]; omega
        · have hjN : j = N := by omega
          have HE := Lib.hid (show selB sb j = rchL x by rw [hjN, ← HST.out]; exact HALL.out)
          clear hjN
          go_wp2
          go_ret
          have hl : (rchL x).length = n := by rw [← HE.out, HNN.out]
          refine ⟨A, c, by rw [hl]; rfl, ?_, HBW.out⟩
          rw [hl]
          exact (ol_int (by rw [← HE.out]; exact HO.out) hl).more (fun b hb => ⟨Nat.le_trans hsz hb.1, hb.2⟩)
set_option maxRecDepth 100000 in
set_option maxHeartbeats 2000000 in
theorem specRch_any {x : Lt} {cs : List Value} {w : World} {S : Nat → Prop} (h : ltR.R w S x cs) (hS : ∀ b, S b → b < w.heap.size) (ok : okLt x) :
    Calls Tryz.prog 27 #[.agg cs.toArray] w fun e w' => ∃ A c, e = .returned (.tuple #[.slice A (rchR x).length c, .int .i64 (rchC x)]) ∧ OL intO 2 w' (In w.heap.size w'.heap.size) A (rchR x).length c (rchR x) ∧ Below w.heap.size w w' := by
  obtain ⟨A1, c1, A2, c2, rfl, ⟨m1, m3, r1⟩, ⟨m2, m4, r2⟩⟩ := h
  have HB := Lib.hid (fun o : Obj => (Below.refl w.heap.size w).alloc (Nat.le_refl _) o)
  have C := Lib.hid (fun (W : World) (hW : Below w.heap.size w W) (q : Nat) (y0 : W.cell? ⟨q, 0, none⟩ = some (.int .i64 x.st)) (y1 : W.cell? ⟨q, 1, none⟩ = some (.int .i64 x.ini)) (y2 : W.cell? ⟨q, 2, none⟩ = some (.slice A1 x.ls.length c1)) (y3 : W.cell? ⟨q, 3, none⟩ = some (.slice A2 x.es.length c2)) => l11Is_any x q A1 A2 c1 c2 W S y0 y1 y2 y3 (r1.keep (SameOn.of_below hW hS)) (r2.keep (SameOn.of_below hW hS)) (fun b hb => Nat.lt_of_lt_of_le (hS b hb) hW.size) ok)
  have CO := Lib.hid (fun (tv : ltB x = true) (W : World) (hW : Below w.heap.size w W) (q : Nat) (y0 : W.cell? ⟨q, 0, none⟩ = some (.int .i64 x.st)) (y1 : W.cell? ⟨q, 1, none⟩ = some (.int .i64 x.ini)) (y3 : W.cell? ⟨q, 3, none⟩ = some (.slice A2 x.es.length c2)) => l11Reach_any x q A2 c2 W S y0 y1 y3 (r2.keep (SameOn.of_below hW hS)) (fun b hb => Nat.lt_of_lt_of_le (hS b hb) hW.size) tv)
  clear r1 r2 hS ok
  go_enter Tryz.func27, Tryz.ntmps27
  go_wp2_with fail
  refine (C.out _ (HB.out _) w.heap.size (by simp [go_sem]) (by simp [go_sem]) (by simp [go_sem]) (by simp [go_sem])).mono ?_
  rintro e w2 ⟨rfl, hb2⟩
  obtain ⟨hcc, _⟩ := bcell hb2
  have HB2 := Lib.hid ((HB.out _).trans (hb2.mono (HB.out _).size))
  have y0 : w2.cell? ⟨w.heap.size, 0, none⟩ = some (.int .i64 x.st) := (hcc _ _ (by simp)).trans (by simp [go_sem])
  have y1 : w2.cell? ⟨w.heap.size, 1, none⟩ = some (.int .i64 x.ini) := (hcc _ _ (by simp)).trans (by simp [go_sem])
  have y3 : w2.cell? ⟨w.heap.size, 3, none⟩ = some (.slice A2 x.es.length c2) := (hcc _ _ (by simp)).trans (by simp [go_sem])
  clear hb2 hcc
  rcases tv : ltB x with _ | _
  · have HF := Lib.hid (rchC_no tv)
    have HG := Lib.hid (rchR_no tv)
    clear tv
    go_wp2
    go_ret2
    exact ⟨none, 0, by rw [HF.out, HG.out]; rfl, by rw [HG.out]; exact OL.nil, HB2.out⟩
  · have HF := Lib.hid (rchC_yes tv)
    have HG := Lib.hid (rchR_yes tv)
    have HS3 := Lib.hid HB2.out.size
    have C3 := Lib.hid (CO.out tv _ HB2.out w.heap.size y0 y1 y3)
    clear tv y0 y1 y3
    go_wp2_with (go_at_call 59; refine (C3.out).mono ?_; rintro e w4 ⟨A, c, rfl, hO, hb4⟩; have HB4 := Lib.hid (HB2.out.trans (hb4.mono HB2.out.size)); have HO := Lib.hid (hO.more (S' := In w.heap.size w4.heap.size) (fun b hb => ⟨Nat.le_trans HS3.out hb.1, hb.2⟩)); clear hb4 hO)
    go_ret2
    exact ⟨A, c, by (rw [HG.out, HF.out]; rfl), by rw [HG.out]; exact HO.out, HB4.out⟩
end Go.Proofs.YthbnfjedjijacaaGreatDoor
