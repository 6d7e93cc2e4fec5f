/- Reachable states: the model. -/
/- Reachable states: the program. -/
/- Deadlocks: mathematics and the model. -/
/- Deadlocks: the program. -/
import Derived.BigQuiet
import Derived.Test.YtbailpfjgjcbdaaGreatDoorLtO
import Derived.Test.YtbailpfjgjcbdaaGreatDoorRea
import Derived.Conc.MuLone
import Derived.Test.YtbailpfjgjcbdaaGreatDoorLtZ
import Derived.Test.YtbailpfjgjcbdaaGreatDoorOu
import Derived.Lib.SliceRun
namespace Go.Proofs.YtbailpfjgjcbdaaGreatDoor
open Go.RowKit
set_option linter.unusedVariables false
set_option linter.unusedSimpArgs false
set_option maxRecDepth 100000 in
set_option maxHeartbeats 8000000 in
theorem l11Reach_any (x : Lt) (p : Nat) (A2 : Option Addr) (c2 : Nat) (w : World) (S : Nat → Prop) (y0 : w.cell? ⟨p, 0, none⟩ = some (.int .i64 x.st)) (y1 : w.cell? ⟨p, 1, none⟩ = some (.int .i64 x.ini)) (y3 : w.cell? ⟨p, 3, none⟩ = some (.slice A2 x.es.length c2)) (h2 : LRow edR w S A2 x.es) (hS : ∀ b, S b → b < w.heap.size) (tv : ltB x = true) :
    Calls Tryz.prog 49 #[.pointer (some ⟨p, 0, none⟩)] w fun e w' => ∃ A c, e = .returned (.slice A (rchL x).length c) ∧ OL intO 2 w' (In w.heap.size w'.heap.size) A (rchL x).length c (rchL x) ∧ Below w.heap.size w w' := by
  obtain ⟨i0, hi, hz0, hz1, hz2⟩ := info_parts (show (Tryz.prog.info? 4).map (fun i => (i.zero, i.size, i.bytes)) = some (some (.bool false), 1, 1) by kernel_rfl)
  have hp := World.block_lt_of_cell? w _ y0
  obtain ⟨hst, hini, _, hm, _, hin⟩ := ltB_parts tv
  have HIN := Lib.hid (fun (e : Ed) (he : e ∈ x.es) => inE_iff.1 (List.all_eq_true.1 hin e he))
  clear hin
  obtain ⟨N, hN⟩ : ∃ N : Nat, x.st = (N : Int) := ⟨x.st.toNat, by omega⟩
  obtain ⟨I, hI⟩ : ∃ I : Nat, x.ini = (I : Int) := ⟨x.ini.toNat, by omega⟩
  rw [hN] at y0
  rw [hI] at y1
  have hIN : I < N := by omega
  have hN40 : N ≤ 40 := by omega
  have HST := Lib.hid (show x.st.toNat = N by omega)
  have HII := Lib.hid (show x.ini.toNat = I by omega)
  have HN := Lib.hid hN
  have HI := Lib.hid hI
  have Y := Lib.hid (fun (W : World) (hW : Below w.heap.size w W) => (⟨(hW.cell (p := ⟨p, 0, none⟩) hp).trans y0, (hW.cell (p := ⟨p, 3, none⟩) hp).trans y3, Nat.lt_of_lt_of_le hp hW.size⟩ : W.cell? ⟨p, 0, none⟩ = some (.int .i64 (N : Int)) ∧ W.cell? ⟨p, 3, none⟩ = some (.slice A2 x.es.length c2) ∧ p < W.heap.size))
  have R2 := Lib.hid h2
  have HS := Lib.hid hS
  have TV := Lib.hid tv
  have HM0 := Lib.hid (show Mid x ((List.replicate N false).set I true) from ⟨by rw [List.length_set, List.length_replicate, HST.out], by rw [HII.out, List.getElem?_set_self (by rw [List.length_replicate]; exact hIN)], fun j hj => by
    rw [List.getElem?_set] at hj
    split at hj
    · rename_i e; subst e; rw [← hI]; exact Rch.ini
    · rw [List.getElem?_replicate] at hj
      split at hj
      · cases hj
      · cases hj⟩)
  clear h2 hS tv hst hini hN hI y3
  go_enter Tryz.func49, Tryz.ntmps49
  go_wp2_with (at_make; refine wpList_make_full _ rfl _ _ _ rfl w.heap.size 4 i0 (.bool false) 1 Tryz.underlying54 hi hz0 hz1 .i64 .i64 _ _ N rfl rfl rfl rfl (by rw [hz2]; omega) (by unfold maxLen; omega) (Nat.le_refl _) ?_; intro w1 hown1 hg1; have hb1 := Lib.hid (show Below w.heap.size w w1 from (Below.refl _ _).grown hg1 (Nat.le_refl _) (by simp)); have z1 := (hb1.out.cell (p := ⟨p, 1, none⟩) hp).trans y1; obtain ⟨⟨old0, hx0⟩, hf0⟩ := own_some hown1 (k := I) (by omega); have hpr1 := Nat.lt_of_lt_of_le hp hb1.out.size; have HO1 := Lib.hid hown1; clear hown1 hg1)
  have H0 := Lib.hid (show (w1.setCell ⟨w.heap.size, I, none⟩ (.bool true)).ownsRow w.heap.size 4 1 (.slice (some ⟨w.heap.size, 0, none⟩) N N) N (((List.replicate N false).set I true).map Value.bool) by
    have h := HO1.out
    have e := toList_madeCells_one (.bool false) N
    have e2 : (Value.bool false).cells = #[.bool false] := rfl
    rw [e2, Nat.mul_one, e] at h
    have h3 := (h.stored I (.bool true)).1
    have e3 : ((List.replicate N false).set I true).map Value.bool = (List.replicate N (Value.bool false)).set I (Value.bool true) := by rw [List.map_set, List.map_replicate]
    rw [e3]; exact h3)
  have HB0 := Lib.hid (hb1.out.setCell (p := ⟨w.heap.size, I, none⟩) (Nat.le_refl _) (.bool true))
  clear hi hz0 hz1 hz2 HO1 z1 hx0 hf0 y1 y0
  go_loopw [4] (fun m wr => ∃ (b : Bool) (sb : List Bool), m = .bool b ∧ Hid (Mid x sb) ∧ Hid (b = false → clo x sb x.es.length) ∧ Hid (wr.ownsRow w.heap.size 4 1 (.slice (some ⟨w.heap.size, 0, none⟩) N N) N ((sb).map Value.bool)) ∧ Hid (Below w.heap.size w wr)) (fun m wr => 2 * lowN wr w.heap.size N + mOf m)
  case atStart => exact ⟨true, _, rfl, HM0, Lib.hid (fun e => by cases e), H0, HB0⟩
  case round =>
    clear H0 HB0 HM0 hb1
    obtain ⟨b, sb, rfl, HM, HC, HO, HB⟩ := hrel
    obtain ⟨wo, rfl⟩ : ∃ wo : World, wo = wr := ⟨_, rfl⟩
    have hsz := HB.out.size
    have HL := Lib.hid (low_cnt (W := wo) (b := w.heap.size) (sb := sb) (n := N) (fun j hj => HO.out.cellAt j (by omega)))
    rcases b with _ | _
    case true =>
      go_wp2
      go_loopw [4, 5] (fun m i wr => ∃ (b : Bool) (j : Nat) (sb' : List Bool), j ≤ x.es.length ∧ i = .int .i64 (j : Int) ∧ m = .bool b ∧ Hid (Mid x sb') ∧ Hid (b = false → clo x sb' j) ∧ Hid (cntF sb' N + (if b = true then 1 else 0) ≤ cntF sb N) ∧ Hid (wr.ownsRow w.heap.size 4 1 (.slice (some ⟨w.heap.size, 0, none⟩) N N) N ((sb').map Value.bool)) ∧ Hid (Below w.heap.size w wr)) (fun _ i _ => x.es.length - (intOf i).toNat)
      case atStart => exact ⟨false, 0, sb, Nat.zero_le _, rfl, rfl, HM, Lib.hid (fun _ => clo_zero _ _), Lib.hid (by simp), HO, HB⟩
      case round =>
        clear HM HC HO HB hsz
        obtain ⟨b, j, sb', hj, rfl, rfl, HM, HC, HLE, HO, HB⟩ := hrel
        obtain ⟨z0, z3, hpr⟩ := Y.out _ HB.out
        have hsz := HB.out.size
        by_cases hlt : j < x.es.length
        · obtain ⟨b2, o, cs, v, rfl, hb2, hR, hv, hc⟩ := (R2.out.keep (SameOn.of_below HB.out HS.out)).at_ (k := j) hlt
          have hR : cs = [Value.int .i64 v.f, Value.int .i64 v.l, Value.int .i64 v.t] := hR
          subst hR
          obtain ⟨⟨f0, f1⟩, _, ⟨t0, t1⟩⟩ := HIN.out v (List.mem_of_getElem? hv.out)
          rw [HN.out] at f1 t1
          obtain ⟨F, hF⟩ : ∃ F : Nat, v.f = (F : Int) := ⟨v.f.toNat, by omega⟩
          obtain ⟨T, hT⟩ : ∃ T : Nat, v.t = (T : Int) := ⟨v.t.toNat, by omega⟩
          have hFN : F < N := by omega
          have hTN : T < N := by omega
          have g0 : wr.cell? ⟨b2, o + j * 3, none⟩ = some (.int .i64 (F : Int)) := by rw [← hF]; exact hc 0 _ rfl
          have g2 : wr.cell? ⟨b2, o + j * 3 + 2, none⟩ = some (.int .i64 (T : Int)) := by rw [← hT]; exact hc 2 _ rfl
          have HFF := Lib.hid (show v.f.toNat = F by omega)
          have HTT := Lib.hid (show v.t.toNat = T by omega)
          have HVT := Lib.hid hT
          have lb := World.block_lt_of_cell? wr _ g0
          have hlen : sb'.length = N := by rw [HM.out.len, HST.out]
          obtain ⟨vF, hvF⟩ : ∃ vF, sb'[F]? = some vF := ⟨_, List.getElem?_eq_getElem (by omega)⟩
          obtain ⟨vT, hvT⟩ : ∃ vT, sb'[T]? = some vT := ⟨_, List.getElem?_eq_getElem (by omega)⟩
          have gF : wr.cell? ⟨w.heap.size, F, none⟩ = some (.bool vF) := by rw [HO.out.cellAt F (by omega), List.getElem?_map, hvF]; rfl
          have gT : wr.cell? ⟨w.heap.size, T, none⟩ = some (.bool vT) := by rw [HO.out.cellAt T (by omega), List.getElem?_map, hvT]; rfl
          have lw : w.heap.size < wr.heap.size := World.block_lt_of_cell? wr _ gF
          have hfT := HO.out.frozenAt T
          have HVF := Lib.hid hvF
          have HVTT := Lib.hid hvT
          clear hc hF hT hlen hvF hvT f0 f1 t0 t1
          rcases vF with _ | _
          · have HN2 := Lib.hid (fun e : b = false => clo_next (HC.out e) hv.out (by rw [HFF.out, HVF.out]; intro h; cases h))
            go_wp2
            go_roundw
            case rel => exact ⟨b, j + 1, sb', by omega, by go_num, rfl, HM, HN2, HLE, HO, HB⟩
            case measure => simp [intOf]; omega
          · rcases vT with _ | _
            · have HM2 := Lib.hid (HM.out.set (List.mem_of_getElem? hv.out) (by rw [HFF.out]; exact HVF.out) (by have := (HIN.out v (List.mem_of_getElem? hv.out)).1.1; exact this) HVT.out)
              have HLE2 := Lib.hid (show cntF (sb'.set T true) N + (if true = true then 1 else 0) ≤ cntF sb N by
                have h1 := cntF_set HVTT.out hTN
                have h2 := HLE.out
                rw [if_pos rfl]; omega)
              go_wp2
              go_roundw
              case rel => exact ⟨true, j + 1, sb'.set T true, by omega, by go_num, rfl, HM2, Lib.hid (fun e => by cases e), HLE2, Lib.hid (by rw [List.map_set]; exact (HO.out.stored T (.bool true)).1), Lib.hid (HB.out.setCell (p := ⟨w.heap.size, T, none⟩) (Nat.le_refl _) _)⟩
              case measure => simp [intOf]; omega
            · have HN2 := Lib.hid (fun e : b = false => clo_next (HC.out e) hv.out (by intro _; rw [HTT.out]; exact HVTT.out))
              go_wp2
              go_roundw
              case rel => exact ⟨b, j + 1, sb', by omega, by go_num, rfl, HM, HN2, HLE, HO, HB⟩
              case measure => simp [intOf]; omega
        · have HL2 := Lib.hid (low_cnt (W := wr) (b := w.heap.size) (sb := sb') (n := N) (fun j hj => HO.out.cellAt j (by omega)))
          have hje : j = x.es.length := by omega
          have HC2 := Lib.hid (fun e : b = false => (show clo x sb' x.es.length from hje ▸ HC.out e))
          clear hje
          go_wp2
          go_roundw
          case rel => exact ⟨b, sb', rfl, HM, HC2, HO, HB⟩
          case measure =>
            have h1 := HL.out
            have h2 := HL2.out
            have h3 := HLE.out
            simp only [h1, h2]
            rcases b with _ | _ <;> simp [mOf] at h3 ⊢ <;> omega
    case false =>
      have HALL := Lib.hid (selB_all HM.out (HC.out rfl))
      have hlen : sb.length = N := by rw [HM.out.len, HST.out]
      have HRO := HO
      have HBO := HB
      have H0 := Lib.hid (World.ownsRow_made wo #[] 0 (e := 2) (size := 1) (base := wo.heap.size) (Nat.le_refl _) (Nat.zero_le _) rfl)
      have HB0 := Lib.hid ((Below.refl wo.heap.size wo).alloc (Nat.le_refl _) (.cells #[] 2))
      clear HM HC HO HB HL
      go_wp2
      go_loopw [6, 7] (fun v i wr => ∃ (j n : Nat) (A : Option Addr) (c : Nat), j ≤ N ∧ n ≤ j ∧ i = .int .i64 (j : Int) ∧ v = .slice A n c ∧ Hid (n = (selB sb j).length) ∧ Hid (wr.ownsRow wo.heap.size 2 1 (.slice A n c) n ((selB sb j).map (Value.int .i64))) ∧ Hid (Below wo.heap.size wo wr)) (fun _ i _ => N - (intOf i).toNat)
      case atStart => exact ⟨0, 0, _, _, Nat.zero_le _, Nat.le_refl _, rfl, rfl, Lib.hid rfl, Lib.hid H0.out, HB0⟩
      case round =>
        clear H0 HB0
        obtain ⟨j, n, A, c, hj, hnj, rfl, rfl, HNN, HO, HB⟩ := hrel
        have HBW := Lib.hid (HBO.out.trans (HB.out.mono hsz))
        obtain ⟨z0, z3, hpr⟩ := Y.out _ HBW.out
        have hszw := HB.out.size
        by_cases hlt : j < N
        · obtain ⟨vJ, hvJ⟩ : ∃ vJ, sb[j]? = some vJ := ⟨_, List.getElem?_eq_getElem (by omega)⟩
          have gJ : wr.cell? ⟨w.heap.size, j, none⟩ = some (.bool vJ) := by rw [(own_below' HRO.out HB.out).cellAt j (by omega), List.getElem?_map, hvJ]; rfl
          have lw : w.heap.size < wr.heap.size := World.block_lt_of_cell? wr _ gJ
          rcases vJ with _ | _
          · have HT := Lib.hid (selB_no hvJ)
            clear hvJ
            go_wp2
            go_roundw
            case rel => exact ⟨j + 1, n, A, c, by omega, by omega, by go_num, rfl, Lib.hid (by rw [HT.out]; exact HNN.out), Lib.hid (by rw [HT.out]; exact HO.out), HB⟩
            case measure => simp [intOf]; omega
          · have HT := Lib.hid (selB_yes hvJ)
            have HO2 := Lib.hid (fun ob : Obj => HO.out.alloc ob)
            clear hvJ
            go_wp2_with (at_builtin; refine wpList_append_vs el_int rfl _ _ rfl _ wo.heap.size (.slice A n c) n ((selB sb j).map (Value.int .i64)) rfl (by exact HO2.out _) (fun _ => True) (some ⟨wr.heap.size, 0, none⟩) 1 1 [.int .i64 (j : Int)] rfl (by exact srow_int _ _ _) rfl (one_int _) (by omega) (by simp <;> omega) ?_; intro A' c' w' ho hg; have HO3 := Lib.hid ho; have HG3 := Lib.hid hg; clear ho hg)
            go_roundw
            case rel => exact ⟨j + 1, n + 1, A', c', by omega, by omega, by go_num, rfl, Lib.hid (by rw [HT.out, List.length_append, ← HNN.out]; rfl), Lib.hid (by rw [HT.out, List.map_append]; exact HO3.out), Lib.hid ((HB.out.alloc hszw _).grown HG3.out (by simp; omega) (fun g e => (HO.out.lt g e).1))⟩
            case measure => simp [intOf]; omega
        · have hjN : j = N := by omega
          have HE := Lib.hid (show selB sb j = rchL x by rw [hjN, ← HST.out]; exact HALL.out)
          clear hjN
          go_wp2
          go_ret
          have hl : (rchL x).length = n := by rw [← HE.out, HNN.out]
          refine ⟨A, c, by rw [hl]; rfl, ?_, HBW.out⟩
          rw [hl]
          exact (ol_int (by rw [← HE.out]; exact HO.out) hl).more (fun b hb => ⟨Nat.le_trans hsz hb.1, hb.2⟩)
end Go.Proofs.YtbailpfjgjcbdaaGreatDoor

namespace Go.Proofs.YtbailpfjgjcbdaaGreatDoor
open Go.RowKit Go.Maps
set_option linter.unusedVariables false
set_option linter.unusedSimpArgs false
set_option maxRecDepth 100000 in
theorem nx1_any (a b t : Int) (w : World) : Calls Tryz.prog 101 #[.agg #[.int .i64 a, .int .i64 b, .int .i64 t]] w fun e w' => e = .returned (.int .i64 t) ∧ Below w.heap.size w w' := by
  have HB := Lib.hid (fun o : Obj => (Below.refl w.heap.size w).alloc (Nat.le_refl _) o)
  go_enter Tryz.func101, Tryz.ntmps101
  go_wp2
  go_ret
  exact ⟨rfl, HB.out _⟩
theorem info_intN : (Tryz.prog.info? 2).map (fun i => (i.zero, i.size, i.bytes)) = some (some (.int .i64 0), 1, 8) := by kernel_rfl
set_option maxRecDepth 100000 in
set_option maxHeartbeats 2000000 in
theorem mapTo_any (A : Option Addr) (n d : Nat) (es : List Ed) (w : World) (S : Nat → Prop) (h : LRow edR w S A es) (hS : ∀ b, S b → b < w.heap.size) (l : es.length = n) (m : n ≤ 1048576) :
    Calls Tryz.prog 100 #[.slice A n d, .func (.func 101) #[] #[]] w (MadeLO intO 2 (es.map Ed.t) w) := by
  obtain ⟨i0, hi, hz0, hz1, hz2⟩ := info_parts info_intN
  have L := Lib.hid l
  have LY := Lib.hid (show (es.map Ed.t).length = n by rw [List.length_map]; exact l)
  have H1 := Lib.hid h
  have HS := Lib.hid hS
  clear l h hS
  go_enter Tryz.func100, Tryz.ntmps100
  go_wp2_with (at_make; refine wpList_make_full _ rfl _ _ _ rfl w.heap.size 2 i0 (.int .i64 0) 1 Tryz.underlying26 hi hz0 hz1 .i64 .i64 _ _ n rfl rfl rfl rfl (by rw [hz2]; omega) (by unfold maxLen; omega) (Nat.le_refl _) ?_; intro w1 hown1 hg1)
  have H0 := Lib.hid (show w1.ownsRow w.heap.size 2 1 (.slice (some ⟨w.heap.size, 0, none⟩) n n) n ([] ++ (madeCells #[.int .i64 0] ((n - 0) * 1)).toList) from hown1)
  have hb1 := Lib.hid (show Below w.heap.size w w1 from (Below.refl _ _).grown hg1 (Nat.le_refl _) (by simp))
  clear hown1 hg1 hi hz0 hz1 hz2
  go_loopw [6, 7, 13] (fun _ _ i wr => ∃ (k : Nat) (vs : List Value), k ≤ n ∧ i = .int .i64 k ∧ Hid (vs.length = k * 1) ∧ Hid (MadeO intO wr w.heap.size k vs (es.map Ed.t)) ∧ Hid (Below w.heap.size w wr) ∧ Hid (wr.ownsRow w.heap.size 2 1 (.slice (some ⟨w.heap.size, 0, none⟩) n n) n (vs ++ (madeCells #[.int .i64 0] ((n - k) * 1)).toList))) (fun _ _ i _ => n - (intOf i).toNat)
  case atStart => exact ⟨0, [], Nat.zero_le _, rfl, Lib.hid (by simp), Lib.hid (MadeO.zero _ _ _ _ _), hb1, H0⟩
  case round =>
    obtain ⟨k, vs, hk, rfl, HVS, HE, HB, HO⟩ := hrel
    obtain ⟨wo, rfl⟩ : ∃ wo : World, wo = wr := ⟨_, rfl⟩
    clear H0 hb1
    by_cases hlt : k < n
    · obtain ⟨b, o, cs, v, rfl, hb, hR, hv, hc⟩ := (H1.out.keep (SameOn.of_below HB.out HS.out)).at_ (k := k) (by rw [L.out]; exact hlt)
      have hR : cs = [Value.int .i64 v.f, Value.int .i64 v.l, Value.int .i64 v.t] := hR
      subst hR
      have f0 : wo.cell? ⟨b, o + k * 3, none⟩ = some (.int .i64 v.f) := hc 0 _ rfl
      have f1 : wo.cell? ⟨b, o + k * 3 + 1, none⟩ = some (.int .i64 v.l) := hc 1 _ rfl
      have f2 : wo.cell? ⟨b, o + k * 3 + 2, none⟩ = some (.int .i64 v.t) := hc 2 _ rfl
      have lb := World.block_lt_of_cell? wo _ f0
      have HYX := Lib.hid (show (es.map Ed.t)[k]? = some v.t by rw [List.getElem?_map, hv.out]; rfl)
      have hws : w.heap.size + 1 ≤ wo.heap.size := by
        have := (HO.out.lt _ rfl).2
        exact this
      have HBE := Lib.hid (fun ob : Obj => (Below.refl wo.heap.size wo).alloc (Nat.le_refl _) ob)
      have C := Lib.hid (fun W : World => nx1_any v.f v.l v.t W)
      clear hc hv
      go_wp2_with fail
      refine (C.out _).mono ?_
      rintro e w2 ⟨rfl, hb2⟩
      have b2 : Below wo.heap.size wo w2 := (HBE.out _).trans (hb2.mono (HBE.out _).size)
      obtain ⟨⟨old0, hx0⟩, hf0⟩ := own_some (own_below' HO.out b2) (k := k) (by omega)
      have HR := Lib.hid (show (intO).O w2 (In wo.heap.size w2.heap.size) v.t [.int .i64 v.t] from rfl)
      have HO2 := Lib.hid (own_below' HO.out b2)
      have B2 := Lib.hid b2
      have hsz := b2.size
      clear b2 hb2
      go_wp2
      go_roundw
      case rel =>
        have st0 := HO2.out.stored (k) (.int .i64 v.t)
        obtain ⟨ml, me⟩ := madeO_step intO (lo := w.heap.size) HVS.out HR.out HYX.out HE.out B2.out hws st0.2
        refine ⟨k + 1, _, by omega, by go_num, Lib.hid ml, Lib.hid me, Lib.hid ((HB.out.trans (B2.out.mono (by omega))).setCell (Nat.le_refl _) _), Lib.hid ?_⟩
        have e := set_next (F := 1) (z := #[.int .i64 0]) (n := n) HVS.out rfl ((intR).len ((intO).rd HR.out)) hlt
        rw [← e]
        simpa [setAll] using st0.1
      case measure => simp [intOf]; omega
    · obtain rfl : k = n := by omega
      have hown := HO.out
      have e0 : (madeCells #[.int .i64 0] ((k - k) * 1)).toList = [] := by simp [madeCells]
      rw [e0, List.append_nil] at hown
      have HD := Lib.hid (madeO_done intO LY.out hown HE.out)
      have HLN := Lib.hid (show (.returned (.slice (some ⟨w.heap.size, 0, none⟩) k k) : Ending) = .returned (.slice (some ⟨w.heap.size, 0, none⟩) (es.map Ed.t).length (es.map Ed.t).length) by rw [LY.out])
      clear hown e0
      go_wp2
      go_ret
      exact ⟨HLN.out, (by have h1 := HD.out; rw [← LY.out] at h1; exact h1), HB.out⟩
set_option maxRecDepth 100000 in
set_option maxHeartbeats 2000000 in
theorem nextOf_any (x : Lt) (k : Int) (A1 A2 : Option Addr) (c1 c2 : Nat) (w : World) (S : Nat → Prop) (h2 : LRow edR w S A2 x.es) (hS : ∀ b, S b → b < w.heap.size) (ok : okLt x) :
    Calls Tryz.prog 83 #[ltCells x A1 A2 c1 c2, .int .i64 k] w fun e w' => ∃ A c, e = .returned (.slice A (nxt x k).length c) ∧ OL intO 2 w' (In w.heap.size w'.heap.size) A (nxt x k).length c (nxt x k) ∧ Below w.heap.size w w' := by
  have HB := Lib.hid (fun o : Obj => (Below.refl w.heap.size w).alloc (Nat.le_refl _) o)
  have CO := Lib.hid (fun (W : World) (hW : Below w.heap.size w W) => outOf_any x k A1 A2 c1 c2 W S (h2.keep (SameOn.of_below hW hS)) (fun b hb => Nat.lt_of_lt_of_le (hS b hb) hW.size) ok)
  have hle : (outE x k).length ≤ 1048576 := by
    have h1 := ok.2.1
    have h3 : (outE x k).length ≤ x.es.length := List.length_filter_le _ _
    omega
  have HLE := Lib.hid hle
  clear h2 hS ok hle
  go_enter Tryz.func83, Tryz.ntmps83
  go_wp2_with fail
  refine (CO.out _ (HB.out _)).mono ?_
  rintro e w2 ⟨A, c, rfl, hO, hb2⟩
  have HB2 := Lib.hid ((HB.out _).trans (hb2.mono (HB.out _).size))
  have CM := Lib.hid (mapTo_any A (outE x k).length c (outE x k) w2 _ hO.lrow (fun b hb => hb.2) rfl HLE.out)
  clear hb2 hO
  go_wp2_with (go_at_call 100; refine (CM.out).mono ?_; rintro e w3 ⟨rfl, hO, hb3⟩; have HB3 := Lib.hid (HB2.out.trans (hb3.mono HB2.out.size)); have HO3 := Lib.hid (hO.more (S' := In w.heap.size w3.heap.size) (fun b hb => ⟨Nat.le_trans HB2.out.size hb.1, hb.2⟩)); clear hb3 hO)
  go_ret
  exact ⟨some ⟨w2.heap.size, 0, none⟩, (outE x k).length, by rw [show (nxt x k).length = (outE x k).length from List.length_map _]; rfl, by
    have h := HO3.out
    show OL intO 2 w3 _ _ ((outE x k).map Ed.t).length _ ((outE x k).map Ed.t)
    rw [List.length_map] at h ⊢
    exact h, HB3.out⟩
theorem zeroBo (w : World) : (zeroValue 4).run Tryz.prog w = .ok (.bool false) w := by kernel_rfl
set_option maxRecDepth 100000 in
set_option maxHeartbeats 8000000 in
theorem reached_any (x : Lt) (A1 A2 : Option Addr) (c1 c2 : Nat) (A : Option Addr) (c : Nat) (w : World) (S S2 : Nat → Prop) (h2 : LRow edR w S A2 x.es) (hS : ∀ b, S b → b < w.heap.size) (ok : okLt x) (tv : ltB x = true) (hr : LRow intR w S2 A [x.ini]) (hS2 : ∀ b, S2 b → b < w.heap.size) :
    Calls Tryz.prog 62 #[.slice A 1 c, .func (.func 83) #[ltCells x A1 A2 c1 c2] #[]] w fun e w' => ∃ A c, e = .returned (.slice A (rchL x).length c) ∧ OL intO 2 w' (In w.heap.size w'.heap.size) A (rchL x).length c (rchL x) ∧ Below w.heap.size w w' := by
  have hmm := @run_makeMap Tryz.prog
  have law := int_keyed Tryz.underlying2
  have CL := Lib.hid (fun (W : World) (hW : Below w.heap.size w W) => cloneInt_any A 1 c [x.ini] W S2 (LRow.keep (F := intR) hr (SameOn.of_below hW hS2)) (fun b hb => Nat.lt_of_lt_of_le (hS2 b hb) hW.size) rfl (by decide))
  have CN := Lib.hid (fun (k : Int) (W : World) (hW : Below w.heap.size w W) => nextOf_any x k A1 A2 c1 c2 W S (h2.keep (SameOn.of_below hW hS)) (fun b hb => Nat.lt_of_lt_of_le (hS b hb) hW.size) ok)
  have TV := Lib.hid tv
  have HNX := Lib.hid (fun k : Int => (show (nxt x k).length ≤ 300 from Nat.le_trans (nxt_len x k) (ltB_parts tv).2.2.2.1))
  have hm0 := Lib.hid (World.ownsMap_made w Tryz.prog 2 (plainElem (H := Unit) Tryz.prog 4))
  have hb0 := Lib.hid ((Below.refl w.heap.size w).alloc (Nat.le_refl _) (.map #[] 0))
  clear h2 hS ok tv hr hS2
  go_enter Tryz.func62, Tryz.ntmps62
  go_wp2_with fail
  refine (CL.out _ hb0.out).mono ?_
  rintro e w2 ⟨B, d, rfl, hO, hb2⟩
  have HB2 := Lib.hid (hb0.out.trans (hb2.mono hb0.out.size))
  have HM2 := Lib.hid (owns_bel hm0.out hb2)
  have HQ2 := Lib.hid (show Que w2 w.heap.size B 1 d [x.ini] from que_of_ol hO (fun b hb => Nat.le_trans hb0.out.size hb.1))
  clear hO hb2 hm0 hb0 CL hmm
  go_wp2
  go_loopw [6] (fun v wr => ∃ (ks ws : List Int) (Dm : DataW Unit) (A : Option Addr) (n c : Nat), v = .slice A n c ∧ Hid (Srch x ks ws) ∧ Hid (SetIs Dm ks) ∧ Hid (wr.ownsMap Tryz.prog 2 (plainElem (H := Unit) Tryz.prog 4) w.heap.size ks.length Dm) ∧ Hid (Que wr w.heap.size A n c ws) ∧ Hid (Below w.heap.size w wr) ∧ n ≤ 1 + 300 * ks.length) (fun v wr => (40 - mapSize wr w.heap.size) * 301 + qLen v)
  case atStart => exact ⟨[], _, _, _, _, _, rfl, Lib.hid (Srch.start x), Lib.hid SetIs.nil, HM2, HQ2, HB2, by simp⟩
  case round =>
    clear HB2 HM2 HQ2
    obtain ⟨ks, ws, Dm, A, n, c, rfl, HSR, HSE, HM, HQ, HB, hnk⟩ := hrel
    have hsz := HB.out.size
    have HK40 := srch_len TV.out HSR.out
    have HMN := Lib.hid (show mapSize wr w.heap.size = ks.length by rw [mapN HM.out, HSE.out.size])
    rcases Nat.eq_zero_or_pos n with h0 | hpos
    · have hws : ws = [] := List.eq_nil_of_length_eq_zero (by rw [HQ.out.1]; exact h0)
      subst h0
      subst hws
      have CS := Lib.hid (Tryz.sorted_call w.heap.size ks.length Dm (plainElem (H := Unit) Tryz.prog 4) wr HM.out (by have := HSE.out.size; unfold maxLen; omega) (by have := HSE.out.size; omega))
      have HPK := Lib.hid (CollectedI.perm (left := fun _ => false) (show CollectedI Dm (fun _ => false) ks from ⟨HSR.out.nd, fun u => by rw [HSE.out.has]; simp⟩) HM.out law Tryz.underlying2 (fun _ => rfl))
      clear hnk HQ
      go_wp2_with (first
        | (go_at_call 89; refine (Tryz.keys_call _ _).mono ?_; rintro e w3 ⟨rfl, rfl⟩)
        | (go_at_call 88; refine (CS.out).mono ?_; rintro e w4 ⟨v, ss, rfl, hperm, hrow, _, hb4⟩; have HP := Lib.hid hperm; have HRW := Lib.hid hrow; have HB4 := Lib.hid hb4; clear hperm hrow hb4))
      have HE := Lib.hid (show ss.mergeSort (fun a b => decide (a ≤ b)) = rchL x from up_sort ((HP.out.trans HPK.out.symm).symm.nodup HSR.out.nd) (rchL_up x) (fun k => by rw [(HP.out.trans HPK.out.symm).mem_iff, HSR.out.done k, mem_rchL TV.out]))
      obtain ⟨A', c', rfl⟩ := own_slice HRW.out
      go_ret
      have hl : (rchL x).length = ss.length := by rw [← HE.out, List.length_mergeSort]
      have hbw : Below w.heap.size w w4 := (HB.out.alloc hsz _).trans (HB4.out.mono (by simp; omega))
      refine ⟨A', c', by rw [hl]; rfl, ?_, hbw⟩
      rw [hl]
      refine (ol_int (lo := _) (show w4.ownsRow _ 2 1 (.slice A' ss.length c') ss.length ((rchL x).map (Value.int .i64)) from by rw [← HE.out]; exact HRW.out) hl).more (fun b hb => ⟨Nat.le_trans (by simp; omega) hb.1, hb.2⟩)
    · obtain ⟨k, ws', hws⟩ : ∃ k ws', ws = k :: ws' := by
        cases ws with
        | nil => have := HQ.out.1; simp at this; omega
        | cons k ws' => exact ⟨k, ws', rfl⟩
      subst hws
      obtain ⟨g, off, rfl, hg, hhd⟩ := HQ.out.head
      obtain ⟨hql, hqc, _, _⟩ := HQ.out
      have HRK := Lib.hid (rch_in TV.out (HSR.out.sw k (by simp)))
      have hst := (ltB_parts TV.out).1
      have HKEY := Lib.hid (show keyOf Tryz.prog 2 (.int .i64 k) = some (.int .i64 k) from keyOf_int_mk Tryz.underlying2 (WalkArith.wf_i64 (by have := HRK.out; omega)))
      have hpz : (0 : Int) < (n : Int) := by omega
      have h1n : (1 : Int) ≤ (n : Int) := by omega
      have HQT := Lib.hid (show if c = 1 then n - 1 = 0 ∧ Que wr w.heap.size (some ⟨g, off, none⟩) 0 0 ws' else Que wr w.heap.size (some ⟨g, off + 1, none⟩) (n - 1) (c - 1) ws' from Que.tail (by rw [show n - 1 + 1 = n by omega]; exact HQ.out))
      have hlk := fun (v : Bool) (hv : decide (k ∈ ks) = v) => look_bool (x := v) HM.out law Tryz.underlying106 Tryz.underlying4 (zeroBo _) HKEY.out (by rw [HSE.out.val, hv])
      have HLK := Lib.hid hlk
      clear hlk hst hql
      by_cases hc1 : c = 1
      · subst hc1
        have HQ3 := Lib.hid (show Que wr w.heap.size (some ⟨g, off, none⟩) 0 0 ws' from by have h := HQT.out; rw [if_pos rfl] at h; exact h.2)
        have hn1 : n = 1 := by omega
        subst hn1
        by_cases hk : k ∈ ks
        · have hl1 := HLK.out true (decide_eq_true hk)
          have HS2 := Lib.hid (HSR.out.skip hk)
          clear hk
          go_wp2
          go_roundw
          case rel => exact ⟨ks, ws', Dm, _, 0, 0, rfl, HS2, HSE, HM, HQ3, HB, by omega⟩
          case measure => simp [qLen]; try omega
        · have hl1 := HLK.out false (decide_eq_false hk)
          have HS2 := Lib.hid (HSR.out.step hk)
          have HSE2 := Lib.hid (HSE.out.put (HM.out.tidy law) hk)
          have HK2 := srch_len TV.out HS2.out
          have hkl : (ks ++ [k]).length = ks.length + 1 := by simp
          clear hk
          go_wp2_with (first
            | (at_mapUpdate; refine wpList_mapUpdate_own _ rfl _ _ _ 106 rfl 2 4 law Tryz.underlying106 _ w.heap.size ks.length Dm rfl HM.out (by unfold maxLen; omega) _ _ (.int .i64 k) rfl rfl HKEY.out _ [] (plainElem_bool Tryz.underlying4 true) ?_; intro w2 hmap2 hg2; have HM2 := Lib.hid hmap2; have HQ4 := Lib.hid (que_map HQ3.out HM.out hg2); have HB2 := Lib.hid (HB.out.grown hg2 hsz (fun j hj => by cases hj; exact Nat.le_refl _)); clear hmap2 hg2)
            | (go_at_call 83; refine (CN.out _ _ HB2.out).mono ?_; rintro e w3 ⟨A5, c5, rfl, hO, hb3⟩; have HO5 := Lib.hid hO; have HB3 := Lib.hid (HB2.out.trans (hb3.mono HB2.out.size)); have HQ5 := Lib.hid (HQ4.out.keep hb3); have HM3 := Lib.hid (owns_bel HM2.out hb3); have hx300 := HNX.out k; clear hO hb3)
            | (at_builtin; refine wpList_append_que rfl _ _ rfl (lo := w.heap.size) (A := (some ⟨g, off, none⟩)) (n := 0) (c := 0) (ws := ws') rfl HQ5.out HB3.out.size (A2 := A5) (m := (nxt x k).length) (c2 := c5) (news := nxt x k) rfl HO5.out.lrow rfl (by omega) ?_; intro A6 c6 w6 hq6 hb6 hk6; have HQ6 := Lib.hid hq6; have HB6 := Lib.hid (HB3.out.trans hb6); have HM6 := Lib.hid (owns_kpt HM3.out hk6); clear hq6 hb6 hk6))
          have HMN2 := Lib.hid (show mapSize w6 w.heap.size = ks.length + 1 by rw [mapN HM6.out, HSE2.out.size, hkl])
          have HQ6 := Lib.hid (show Que w6 w.heap.size A6 (nxt x k).length c6 (ws' ++ nxt x k) from by have h := HQ6.out; rwa [Nat.zero_add] at h)
          go_roundw
          case rel => exact ⟨ks ++ [k], ws' ++ nxt x k, _, A6, _, c6, rfl, HS2, HSE2, by rw [hkl]; exact HM6, HQ6, HB6, by rw [hkl]; omega⟩
          case measure =>
            have h1 := HMN.out
            have h2 := HMN2.out
            have h3 := HNX.out k
            simp only [h1, h2]
            simp [qLen]
            omega
      · have hc2 : ¬ c - 1 = 0 := by omega
        have HQ3 := Lib.hid (show Que wr w.heap.size (some ⟨g, off + 1, none⟩) (n - 1) (c - 1) ws' from by have h := HQT.out; rw [if_neg hc1] at h; exact h)
        by_cases hk : k ∈ ks
        · have hl1 := HLK.out true (decide_eq_true hk)
          have HS2 := Lib.hid (HSR.out.skip hk)
          clear hk
          go_wp2
          go_roundw
          case rel => exact ⟨ks, ws', Dm, _, (n - 1), (c - 1), rfl, HS2, HSE, HM, HQ3, HB, by omega⟩
          case measure => simp [qLen]; try omega
        · have hl1 := HLK.out false (decide_eq_false hk)
          have HS2 := Lib.hid (HSR.out.step hk)
          have HSE2 := Lib.hid (HSE.out.put (HM.out.tidy law) hk)
          have HK2 := srch_len TV.out HS2.out
          have hkl : (ks ++ [k]).length = ks.length + 1 := by simp
          clear hk
          go_wp2_with (first
            | (at_mapUpdate; refine wpList_mapUpdate_own _ rfl _ _ _ 106 rfl 2 4 law Tryz.underlying106 _ w.heap.size ks.length Dm rfl HM.out (by unfold maxLen; omega) _ _ (.int .i64 k) rfl rfl HKEY.out _ [] (plainElem_bool Tryz.underlying4 true) ?_; intro w2 hmap2 hg2; have HM2 := Lib.hid hmap2; have HQ4 := Lib.hid (que_map HQ3.out HM.out hg2); have HB2 := Lib.hid (HB.out.grown hg2 hsz (fun j hj => by cases hj; exact Nat.le_refl _)); clear hmap2 hg2)
            | (go_at_call 83; refine (CN.out _ _ HB2.out).mono ?_; rintro e w3 ⟨A5, c5, rfl, hO, hb3⟩; have HO5 := Lib.hid hO; have HB3 := Lib.hid (HB2.out.trans (hb3.mono HB2.out.size)); have HQ5 := Lib.hid (HQ4.out.keep hb3); have HM3 := Lib.hid (owns_bel HM2.out hb3); have hx300 := HNX.out k; clear hO hb3)
            | (at_builtin; refine wpList_append_que rfl _ _ rfl (lo := w.heap.size) (A := (some ⟨g, off + 1, none⟩)) (n := (n - 1)) (c := (c - 1)) (ws := ws') rfl HQ5.out HB3.out.size (A2 := A5) (m := (nxt x k).length) (c2 := c5) (news := nxt x k) rfl HO5.out.lrow rfl (by omega) ?_; intro A6 c6 w6 hq6 hb6 hk6; have HQ6 := Lib.hid hq6; have HB6 := Lib.hid (HB3.out.trans hb6); have HM6 := Lib.hid (owns_kpt HM3.out hk6); clear hq6 hb6 hk6))
          have HMN2 := Lib.hid (show mapSize w6 w.heap.size = ks.length + 1 by rw [mapN HM6.out, HSE2.out.size, hkl])
          go_roundw
          case rel => exact ⟨ks ++ [k], ws' ++ nxt x k, _, A6, _, c6, rfl, HS2, HSE2, by rw [hkl]; exact HM6, HQ6, HB6, by rw [hkl]; omega⟩
          case measure =>
            have h1 := HMN.out
            have h2 := HMN2.out
            have h3 := HNX.out k
            simp only [h1, h2]
            simp [qLen]
            omega
theorem rchR_le (x : Lt) : (rchR x).length ≤ 40 := by
  rcases h : ltB x with _ | _
  · rw [rchR_no h]; exact Nat.zero_le _
  · rw [rchR_yes h]; exact ok_rch h
theorem ok_rchR (x : Lt) : okList okAny (rchR x) := ⟨by have h := rchR_le x; omega, fun _ _ => trivial⟩
theorem cnt_rchR (x : Lt) : cntL intM (rchR x) ≤ 100000000 := by
  have h1 := cnt_int (rchR x)
  have h2 := wL_z (rchR x)
  have h3 := rchR_le x
  omega
set_option maxRecDepth 100000 in
set_option maxHeartbeats 2000000 in
theorem implRch_any {x : Lt} {cs : List Value} {w : World} {S : Nat → Prop} (h : ltR.R w S x cs) (hS : ∀ b, S b → b < w.heap.size) (ok : okLt x) (ht : TxtTabs w) :
    Calls Tryz.prog 51 #[.agg cs.toArray] w fun e w' => ∃ A c, e = .returned (.tuple #[.slice A (rchR x).length c, .int .i64 (rchC x)]) ∧ OL intO 2 w' (In w.heap.size w'.heap.size) A (rchR x).length c (rchR x) ∧ Below w.heap.size w w' := by
  have HV0 := Lib.hid (fun (W : World) (hW : Below w.heap.size w W) => implValid_any (ltR.keep h (SameOn.of_below hW hS)) (fun b hb => Nat.lt_of_lt_of_le (hS b hb) hW.size) ok (ht.below hW))
  obtain ⟨A1, c1, A2, c2, rfl, ⟨m1, m3, r1⟩, ⟨m2, m4, r2⟩⟩ := h
  have HB := Lib.hid (fun o : Obj => (Below.refl w.heap.size w).alloc (Nat.le_refl _) o)
  have CR := Lib.hid (fun (tv : ltB x = true) (W : World) (hW : Below w.heap.size w W) (g : Nat) (hg : g < W.heap.size) (z : W.cell? ⟨g, 0, none⟩ = some (.int .i64 x.ini)) => reached_any x A1 A2 c1 c2 (some ⟨g, 0, none⟩) 1 W S (· < W.heap.size) (r2.keep (SameOn.of_below hW hS)) (fun b hb => Nat.lt_of_lt_of_le (hS b hb) hW.size) ok tv (show LRow intR W (· < W.heap.size) (some ⟨g, 0, none⟩) [x.ini] from ⟨[.int .i64 x.ini], fun _ => ⟨g, 0, rfl, hg, fun i v hi => by
    match i, hi with
    | 0, hi => injection hi with hi; subst hi; exact z⟩, rfl, fun j y hy => by
    match j, hy with
    | 0, hy => injection hy with hy; subst hy; rfl⟩) (fun b hb => hb))
  clear r1 r2 hS ok ht
  go_enter Tryz.func51, Tryz.ntmps51
  go_wp2_with fail
  refine (HV0.out _ (HB.out _)).mono ?_
  rintro e w2 ⟨rfl, hb2⟩
  have hs2 := hb2.size
  simp at hs2
  obtain ⟨hcc, _⟩ := bcell hb2
  have HB2 := Lib.hid ((HB.out _).trans (hb2.mono (HB.out _).size))
  have y0 : w2.cell? ⟨w.heap.size, 0, none⟩ = some (.int .i64 x.st) := (hcc _ _ (by simp)).trans (by simp [go_sem])
  have y1 : w2.cell? ⟨w.heap.size, 1, none⟩ = some (.int .i64 x.ini) := (hcc _ _ (by simp)).trans (by simp [go_sem])
  have y2 : w2.cell? ⟨w.heap.size, 2, none⟩ = some (.slice A1 x.ls.length c1) := (hcc _ _ (by simp)).trans (by simp [go_sem])
  have y3 : w2.cell? ⟨w.heap.size, 3, none⟩ = some (.slice A2 x.es.length c2) := (hcc _ _ (by simp)).trans (by simp [go_sem])
  have hpb : w.heap.size < w2.heap.size := by omega
  clear hb2 hcc hs2
  rcases tv : ltB x with _ | _
  · have HF := Lib.hid (rchC_no tv)
    have HG := Lib.hid (rchR_no tv)
    clear tv
    go_wp2
    go_ret2
    exact ⟨none, 0, by rw [HF.out, HG.out]; rfl, by rw [HG.out]; exact OL.nil, HB2.out⟩
  · have HF := Lib.hid (rchC_yes tv)
    have HG := Lib.hid (rchR_yes tv)
    have C3 := Lib.hid (CR.out tv)
    have HS3 := Lib.hid HB2.out.size
    clear tv
    go_wp2_with fail
    refine (C3.out _ (HB2.out.alloc HB2.out.size _) w2.heap.size (by simp) (by simp [go_sem])).mono ?_
    rintro e w4 ⟨A, c, rfl, hO, hb4⟩
    have HB4 := Lib.hid ((HB2.out.alloc HB2.out.size _).trans (hb4.mono (Nat.le_trans HB2.out.size (by simp))))
    have HO := Lib.hid (hO.more (S' := In w.heap.size w4.heap.size) (fun b hb => ⟨Nat.le_trans HS3.out (Nat.le_trans (by simp) hb.1), hb.2⟩))
    clear hb4 hO
    go_wp2
    go_ret2
    exact ⟨A, c, by (rw [HG.out, HF.out]; rfl), by rw [HG.out]; exact HO.out, HB4.out⟩
end Go.Proofs.YtbailpfjgjcbdaaGreatDoor

namespace Go.Proofs.YtbailpfjgjcbdaaGreatDoor
open Go.RowKit
set_option linter.unusedVariables false
set_option linter.unusedSimpArgs false
/-- A state without edges. -/
def dedB (x : Lt) (k : Int) : Bool := x.es.all fun e => !(e.f == k)
theorem dedB_out (x : Lt) (k : Int) : ((outE x k).length == 0) = dedB x k := by
  unfold outE dedB
  rw [Bool.eq_iff_iff]
  simp [List.all_eq_true]
noncomputable def dedR (x : Lt) : List Int := (rchR x).filter (dedB x)
theorem dedR_no {x : Lt} (h : ltB x = false) : dedR x = [] := by unfold dedR; rw [rchR_no h]; rfl
theorem dedR_yes {x : Lt} (h : ltB x = true) : dedR x = (rchL x).filter (dedB x) := by unfold dedR; rw [rchR_yes h]
theorem dedR_le (x : Lt) : (dedR x).length ≤ 40 := Nat.le_trans (List.length_filter_le _ _) (rchR_le x)
theorem ok_dedR (x : Lt) : okList okAny (dedR x) := ⟨by have h := dedR_le x; omega, fun _ _ => trivial⟩
theorem cnt_dedR (x : Lt) : cntL intM (dedR x) ≤ 100000000 := by
  have h1 := cnt_int (dedR x)
  have h2 := wL_z (dedR x)
  have h3 := dedR_le x
  omega
theorem ft_yes {x : Lt} {xs : List Int} {j : Nat} {k : Int} (h : xs[j]? = some k) (hd : dedB x k = true) : (xs.take (j + 1)).filter (dedB x) = (xs.take j).filter (dedB x) ++ [k] := by
  rw [take_one _ _ _ h, List.filter_append]; simp [hd]
theorem ft_no {x : Lt} {xs : List Int} {j : Nat} {k : Int} (h : xs[j]? = some k) (hd : dedB x k = false) : (xs.take (j + 1)).filter (dedB x) = (xs.take j).filter (dedB x) := by
  rw [take_one _ _ _ h, List.filter_append]; simp [hd]
theorem int_row {w : World} {S : Nat → Prop} {B : Option Addr} {p : List Int} (h : LRow intR w S B p) {k : Nat} (hk : k < p.length) : ∃ b o i, B = some ⟨b, o, none⟩ ∧ S b ∧ w.cell? ⟨b, o + k, none⟩ = some (.int .i64 i) ∧ Hid (p[k]? = some i) := by
  obtain ⟨b, o, cs, i, rfl, hb, hR, hi, hc⟩ := h.at_ (k := k) hk
  have hR : cs = [Value.int .i64 i] := hR
  subst hR
  exact ⟨b, o, i, rfl, hb, by have := hc 0 _ rfl; simpa [intR] using this, hi⟩
end Go.Proofs.YtbailpfjgjcbdaaGreatDoor

namespace Go.Proofs.YtbailpfjgjcbdaaGreatDoor
open Go.RowKit
set_option linter.unusedVariables false
set_option linter.unusedSimpArgs false
set_option maxRecDepth 100000 in
theorem en1_any (a b t k : Int) (g : Nat) (w : World) (y : w.cell? ⟨g, 0, none⟩ = some (.int .i64 k)) : Calls Tryz.prog 81 #[.agg #[.int .i64 a, .int .i64 b, .int .i64 t], .pointer (some ⟨g, 0, none⟩)] w fun e w' => e = .returned (.bool (a == k)) ∧ Below w.heap.size w w' := by
  have HB := Lib.hid (fun o : Obj => (Below.refl w.heap.size w).alloc (Nat.le_refl _) o)
  have hg := World.block_lt_of_cell? w _ y
  go_enter Tryz.func81, Tryz.ntmps81
  go_wp2
  go_ret
  exact ⟨rfl, HB.out _⟩
def IdxE (p : Ed → Bool) (xs : List Ed) (w : World) (e : Ending) (w' : World) : Prop := ∃ r : Int, e = .returned (.int .i64 r) ∧ ((xs.all (fun v => !(p v)) = true ∧ r = -1) ∨ (xs.all (fun v => !(p v)) = false ∧ 0 ≤ r)) ∧ Below w.heap.size w w'
set_option maxRecDepth 100000 in
set_option maxHeartbeats 2000000 in
theorem idxEnd_any (A : Option Addr) (n c : Nat) (es : List Ed) (k : Int) (g : Nat) (w : World) (S : Nat → Prop) (h : LRow edR w S A es) (hS : ∀ b, S b → b < w.heap.size) (l : es.length = n) (m : n ≤ maxLen) (y : w.cell? ⟨g, 0, none⟩ = some (.int .i64 k)) :
    Calls Tryz.prog 98 #[.slice A n c, .func (.func 81) #[] #[.pointer (some ⟨g, 0, none⟩)]] w (IdxE (fun e => e.f == k) es w) := by
  unfold maxLen at m
  have hgl := World.block_lt_of_cell? w _ y
  have Y := Lib.hid (fun (W : World) (hW : Below w.heap.size w W) => (hW.cell (p := ⟨g, 0, none⟩) hgl).trans y)
  have L := Lib.hid l
  have HR := Lib.hid h
  have HS := Lib.hid hS
  clear h hS l y
  go_enter Tryz.func98, Tryz.ntmps98
  go_wp2
  go_loopw [8] (fun i wr => ∃ j : Nat, j ≤ n ∧ i = .int .i64 (j : Int) ∧ Hid (Below w.heap.size w wr) ∧ Hid ((es.take j).all (fun v => !(v.f == k)) = true)) (fun i _ => n - (intOf i).toNat)
  case atStart => exact ⟨0, Nat.zero_le _, rfl, Lib.hid (Below.refl _ _), Lib.hid rfl⟩
  case round =>
    obtain ⟨j, hj, rfl, HB, HE⟩ := hrel
    have hsz := HB.out.size
    by_cases hlt : j < n
    · obtain ⟨b, o, cs, v, rfl, hb, hR, hv, hc⟩ := (HR.out.keep (SameOn.of_below HB.out HS.out)).at_ (k := j) (by rw [L.out]; exact hlt)
      have hR : cs = [Value.int .i64 v.f, Value.int .i64 v.l, Value.int .i64 v.t] := hR
      subst hR
      have f0 : wr.cell? ⟨b, o + j * 3, none⟩ = some (.int .i64 v.f) := hc 0 _ rfl
      have f1 : wr.cell? ⟨b, o + j * 3 + 1, none⟩ = some (.int .i64 v.l) := hc 1 _ rfl
      have f2 : wr.cell? ⟨b, o + j * 3 + 2, none⟩ = some (.int .i64 v.t) := hc 2 _ rfl
      have lb := World.block_lt_of_cell? wr _ f0
      have C := Lib.hid (en1_any v.f v.l v.t k g wr (Y.out _ HB.out))
      clear hc
      rcases te : (v.f == k) with _ | _
      · have HN := Lib.hid (all_take_next (p := fun v : Ed => !(v.f == k)) HE.out hv.out (by rw [te]; rfl))
        rw [te] at C
        clear te
        go_wp2_with (go_at_call 81; refine (C.out).mono ?_; rintro e w3 ⟨rfl, hb3⟩; have HB3 := Lib.hid (HB.out.trans (hb3.mono hsz)); clear hb3)
        go_roundw
        case rel => exact ⟨j + 1, by omega, by go_num, HB3, HN⟩
        case measure => simp [intOf]; omega
      · have HN := Lib.hid (all_false (p := fun v : Ed => !(v.f == k)) hv.out (by rw [te]; rfl))
        rw [te] at C
        clear te
        go_wp2_with (go_at_call 81; refine (C.out).mono ?_; rintro e w3 ⟨rfl, hb3⟩; have HB3 := Lib.hid (HB.out.trans (hb3.mono hsz)); clear hb3)
        go_ret
        exact ⟨_, rfl, .inr ⟨HN.out, by omega⟩, HB3.out⟩
    · have HN := Lib.hid (show es.all (fun v => !(v.f == k)) = true by
        have ht := HE.out
        rwa [List.take_of_length_le (by rw [L.out]; omega)] at ht)
      go_wp2
      go_ret
      exact ⟨_, rfl, .inl ⟨HN.out, rfl⟩, HB.out⟩
set_option maxRecDepth 100000 in
theorem conEnd_any (A : Option Addr) (n c : Nat) (es : List Ed) (k : Int) (g : Nat) (w : World) (S : Nat → Prop) (h : LRow edR w S A es) (hS : ∀ b, S b → b < w.heap.size) (l : es.length = n) (m : n ≤ maxLen) (y : w.cell? ⟨g, 0, none⟩ = some (.int .i64 k)) :
    Calls Tryz.prog 75 #[.slice A n c, .func (.func 81) #[] #[.pointer (some ⟨g, 0, none⟩)]] w fun e w' => e = .returned (.bool (!(es.all fun v => !(v.f == k)))) ∧ Below w.heap.size w w' := by
  have C := Lib.hid (idxEnd_any A n c es k g w S h hS l m y)
  clear h hS l y
  go_enter Tryz.func75, Tryz.ntmps75
  go_wp2_with fail
  refine (C.out).mono ?_
  rintro e w2 ⟨r, rfl, (⟨h1, rfl⟩ | ⟨h1, h2⟩), hb⟩
  · have HB := Lib.hid hb
    have H1 := Lib.hid h1
    clear hb h1
    go_wp2
    go_ret
    exact ⟨by rw [H1.out]; rfl, HB.out⟩
  · have HB := Lib.hid hb
    have H1 := Lib.hid h1
    clear hb h1
    go_wp2
    go_ret
    exact ⟨by rw [H1.out]; rfl, HB.out⟩
set_option maxRecDepth 100000 in
set_option maxHeartbeats 2000000 in
theorem isEnd_any (x : Lt) (k : Int) (A1 A2 : Option Addr) (c1 c2 : Nat) (w : World) (S : Nat → Prop) (h2 : LRow edR w S A2 x.es) (hS : ∀ b, S b → b < w.heap.size) (m : x.es.length ≤ maxLen) :
    Calls Tryz.prog 48 #[ltCells x A1 A2 c1 c2, .int .i64 k] w fun e w' => e = .returned (.bool (dedB x k)) ∧ Below w.heap.size w w' := by
  have HB := Lib.hid (fun o1 o2 : Obj => ((Below.refl w.heap.size w).alloc (Nat.le_refl _) o1).alloc (by simp) o2)
  have C := Lib.hid (fun (W : World) (hW : Below w.heap.size w W) (g : Nat) (y : W.cell? ⟨g, 0, none⟩ = some (.int .i64 k)) => conEnd_any A2 x.es.length c2 x.es k g W S (h2.keep (SameOn.of_below hW hS)) (fun b hb => Nat.lt_of_lt_of_le (hS b hb) hW.size) rfl m y)
  have HD := Lib.hid (show (x.es.all fun v => !(v.f == k)) = dedB x k from rfl)
  clear h2 hS m
  go_enter Tryz.func48, Tryz.ntmps48
  go_wp2_with fail
  refine (C.out _ (HB.out _ _) (w.heap.size + 1) (by simp [go_sem])).mono ?_
  rw [HD.out]
  rintro e w2 ⟨rfl, hb2⟩
  have HB2 := Lib.hid ((HB.out _ _).trans (hb2.mono (HB.out _ _).size))
  clear hb2
  go_wp2
  go_ret
  exact ⟨by simp, HB2.out⟩
/-- The numbers of an owned list, as a row. -/
theorem own_of_ol {w : World} {lo hi n c : Nat} {A : Option Addr} {xs : List Int} {T : TypeId} (h : OL intO T w (In lo hi) A n c xs) : w.ownsRow lo T 1 (.slice A n c) n (xs.map (Value.int .i64)) := by
  have htop := h.top
  obtain ⟨hl, _, vs, E, h1, h2, _⟩ := h
  have e : vs = xs.map (Value.int .i64) := by
    apply List.ext_getElem?
    intro j
    have hvl : vs.length = n * 1 := h1.1
    rw [List.getElem?_map]
    by_cases hj : j < n
    · have hx : xs[j]? = some xs[j] := List.getElem?_eq_getElem (by omega)
      have h3 : ((vs.drop (j * 1)).take 1) = [Value.int .i64 xs[j]] := h2 j _ hx
      have h4 : ((vs.drop (j * 1)).take 1)[0]? = some (Value.int .i64 xs[j]) := by rw [h3]; rfl
      rw [List.getElem?_take, if_pos (by decide), List.getElem?_drop, Nat.add_zero, Nat.mul_one] at h4
      rw [h4, hx]; rfl
    · rw [List.getElem?_eq_none (by omega), List.getElem?_eq_none (by omega)]; rfl
  subst e
  refine ⟨h1.1, ?_⟩
  rcases h1.2 with h3 | ⟨g, cap, cur, e1, _, h4⟩
  · exact .inl h3
  · refine .inr ⟨g, cap, cur, e1, ?_, h4⟩
    have h5 := htop g (by rw [e1]; rfl)
    exact h5.1
def IdxI (x : Lt) (xs : List Int) (w : World) (e : Ending) (w' : World) : Prop := ∃ r : Int, e = .returned (.int .i64 r) ∧ ((xs.all (dedB x) = true ∧ r = -1) ∨ ∃ i : Nat, r = (i : Int) ∧ i < xs.length ∧ (xs.take i).all (dedB x) = true ∧ ∃ v, xs[i]? = some v ∧ dedB x v = false) ∧ Below w.heap.size w w'
/-- A row of the call's own, cut short, the rest of it written over. -/
theorem own_cut {w : World} {lo g n c i : Nat} {ys : List Int} {T : TypeId} (h : w.ownsRow lo T 1 (.slice (some ⟨g, 0, none⟩) n c) n (ys.map (Value.int .i64))) (hi : i ≤ n) : ∀ (vs : List Value) (o : Nat), i ≤ o → (w.setCells g o vs).ownsRow lo T 1 (.slice (some ⟨g, 0, none⟩) i c) i ((ys.take i).map (Value.int .i64))
  | [], o, _ => by
    rcases h.2 with ⟨e, _⟩ | ⟨g', cap, cur, e, h1, h2, h3, h4, h5, h6⟩
    · cases e
    · injection e with e1 _ e2
      injection e1 with e1
      injection e1 with e1
      subst e1 e2
      have hl : ys.length = n := by have := h.1; rw [List.length_map] at this; omega
      refine ⟨by rw [List.length_map, List.length_take]; omega, .inr ⟨_, _, cur, rfl, h1, h2, by omega, h4, h5, ?_⟩⟩
      rw [Nat.mul_one, List.map_take, ← h6, Nat.mul_one, List.take_take, Nat.min_eq_left hi]
  | v :: r, o, ho => by
    have h1 := (h.stored o v).1
    have h2 : (w.setCell ⟨g, o, none⟩ v).ownsRow lo T 1 (.slice (some ⟨g, 0, none⟩) i c) i ((ys.take i).map (Value.int .i64)) := by
      rcases h1.2 with ⟨e, _⟩ | ⟨g', cap, cur, e, a1, a2, a3, a4, a5, a6⟩
      · cases e
      · injection e with e1 _ e2
        injection e1 with e1
        injection e1 with e1
        subst e1 e2
        have hl : ys.length = n := by have := h.1; rw [List.length_map] at this; omega
        refine ⟨by rw [List.length_map, List.length_take]; omega, .inr ⟨_, _, cur, rfl, a1, a2, by omega, a4, a5, ?_⟩⟩
        have e6 : (cur.toList.take (n * 1)).take i = ((ys.map (Value.int .i64)).set o v).take i := by rw [a6]
        rw [List.take_take, Nat.mul_one, Nat.min_eq_left hi] at e6
        rw [Nat.mul_one, e6, List.map_take]
        rw [List.take_set_of_le (by omega)]
    have h3 := own_cut (ys := ys.take i) h2 (Nat.le_refl i) r (o + 1) (by omega)
    unfold World.setCells
    rwa [List.take_take, Nat.min_self] at h3
theorem cells_below (g : Nat) : ∀ (vs : List Value) (o : Nat) {lo : Nat} {w0 w : World}, Below lo w0 w → lo ≤ g → Below lo w0 (w.setCells g o vs)
  | [], _, _, _, _, h, _ => h
  | v :: r, o, _, _, w, h, hg => cells_below g r (o + 1) (h.setCell (p := ⟨g, o, none⟩) hg v) hg
theorem kept_all {x : Lt} {xs : List Int} (h : xs.all (dedB x) = true) : xs.filter (dedB x) = xs := List.filter_eq_self.2 (List.all_eq_true.1 h)
end Go.Proofs.YtbailpfjgjcbdaaGreatDoor
