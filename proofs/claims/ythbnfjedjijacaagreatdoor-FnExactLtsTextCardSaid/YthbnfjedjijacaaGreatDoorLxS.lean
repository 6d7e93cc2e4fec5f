/- The text of a transition system, the model's way. -/
import Derived.Deep.RegionHeld3
import Derived.BigQuiet
import Derived.Test.YthbnfjedjijacaaGreatDoorLxI
import Derived.Test.YthbnfjedjijacaaGreatDoorLtO
namespace Go.Proofs.YthbnfjedjijacaaGreatDoor
open Go.RowKit Go.Lib
set_option linter.unusedVariables false
set_option maxRecDepth 100000 in
set_option maxHeartbeats 4000000 in
theorem l11Text_any (x : Lt) (pt : Nat) (A1 A2 : Option Addr) (c1 c2 : Nat) (w : World) (S : Nat → Prop) (y0 : w.cell? ⟨pt, 0, none⟩ = some (.int .i64 x.st)) (y1 : w.cell? ⟨pt, 1, none⟩ = some (.int .i64 x.ini)) (y2 : w.cell? ⟨pt, 2, none⟩ = some (.slice A1 x.ls.length c1)) (y3 : w.cell? ⟨pt, 3, none⟩ = some (.slice A2 x.es.length c2)) (h1 : LRow txtR w S A1 x.ls) (h2 : LRow edR w S A2 x.es) (hS : ∀ b, S b → b < w.heap.size) (ok : okLt x) (hv : ltB x = true) :
    Calls Tryz.prog 34 #[.pointer (some ⟨pt, 0, none⟩)] w fun e w' => e = .returned (.string ⟨(join (ltxP x) [124]).toArray⟩) ∧ Below w.heap.size w w' := by
  have hpt := World.block_lt_of_cell? w _ y0
  obtain ⟨PS1, hp1⟩ : ∃ PS1, PS1 = labT x := ⟨_, rfl⟩
  obtain ⟨PS2, hp2⟩ : ∃ PS2, PS2 = x.es.map edgeT := ⟨_, rfl⟩
  obtain ⟨PRE1, hr1⟩ : ∃ PRE1, PRE1 = headT x ++ [124] := ⟨_, rfl⟩
  obtain ⟨PRE2, hr2⟩ : ∃ PRE2, PRE2 = PRE1 ++ partT PS1 ++ [124] := ⟨_, rfl⟩
  have HPS1 := Lib.hid hp1
  have HPS2 := Lib.hid hp2
  have HPR1 := Lib.hid hr1
  have HPR2 := Lib.hid hr2
  obtain ⟨hl1, hl12⟩ := ls_len hv
  have he300 : x.es.length ≤ 300 := (ltB_parts hv).2.2.2.1
  have hlen1 : PS1.length = x.ls.length - 1 := by rw [hp1, labT_len]
  have SZ0 := Lib.hid (show PRE1.length ≤ 45 by have := head_short hv; rw [hr1, List.length_append, List.length_singleton]; omega)
  have SZ1 := Lib.hid (fun k : Nat => show (acc PRE1 PS1 k).size ≤ 20000000 by
    have h := acc_size (pre := PRE1) (k := k) (show ∀ p ∈ PS1, p.length ≤ 1048576 by rw [hp1]; exact lab_short ok)
    have h5 : PS1.length * (1048576 + 1) ≤ 12 * (1048576 + 1) := Nat.mul_le_mul_right _ (by omega)
    have := SZ0.out
    omega)
  have SZ2 := Lib.hid (fun k : Nat => show (acc PRE2 PS2 k).size ≤ 40000000 by
    have h := acc_size (pre := PRE2) (k := k) (show ∀ p ∈ PS2, p.length ≤ 66 by rw [hp2]; exact edge_short hv)
    have h5 : PS2.length * (66 + 1) ≤ 300 * (66 + 1) := Nat.mul_le_mul_right _ (by rw [hp2, List.length_map]; exact he300)
    have h6 := part_short2 (show ∀ p ∈ PS1, p.length ≤ 1048576 by rw [hp1]; exact lab_short ok)
    have h7 : PS1.length * (1048576 + 1) ≤ 12 * (1048576 + 1) := Nat.mul_le_mul_right _ (by omega)
    have := SZ0.out
    have h8 : PRE2.length = PRE1.length + (partT PS1).length + 1 := by rw [hr2]; simp; omega
    omega)
  have HFIN := Lib.hid (show (⟨(PRE2 ++ partT PS2).toArray⟩ : ByteArray) = ⟨(join (ltxP x) [124]).toArray⟩ by unfold ltxP; rw [ltx_ba, hr2, hr1, hp1, hp2])
  have HF1 := Lib.hid (show (⟨(itoa x.st).toArray⟩ : ByteArray) ++ ⟨#[32]⟩ ++ ⟨(itoa x.ini).toArray⟩ ++ ⟨#[124]⟩ = acc PRE1 PS1 (1 - 1) by rw [headT_ba, acc_zero, hr1, app_ba])
  have WH := wf_head hv
  have WE := Lib.hid (fun (e : Ed) (he : e ∈ x.es) => (⟨wf_ed hv he e.f (by simp [edN]), wf_ed hv he e.l (by simp [edN]), wf_ed hv he e.t (by simp [edN])⟩ : (-9223372036854775808 ≤ e.f ∧ e.f ≤ 9223372036854775807) ∧ (-9223372036854775808 ≤ e.l ∧ e.l ≤ 9223372036854775807) ∧ (-9223372036854775808 ≤ e.t ∧ e.t ≤ 9223372036854775807)))
  obtain ⟨q0, q1⟩ := WH x.st (by simp)
  obtain ⟨q2, q3⟩ := WH x.ini (by simp)
  have OKT := Lib.hid (fun (u : ByteArray) (hu : u ∈ x.ls) => (show u.size ≤ 1048576 from ok.1.2 u hu))
  have Y := Lib.hid (fun (W : World) (hW : Below w.heap.size w W) => (⟨(hW.cell (p := ⟨pt, 2, none⟩) hpt).trans y2, (hW.cell (p := ⟨pt, 3, none⟩) hpt).trans y3, Nat.lt_of_lt_of_le hpt hW.size⟩ : W.cell? ⟨pt, 2, none⟩ = some (.slice A1 x.ls.length c1) ∧ W.cell? ⟨pt, 3, none⟩ = some (.slice A2 x.es.length c2) ∧ pt < W.heap.size))
  have H1 := Lib.hid h1
  have H2 := Lib.hid h2
  have HS := Lib.hid hS
  obtain ⟨da, hda⟩ : ∃ d : ByteArray, d = ⟨(itoa x.st).toArray⟩ := ⟨_, rfl⟩
  have sa : da.size ≤ 21 := by have h := itoa_le q0 q1; rw [hda]; simpa [ByteArray.size] using h
  have CDa := Lib.hid (fun W : World => (show Calls Tryz.prog 68 #[.int .i64 x.st] W (fun e w' => e = .returned (.string da) ∧ Below W.heap.size W w') by rw [hda]; exact dec_all x.st W (by omega) (by omega)))
  obtain ⟨db, hdb⟩ : ∃ d : ByteArray, d = ⟨(itoa x.ini).toArray⟩ := ⟨_, rfl⟩
  have sb : db.size ≤ 21 := by have h := itoa_le q2 q3; rw [hdb]; simpa [ByteArray.size] using h
  have CDb := Lib.hid (fun W : World => (show Calls Tryz.prog 68 #[.int .i64 x.ini] W (fun e w' => e = .returned (.string db) ∧ Below W.heap.size W w') by rw [hdb]; exact dec_all x.ini W (by omega) (by omega)))
  have HSW := Lib.hid (fun (W : World) (hW : Below w.heap.size w W) => (⟨hW, (hW.cell (p := ⟨pt, 0, none⟩) hpt).trans y0, (hW.cell (p := ⟨pt, 1, none⟩) hpt).trans y1⟩ : Below w.heap.size w W ∧ W.cell? ⟨pt, 0, none⟩ = some (.int .i64 x.st) ∧ W.cell? ⟨pt, 1, none⟩ = some (.int .i64 x.ini)))
  have HV := Lib.hid (Below.refl w.heap.size w)
  have g1 : ¬ 9223372036854775807 < da.size + 1 := by omega
  have g2 : ¬ 9223372036854775807 < da.size + 1 + db.size := by omega
  have g3 : ¬ 9223372036854775807 < da.size + 1 + db.size + 1 := by omega
  have HF1 := Lib.hid (show da ++ ⟨#[32]⟩ ++ db ++ ⟨#[124]⟩ = acc PRE1 PS1 (1 - 1) by rw [hda, hdb]; exact HF1.out)
  clear hda hdb q0 q1 q2 q3
  clear h1 h2 hS ok hv hp1 hp2 hr1 hr2 WH y2 y3 hlen1
  go_enter Tryz.func34, Tryz.ntmps34
  go_wp2
  refine wp_region_held_drew (S := (fun W => Below w.heap.size w W ∧ W.cell? ⟨pt, 0, none⟩ = some (.int .i64 x.st) ∧ W.cell? ⟨pt, 1, none⟩ = some (.int .i64 x.ini))) (by kernel_rfl) (HSW.out _ HV.out.drew) (fun hHeld => ?_)
  refine takeR 0 (v := ?_) rfl (by kernel_rfl) (by kernel_rfl) (by kernel_rfl) (fun _ _ _ h => h) (by rfl) ?_ hHeld ?_
  rotate_left
  · intro W hSw; (try dsimp only at hSw); go_simp; (try with_reducible rfl)
  (try simp only [Act.put, List.setIfInBounds_toArray, List.set_cons_zero, List.set_cons_succ])
  refine takeR 1 (v := ?_) rfl (by kernel_rfl) (by kernel_rfl) (by kernel_rfl) (fun _ _ _ h => h) (by rfl) ?_ hHeld ?_
  rotate_left
  · intro W hSw; (try dsimp only at hSw); go_simp; (try with_reducible rfl)
  (try simp only [Act.put, List.setIfInBounds_toArray, List.set_cons_zero, List.set_cons_succ])
  refine takeR 2 (v := ?_) rfl (by kernel_rfl) (by kernel_rfl) (by kernel_rfl) (fun _ _ _ h => h) (by rfl) ?_ hHeld ?_
  rotate_left
  · intro W hSw; (try dsimp only at hSw); go_simp; (try with_reducible rfl)
  (try simp only [Act.put, List.setIfInBounds_toArray, List.set_cons_zero, List.set_cons_succ])
  refine takeR 3 (v := ?_) rfl (by kernel_rfl) (by kernel_rfl) (by kernel_rfl) (fun _ _ _ h => h) (by rfl) ?_ hHeld ?_
  rotate_left
  · intro W hSw; (try dsimp only at hSw); go_simp; (try with_reducible rfl)
  (try simp only [Act.put, List.setIfInBounds_toArray, List.set_cons_zero, List.set_cons_succ])
  refine takeR 6 (v := ?_) rfl (by kernel_rfl) (by kernel_rfl) (by kernel_rfl) (fun _ _ _ h => h) (by rfl) ?_ hHeld ?_
  rotate_left
  · intro W hSw; (try dsimp only at hSw); go_simp; (try with_reducible rfl)
  (try simp only [Act.put, List.setIfInBounds_toArray, List.set_cons_zero, List.set_cons_succ])
  refine takeR 7 (v := ?_) rfl (by kernel_rfl) (by kernel_rfl) (by kernel_rfl) (fun _ _ _ h => h) (by rfl) ?_ hHeld ?_
  rotate_left
  · intro W hSw; (try dsimp only at hSw); go_simp; (try with_reducible rfl)
  (try simp only [Act.put, List.setIfInBounds_toArray, List.set_cons_zero, List.set_cons_succ])
  refine takeR 8 (v := ?_) rfl (by kernel_rfl) (by kernel_rfl) (by kernel_rfl) (fun _ _ _ h => h) (by rfl) ?_ hHeld ?_
  rotate_left
  · intro W hSw; (try dsimp only at hSw); go_simp; (try with_reducible rfl)
  (try simp only [Act.put, List.setIfInBounds_toArray, List.set_cons_zero, List.set_cons_succ])
  refine takeR 9 (v := ?_) rfl (by kernel_rfl) (by kernel_rfl) (by kernel_rfl) (fun _ _ _ h => h) (by rfl) ?_ hHeld ?_
  rotate_left
  · intro W hSw; (try dsimp only at hSw); go_simp; (try with_reducible rfl)
  (try simp only [Act.put, List.setIfInBounds_toArray, List.set_cons_zero, List.set_cons_succ])
  refine takeC 4 rfl (by kernel_rfl) (by rfl) (fun K hK => ?_)
  go_simp
  (go_at_call 68; refine (CDa.out _).mono ?_; rintro e v1 ⟨rfl, b3⟩; have HV1 := Lib.hid (hHeld.1.trans (b3.mono hHeld.1.size)); clear b3)
  (try go_wp2_with fail)
  refine hK.out _ _ (HSW.out _ HV1.out) (fun hHeld2 => ?_)
  clear hK K hHeld
  have hHeld := hHeld2
  clear hHeld2
  (try simp only [Act.put, List.setIfInBounds_toArray, List.set_cons_zero, List.set_cons_succ])
  refine takeR 5 (v := ?_) rfl (by kernel_rfl) (by kernel_rfl) (by kernel_rfl) (fun _ _ _ h => h) (by rfl) ?_ hHeld ?_
  rotate_left
  · intro W hSw; (try dsimp only at hSw); go_simp; (try with_reducible rfl)
  (try simp only [Act.put, List.setIfInBounds_toArray, List.set_cons_zero, List.set_cons_succ])
  refine takeC 10 rfl (by kernel_rfl) (by rfl) (fun K hK => ?_)
  go_simp
  (go_at_call 68; refine (CDb.out _).mono ?_; rintro e v2 ⟨rfl, b3⟩; have HV2 := Lib.hid (hHeld.1.trans (b3.mono hHeld.1.size)); clear b3)
  (try go_wp2_with fail)
  refine hK.out _ _ (HSW.out _ HV2.out) (fun hHeld2 => ?_)
  clear hK K hHeld
  have hHeld := hHeld2
  clear hHeld2
  (try simp only [Act.put, List.setIfInBounds_toArray, List.set_cons_zero, List.set_cons_succ])
  refine takeR 11 (v := ?_) rfl (by kernel_rfl) (by kernel_rfl) (by kernel_rfl) (fun _ _ _ h => h) (by rfl) ?_ hHeld ?_
  rotate_left
  · intro W hSw; (try dsimp only at hSw); go_simp; (try with_reducible rfl)
  (try simp only [Act.put, List.setIfInBounds_toArray, List.set_cons_zero, List.set_cons_succ])
  refine takeR 12 (v := ?_) rfl (by kernel_rfl) (by kernel_rfl) (by kernel_rfl) (fun _ _ _ h => h) (by rfl) ?_ hHeld ?_
  rotate_left
  · intro W hSw; (try dsimp only at hSw); go_simp; (try with_reducible rfl)
  (try simp only [Act.put, List.setIfInBounds_toArray, List.set_cons_zero, List.set_cons_succ])
  refine takeR 13 (v := ?_) rfl (by kernel_rfl) (by kernel_rfl) (by kernel_rfl) (fun _ _ _ h => h) (by rfl) ?_ hHeld ?_
  rotate_left
  · intro W hSw; (try dsimp only at hSw); go_simp; (try with_reducible rfl)
  (try simp only [Act.put, List.setIfInBounds_toArray, List.set_cons_zero, List.set_cons_succ])
  refine wpAnyH_done (by kernel_rfl) ?_ _
  have HB := Lib.hid hHeld.1
  clear HSW HV y0 y1 hHeld HV1 HV2 CDa CDb
  go_wp2
  clear sa sb g1 g2 g3
  go_loopw [3, 4] (fun ov iv wr => ∃ j : Nat, 1 ≤ j ∧ j ≤ x.ls.length ∧ iv = .int .i64 j ∧ ov = .string (acc PRE1 PS1 (j - 1)) ∧ Hid (Below w.heap.size w wr)) (fun _ i _ => x.ls.length - (intOf i).toNat)
  case atStart => exact ⟨1, Nat.le_refl _, hl1, rfl, by rw [← HF1.out], HB⟩
  case round =>
    clear HB HF1
    obtain ⟨j, hj1, hj2, rfl, rfl, HB⟩ := hrel
    obtain ⟨wo, rfl⟩ : ∃ wo : World, wo = wr := ⟨_, rfl⟩
    obtain ⟨z2, z3, hpr⟩ := Y.out _ HB.out
    have hsz := HB.out.size
    obtain ⟨o, ho⟩ : ∃ o : ByteArray, o = acc PRE1 PS1 (j - 1) := ⟨_, rfl⟩
    have hos : o.size ≤ 20000000 := by rw [ho]; exact SZ1.out _
    have HO := Lib.hid ho
    rw [← ho]
    clear ho
    by_cases hlt : j < x.ls.length
    · obtain ⟨b2, o2, cs, u, rfl, hb2, hR, hu, hc⟩ := (H1.out.keep (SameOn.of_below HB.out HS.out)).at_ (k := j) hlt
      obtain ⟨rfl, _⟩ := hR
      have g0 : wo.cell? ⟨b2, o2 + j, none⟩ = some (.string u) := by have := hc 0 _ rfl; simpa [txtR] using this
      have lb2 := World.block_lt_of_cell? wo _ g0
      have hus := OKT.out u (List.mem_of_getElem? hu.out)
      have HP := Lib.hid (show PS1[j - 1]? = some (byl u) by rw [HPS1.out]; unfold labT; rw [List.getElem?_map, List.getElem?_drop, show 1 + (j - 1) = j by omega, hu.out]; rfl)
      clear hc hu hb2 z3
      by_cases hk1 : j = 1
      · have HF := Lib.hid (show acc PRE1 PS1 (j + 1 - 1) = o ++ u by rw [HO.out, hk1]; have h := acc_first (pre := PRE1) (by have := HP.out; rw [hk1] at this; exact this); rw [byl_back] at h; exact h)
        have hgt : ¬ (1 : Int) < (j : Int) := by omega
        clear hk1
        go_wp2
        go_roundw
        case rel => exact ⟨j + 1, by omega, by omega, by go_num, by rw [HF.out], HB⟩
        case measure => simp [intOf]; omega
      · have HF := Lib.hid (show acc PRE1 PS1 (j + 1 - 1) = o ++ ⟨#[32]⟩ ++ u by rw [HO.out, show j + 1 - 1 = (j - 1) + 1 by omega]; have h := acc_next (pre := PRE1) (show j - 1 ≠ 0 by omega) HP.out; rw [byl_back] at h; exact h)
        have hgt : (1 : Int) < (j : Int) := by omega
        clear hk1
        go_wp2
        go_roundw
        case rel => exact ⟨j + 1, by omega, by omega, by go_num, by rw [HF.out], HB⟩
        case measure => simp [intOf]; omega
    · have hke : j = x.ls.length := by omega
      by_cases h0 : x.ls.length = 1
      · have HE2 := Lib.hid (show o ++ ⟨#[45]⟩ ++ ⟨#[124]⟩ = acc PRE2 PS2 0 by rw [HO.out, show j - 1 = 0 by omega, acc_none (List.length_eq_zero_iff.1 (by rw [HPS1.out, labT_len]; omega)), acc_zero, HPR2.out]; simp only [app_ba])
        have hz : ((x.ls.length : Int) == 1) = true := ib_eq (by omega)
        clear h0 hke
        go_wp2
        clear hlt z2 z3 hpr hsz hz
        go_loopw [3, 5] (fun ov iv wr => ∃ k : Nat, k ≤ x.es.length ∧ iv = .int .i64 k ∧ ov = .string (acc PRE2 PS2 k) ∧ Hid (Below w.heap.size w wr)) (fun _ i _ => x.es.length - (intOf i).toNat)
        case atStart => exact ⟨0, Nat.zero_le _, rfl, by rw [HE2.out], HB⟩
        case round =>
          clear HB HE2
          obtain ⟨k, hk, rfl, rfl, HB⟩ := hrel
          obtain ⟨wo, rfl⟩ : ∃ wo : World, wo = wr := ⟨_, rfl⟩
          obtain ⟨z2, z3, hpr⟩ := Y.out _ HB.out
          have hsz := HB.out.size
          obtain ⟨o, ho⟩ : ∃ o : ByteArray, o = acc PRE2 PS2 k := ⟨_, rfl⟩
          have hos : o.size ≤ 40000000 := by rw [ho]; exact SZ2.out k
          have HO := Lib.hid ho
          rw [← ho]
          clear ho z2
          by_cases hlt : k < x.es.length
          · obtain ⟨b2, o2, cs, v, rfl, hb2, hR, hvv, hc⟩ := (H2.out.keep (SameOn.of_below HB.out HS.out)).at_ (k := k) hlt
            have hR : cs = [Value.int .i64 v.f, Value.int .i64 v.l, Value.int .i64 v.t] := hR
            subst hR
            have f0 : wo.cell? ⟨b2, o2 + k * 3, none⟩ = some (.int .i64 v.f) := hc 0 _ rfl
            have f1 : wo.cell? ⟨b2, o2 + k * 3 + 1, none⟩ = some (.int .i64 v.l) := hc 1 _ rfl
            have f2 : wo.cell? ⟨b2, o2 + k * 3 + 2, none⟩ = some (.int .i64 v.t) := hc 2 _ rfl
            have lb2 := World.block_lt_of_cell? wo _ f0
            obtain ⟨⟨q0, q1⟩, ⟨q2, q3⟩, ⟨q4, q5⟩⟩ := WE.out v (List.mem_of_getElem? hvv.out)
            have HP := Lib.hid (show PS2[k]? = some (edgeT v) by rw [HPS2.out, List.getElem?_map, hvv.out]; rfl)
            obtain ⟨da, hda⟩ : ∃ d : ByteArray, d = ⟨(itoa v.f).toArray⟩ := ⟨_, rfl⟩
            have sa : da.size ≤ 21 := by have h := itoa_le q0 q1; rw [hda]; simpa [ByteArray.size] using h
            have CDa := Lib.hid (fun W : World => (show Calls Tryz.prog 68 #[.int .i64 v.f] W (fun e w' => e = .returned (.string da) ∧ Below W.heap.size W w') by rw [hda]; exact dec_all v.f W (by omega) (by omega)))
            obtain ⟨db, hdb⟩ : ∃ d : ByteArray, d = ⟨(itoa v.l).toArray⟩ := ⟨_, rfl⟩
            have sb : db.size ≤ 21 := by have h := itoa_le q2 q3; rw [hdb]; simpa [ByteArray.size] using h
            have CDb := Lib.hid (fun W : World => (show Calls Tryz.prog 68 #[.int .i64 v.l] W (fun e w' => e = .returned (.string db) ∧ Below W.heap.size W w') by rw [hdb]; exact dec_all v.l W (by omega) (by omega)))
            obtain ⟨dc, hdc⟩ : ∃ d : ByteArray, d = ⟨(itoa v.t).toArray⟩ := ⟨_, rfl⟩
            have sc : dc.size ≤ 21 := by have h := itoa_le q4 q5; rw [hdc]; simpa [ByteArray.size] using h
            have CDc := Lib.hid (fun W : World => (show Calls Tryz.prog 68 #[.int .i64 v.t] W (fun e w' => e = .returned (.string dc) ∧ Below W.heap.size W w') by rw [hdc]; exact dec_all v.t W (by omega) (by omega)))
            have g1 : ¬ 9223372036854775807 < da.size + 1 := by omega
            have g2 : ¬ 9223372036854775807 < da.size + 1 + db.size := by omega
            have g3 : ¬ 9223372036854775807 < da.size + 1 + db.size + 1 := by omega
            have g4 : ¬ 9223372036854775807 < da.size + 1 + db.size + 1 + dc.size := by omega
            have g5 : ¬ 9223372036854775807 < o.size + (da.size + 1 + db.size + 1 + dc.size) := by omega
            have g6 : ¬ 9223372036854775807 < o.size + 1 + (da.size + 1 + db.size + 1 + dc.size) := by omega
            have HSW := Lib.hid (fun (W : World) (hW : Below wo.heap.size wo W) => (⟨hW, (hW.cell (p := ⟨pt, 3, none⟩) hpr).trans z3, (hW.cell (p := ⟨b2, o2 + k * 3, none⟩) lb2).trans f0, (hW.cell (p := ⟨b2, o2 + k * 3 + 1, none⟩) lb2).trans f1, (hW.cell (p := ⟨b2, o2 + k * 3 + 2, none⟩) lb2).trans f2⟩ : Below wo.heap.size wo W ∧ W.cell? ⟨pt, 3, none⟩ = some (.slice (some ⟨b2, o2, none⟩) x.es.length c2) ∧ W.cell? ⟨b2, o2 + k * 3, none⟩ = some (.int .i64 v.f) ∧ W.cell? ⟨b2, o2 + k * 3 + 1, none⟩ = some (.int .i64 v.l) ∧ W.cell? ⟨b2, o2 + k * 3 + 2, none⟩ = some (.int .i64 v.t)))
            have HV := Lib.hid (Below.refl wo.heap.size wo)
            clear hc hvv hb2
            by_cases hk0 : k = 0
            · have HF := Lib.hid (show acc PRE2 PS2 (k + 1) = o ++ (da ++ ⟨#[58]⟩ ++ db ++ ⟨#[58]⟩ ++ dc) by rw [hda, hdb, hdc, edgeT_ba, HO.out, hk0]; exact acc_first (by rw [← hk0]; exact HP.out))
              have hgt : ¬ (0 : Int) < (k : Int) := by omega
              clear hk0 hda hdb hdc q0 q1 q2 q3 q4 q5
              go_wp2
              refine wp_region_held_drew (S := (fun W => Below wo.heap.size wo W ∧ W.cell? ⟨pt, 3, none⟩ = some (.slice (some ⟨b2, o2, none⟩) x.es.length c2) ∧ W.cell? ⟨b2, o2 + k * 3, none⟩ = some (.int .i64 v.f) ∧ W.cell? ⟨b2, o2 + k * 3 + 1, none⟩ = some (.int .i64 v.l) ∧ W.cell? ⟨b2, o2 + k * 3 + 2, none⟩ = some (.int .i64 v.t))) (by kernel_rfl) (HSW.out _ HV.out.drew) (fun hHeld => ?_)
              refine takeR 0 (v := ?_) rfl (by kernel_rfl) (by kernel_rfl) (by kernel_rfl) (fun _ _ _ h => h) (by rfl) ?_ hHeld ?_
              rotate_left
              · intro W hSw; (try dsimp only at hSw); go_simp; (try with_reducible rfl)
              (try simp only [Act.put, List.setIfInBounds_toArray, List.set_cons_zero, List.set_cons_succ])
              refine takeR 1 (v := ?_) rfl (by kernel_rfl) (by kernel_rfl) (by kernel_rfl) (fun _ _ _ h => h) (by rfl) ?_ hHeld ?_
              rotate_left
              · intro W hSw; (try dsimp only at hSw); go_simp; (try with_reducible rfl)
              (try simp only [Act.put, List.setIfInBounds_toArray, List.set_cons_zero, List.set_cons_succ])
              refine takeR 2 (v := ?_) rfl (by kernel_rfl) (by kernel_rfl) (by kernel_rfl) (fun _ _ _ h => h) (by rfl) ?_ hHeld ?_
              rotate_left
              · intro W hSw; (try dsimp only at hSw); go_simp; (try with_reducible rfl)
              (try simp only [Act.put, List.setIfInBounds_toArray, List.set_cons_zero, List.set_cons_succ])
              refine takeR 3 (v := ?_) rfl (by kernel_rfl) (by kernel_rfl) (by kernel_rfl) (fun _ _ _ h => h) (by rfl) ?_ hHeld ?_
              rotate_left
              · intro W hSw; (try dsimp only at hSw); go_simp; (try with_reducible rfl)
              (try simp only [Act.put, List.setIfInBounds_toArray, List.set_cons_zero, List.set_cons_succ])
              refine takeR 4 (v := ?_) rfl (by kernel_rfl) (by kernel_rfl) (by kernel_rfl) (fun _ _ _ h => h) (by rfl) ?_ hHeld ?_
              rotate_left
              · intro W hSw; (try dsimp only at hSw); go_simp; (try with_reducible rfl)
              (try simp only [Act.put, List.setIfInBounds_toArray, List.set_cons_zero, List.set_cons_succ])
              refine takeR 5 (v := ?_) rfl (by kernel_rfl) (by kernel_rfl) (by kernel_rfl) (fun _ _ _ h => h) (by rfl) ?_ hHeld ?_
              rotate_left
              · intro W hSw; (try dsimp only at hSw); go_simp; (try with_reducible rfl)
              (try simp only [Act.put, List.setIfInBounds_toArray, List.set_cons_zero, List.set_cons_succ])
              refine takeR 6 (v := ?_) rfl (by kernel_rfl) (by kernel_rfl) (by kernel_rfl) (fun _ _ _ h => h) (by rfl) ?_ hHeld ?_
              rotate_left
              · intro W hSw; (try dsimp only at hSw); go_simp; (try with_reducible rfl)
              (try simp only [Act.put, List.setIfInBounds_toArray, List.set_cons_zero, List.set_cons_succ])
              refine takeR 7 (v := ?_) rfl (by kernel_rfl) (by kernel_rfl) (by kernel_rfl) (fun _ _ _ h => h) (by rfl) ?_ hHeld ?_
              rotate_left
              · intro W hSw; (try dsimp only at hSw); go_simp; (try with_reducible rfl)
              (try simp only [Act.put, List.setIfInBounds_toArray, List.set_cons_zero, List.set_cons_succ])
              refine takeR 8 (v := ?_) rfl (by kernel_rfl) (by kernel_rfl) (by kernel_rfl) (fun _ _ _ h => h) (by rfl) ?_ hHeld ?_
              rotate_left
              · intro W hSw; (try dsimp only at hSw); go_simp; (try with_reducible rfl)
              (try simp only [Act.put, List.setIfInBounds_toArray, List.set_cons_zero, List.set_cons_succ])
              refine takeR 11 (v := ?_) rfl (by kernel_rfl) (by kernel_rfl) (by kernel_rfl) (fun _ _ _ h => h) (by rfl) ?_ hHeld ?_
              rotate_left
              · intro W hSw; (try dsimp only at hSw); go_simp; (try with_reducible rfl)
              (try simp only [Act.put, List.setIfInBounds_toArray, List.set_cons_zero, List.set_cons_succ])
              refine takeR 12 (v := ?_) rfl (by kernel_rfl) (by kernel_rfl) (by kernel_rfl) (fun _ _ _ h => h) (by rfl) ?_ hHeld ?_
              rotate_left
              · intro W hSw; (try dsimp only at hSw); go_simp; (try with_reducible rfl)
              (try simp only [Act.put, List.setIfInBounds_toArray, List.set_cons_zero, List.set_cons_succ])
              refine takeR 13 (v := ?_) rfl (by kernel_rfl) (by kernel_rfl) (by kernel_rfl) (fun _ _ _ h => h) (by rfl) ?_ hHeld ?_
              rotate_left
              · intro W hSw; (try dsimp only at hSw); go_simp; (try with_reducible rfl)
              (try simp only [Act.put, List.setIfInBounds_toArray, List.set_cons_zero, List.set_cons_succ])
              refine takeR 14 (v := ?_) rfl (by kernel_rfl) (by kernel_rfl) (by kernel_rfl) (fun _ _ _ h => h) (by rfl) ?_ hHeld ?_
              rotate_left
              · intro W hSw; (try dsimp only at hSw); go_simp; (try with_reducible rfl)
              (try simp only [Act.put, List.setIfInBounds_toArray, List.set_cons_zero, List.set_cons_succ])
              refine takeR 15 (v := ?_) rfl (by kernel_rfl) (by kernel_rfl) (by kernel_rfl) (fun _ _ _ h => h) (by rfl) ?_ hHeld ?_
              rotate_left
              · intro W hSw; (try dsimp only at hSw); go_simp; (try with_reducible rfl)
              (try simp only [Act.put, List.setIfInBounds_toArray, List.set_cons_zero, List.set_cons_succ])
              refine takeR 16 (v := ?_) rfl (by kernel_rfl) (by kernel_rfl) (by kernel_rfl) (fun _ _ _ h => h) (by rfl) ?_ hHeld ?_
              rotate_left
              · intro W hSw; (try dsimp only at hSw); go_simp; (try with_reducible rfl)
              (try simp only [Act.put, List.setIfInBounds_toArray, List.set_cons_zero, List.set_cons_succ])
              refine takeR 17 (v := ?_) rfl (by kernel_rfl) (by kernel_rfl) (by kernel_rfl) (fun _ _ _ h => h) (by rfl) ?_ hHeld ?_
              rotate_left
              · intro W hSw; (try dsimp only at hSw); go_simp; (try with_reducible rfl)
              (try simp only [Act.put, List.setIfInBounds_toArray, List.set_cons_zero, List.set_cons_succ])
              refine takeR 18 (v := ?_) rfl (by kernel_rfl) (by kernel_rfl) (by kernel_rfl) (fun _ _ _ h => h) (by rfl) ?_ hHeld ?_
              rotate_left
              · intro W hSw; (try dsimp only at hSw); go_simp; (try with_reducible rfl)
              (try simp only [Act.put, List.setIfInBounds_toArray, List.set_cons_zero, List.set_cons_succ])
              refine takeR 22 (v := ?_) rfl (by kernel_rfl) (by kernel_rfl) (by kernel_rfl) (fun _ _ _ h => h) (by rfl) ?_ hHeld ?_
              rotate_left
              · intro W hSw; (try dsimp only at hSw); go_simp; (try with_reducible rfl)
              (try simp only [Act.put, List.setIfInBounds_toArray, List.set_cons_zero, List.set_cons_succ])
              refine takeR 23 (v := ?_) rfl (by kernel_rfl) (by kernel_rfl) (by kernel_rfl) (fun _ _ _ h => h) (by rfl) ?_ hHeld ?_
              rotate_left
              · intro W hSw; (try dsimp only at hSw); go_simp; (try with_reducible rfl)
              (try simp only [Act.put, List.setIfInBounds_toArray, List.set_cons_zero, List.set_cons_succ])
              refine takeR 24 (v := ?_) rfl (by kernel_rfl) (by kernel_rfl) (by kernel_rfl) (fun _ _ _ h => h) (by rfl) ?_ hHeld ?_
              rotate_left
              · intro W hSw; (try dsimp only at hSw); go_simp; (try with_reducible rfl)
              (try simp only [Act.put, List.setIfInBounds_toArray, List.set_cons_zero, List.set_cons_succ])
              refine takeR 25 (v := ?_) rfl (by kernel_rfl) (by kernel_rfl) (by kernel_rfl) (fun _ _ _ h => h) (by rfl) ?_ hHeld ?_
              rotate_left
              · intro W hSw; (try dsimp only at hSw); go_simp; (try with_reducible rfl)
              (try simp only [Act.put, List.setIfInBounds_toArray, List.set_cons_zero, List.set_cons_succ])
              refine takeR 26 (v := ?_) rfl (by kernel_rfl) (by kernel_rfl) (by kernel_rfl) (fun _ _ _ h => h) (by rfl) ?_ hHeld ?_
              rotate_left
              · intro W hSw; (try dsimp only at hSw); go_simp; (try with_reducible rfl)
              (try simp only [Act.put, List.setIfInBounds_toArray, List.set_cons_zero, List.set_cons_succ])
              refine takeR 27 (v := ?_) rfl (by kernel_rfl) (by kernel_rfl) (by kernel_rfl) (fun _ _ _ h => h) (by rfl) ?_ hHeld ?_
              rotate_left
              · intro W hSw; (try dsimp only at hSw); go_simp; (try with_reducible rfl)
              (try simp only [Act.put, List.setIfInBounds_toArray, List.set_cons_zero, List.set_cons_succ])
              refine takeR 28 (v := ?_) rfl (by kernel_rfl) (by kernel_rfl) (by kernel_rfl) (fun _ _ _ h => h) (by rfl) ?_ hHeld ?_
              rotate_left
              · intro W hSw; (try dsimp only at hSw); go_simp; (try with_reducible rfl)
              (try simp only [Act.put, List.setIfInBounds_toArray, List.set_cons_zero, List.set_cons_succ])
              refine takeR 29 (v := ?_) rfl (by kernel_rfl) (by kernel_rfl) (by kernel_rfl) (fun _ _ _ h => h) (by rfl) ?_ hHeld ?_
              rotate_left
              · intro W hSw; (try dsimp only at hSw); go_simp; (try with_reducible rfl)
              (try simp only [Act.put, List.setIfInBounds_toArray, List.set_cons_zero, List.set_cons_succ])
              refine takeC 9 rfl (by kernel_rfl) (by rfl) (fun K hK => ?_)
              go_simp
              (go_at_call 68; refine (CDa.out _).mono ?_; rintro e v1 ⟨rfl, b3⟩; have HV1 := Lib.hid (hHeld.1.trans (b3.mono hHeld.1.size)); clear b3)
              (try go_wp2_with fail)
              refine hK.out _ _ (HSW.out _ HV1.out) (fun hHeld2 => ?_)
              clear hK K hHeld
              have hHeld := hHeld2
              clear hHeld2
              (try simp only [Act.put, List.setIfInBounds_toArray, List.set_cons_zero, List.set_cons_succ])
              refine takeR 10 (v := ?_) rfl (by kernel_rfl) (by kernel_rfl) (by kernel_rfl) (fun _ _ _ h => h) (by rfl) ?_ hHeld ?_
              rotate_left
              · intro W hSw; (try dsimp only at hSw); go_simp; (try with_reducible rfl)
              (try simp only [Act.put, List.setIfInBounds_toArray, List.set_cons_zero, List.set_cons_succ])
              refine takeC 19 rfl (by kernel_rfl) (by rfl) (fun K hK => ?_)
              go_simp
              (go_at_call 68; refine (CDb.out _).mono ?_; rintro e v2 ⟨rfl, b3⟩; have HV2 := Lib.hid (hHeld.1.trans (b3.mono hHeld.1.size)); clear b3)
              (try go_wp2_with fail)
              refine hK.out _ _ (HSW.out _ HV2.out) (fun hHeld2 => ?_)
              clear hK K hHeld
              have hHeld := hHeld2
              clear hHeld2
              (try simp only [Act.put, List.setIfInBounds_toArray, List.set_cons_zero, List.set_cons_succ])
              refine takeR 20 (v := ?_) rfl (by kernel_rfl) (by kernel_rfl) (by kernel_rfl) (fun _ _ _ h => h) (by rfl) ?_ hHeld ?_
              rotate_left
              · intro W hSw; (try dsimp only at hSw); go_simp; (try with_reducible rfl)
              (try simp only [Act.put, List.setIfInBounds_toArray, List.set_cons_zero, List.set_cons_succ])
              refine takeR 21 (v := ?_) rfl (by kernel_rfl) (by kernel_rfl) (by kernel_rfl) (fun _ _ _ h => h) (by rfl) ?_ hHeld ?_
              rotate_left
              · intro W hSw; (try dsimp only at hSw); go_simp; (try with_reducible rfl)
              (try simp only [Act.put, List.setIfInBounds_toArray, List.set_cons_zero, List.set_cons_succ])
              refine takeC 30 rfl (by kernel_rfl) (by rfl) (fun K hK => ?_)
              go_simp
              (go_at_call 68; refine (CDc.out _).mono ?_; rintro e v3 ⟨rfl, b3⟩; have HV3 := Lib.hid (hHeld.1.trans (b3.mono hHeld.1.size)); clear b3)
              (try go_wp2_with fail)
              refine hK.out _ _ (HSW.out _ HV3.out) (fun hHeld2 => ?_)
              clear hK K hHeld
              have hHeld := hHeld2
              clear hHeld2
              (try simp only [Act.put, List.setIfInBounds_toArray, List.set_cons_zero, List.set_cons_succ])
              refine takeR 31 (v := ?_) rfl (by kernel_rfl) (by kernel_rfl) (by kernel_rfl) (fun _ _ _ h => h) (by rfl) ?_ hHeld ?_
              rotate_left
              · intro W hSw; (try dsimp only at hSw); go_simp; (try with_reducible rfl)
              (try simp only [Act.put, List.setIfInBounds_toArray, List.set_cons_zero, List.set_cons_succ])
              refine takeR 32 (v := ?_) rfl (by kernel_rfl) (by kernel_rfl) (by kernel_rfl) (fun _ _ _ h => h) (by rfl) ?_ hHeld ?_
              rotate_left
              · intro W hSw; (try dsimp only at hSw); go_simp; (try with_reducible rfl)
              (try simp only [Act.put, List.setIfInBounds_toArray, List.set_cons_zero, List.set_cons_succ])
              refine takeR 33 (v := ?_) rfl (by kernel_rfl) (by kernel_rfl) (by kernel_rfl) (fun _ _ _ h => h) (by rfl) ?_ hHeld ?_
              rotate_left
              · intro W hSw; (try dsimp only at hSw); go_simp; (try with_reducible rfl)
              (try simp only [Act.put, List.setIfInBounds_toArray, List.set_cons_zero, List.set_cons_succ])
              refine wpAnyH_done (by kernel_rfl) ?_ _
              go_wp2
              go_roundw
              case rel => exact ⟨k + 1, by omega, by go_num, by rw [HF.out], Lib.hid (HB.out.trans (hHeld.1.mono HB.out.size))⟩
              case measure => simp [intOf]; omega
            · have HF := Lib.hid (show acc PRE2 PS2 (k + 1) = o ++ ⟨#[32]⟩ ++ (da ++ ⟨#[58]⟩ ++ db ++ ⟨#[58]⟩ ++ dc) by rw [hda, hdb, hdc, edgeT_ba, HO.out]; exact acc_next hk0 HP.out)
              have hgt : (0 : Int) < (k : Int) := by omega
              clear hk0 hda hdb hdc q0 q1 q2 q3 q4 q5
              go_wp2
              refine wp_region_held_drew (S := (fun W => Below wo.heap.size wo W ∧ W.cell? ⟨pt, 3, none⟩ = some (.slice (some ⟨b2, o2, none⟩) x.es.length c2) ∧ W.cell? ⟨b2, o2 + k * 3, none⟩ = some (.int .i64 v.f) ∧ W.cell? ⟨b2, o2 + k * 3 + 1, none⟩ = some (.int .i64 v.l) ∧ W.cell? ⟨b2, o2 + k * 3 + 2, none⟩ = some (.int .i64 v.t))) (by kernel_rfl) (HSW.out _ HV.out.drew) (fun hHeld => ?_)
              refine takeR 0 (v := ?_) rfl (by kernel_rfl) (by kernel_rfl) (by kernel_rfl) (fun _ _ _ h => h) (by rfl) ?_ hHeld ?_
              rotate_left
              · intro W hSw; (try dsimp only at hSw); go_simp; (try with_reducible rfl)
              (try simp only [Act.put, List.setIfInBounds_toArray, List.set_cons_zero, List.set_cons_succ])
              refine takeR 1 (v := ?_) rfl (by kernel_rfl) (by kernel_rfl) (by kernel_rfl) (fun _ _ _ h => h) (by rfl) ?_ hHeld ?_
              rotate_left
              · intro W hSw; (try dsimp only at hSw); go_simp; (try with_reducible rfl)
              (try simp only [Act.put, List.setIfInBounds_toArray, List.set_cons_zero, List.set_cons_succ])
              refine takeR 2 (v := ?_) rfl (by kernel_rfl) (by kernel_rfl) (by kernel_rfl) (fun _ _ _ h => h) (by rfl) ?_ hHeld ?_
              rotate_left
              · intro W hSw; (try dsimp only at hSw); go_simp; (try with_reducible rfl)
              (try simp only [Act.put, List.setIfInBounds_toArray, List.set_cons_zero, List.set_cons_succ])
              refine takeR 3 (v := ?_) rfl (by kernel_rfl) (by kernel_rfl) (by kernel_rfl) (fun _ _ _ h => h) (by rfl) ?_ hHeld ?_
              rotate_left
              · intro W hSw; (try dsimp only at hSw); go_simp; (try with_reducible rfl)
              (try simp only [Act.put, List.setIfInBounds_toArray, List.set_cons_zero, List.set_cons_succ])
              refine takeR 4 (v := ?_) rfl (by kernel_rfl) (by kernel_rfl) (by kernel_rfl) (fun _ _ _ h => h) (by rfl) ?_ hHeld ?_
              rotate_left
              · intro W hSw; (try dsimp only at hSw); go_simp; (try with_reducible rfl)
              (try simp only [Act.put, List.setIfInBounds_toArray, List.set_cons_zero, List.set_cons_succ])
              refine takeR 5 (v := ?_) rfl (by kernel_rfl) (by kernel_rfl) (by kernel_rfl) (fun _ _ _ h => h) (by rfl) ?_ hHeld ?_
              rotate_left
              · intro W hSw; (try dsimp only at hSw); go_simp; (try with_reducible rfl)
              (try simp only [Act.put, List.setIfInBounds_toArray, List.set_cons_zero, List.set_cons_succ])
              refine takeR 6 (v := ?_) rfl (by kernel_rfl) (by kernel_rfl) (by kernel_rfl) (fun _ _ _ h => h) (by rfl) ?_ hHeld ?_
              rotate_left
              · intro W hSw; (try dsimp only at hSw); go_simp; (try with_reducible rfl)
              (try simp only [Act.put, List.setIfInBounds_toArray, List.set_cons_zero, List.set_cons_succ])
              refine takeR 7 (v := ?_) rfl (by kernel_rfl) (by kernel_rfl) (by kernel_rfl) (fun _ _ _ h => h) (by rfl) ?_ hHeld ?_
              rotate_left
              · intro W hSw; (try dsimp only at hSw); go_simp; (try with_reducible rfl)
              (try simp only [Act.put, List.setIfInBounds_toArray, List.set_cons_zero, List.set_cons_succ])
              refine takeR 8 (v := ?_) rfl (by kernel_rfl) (by kernel_rfl) (by kernel_rfl) (fun _ _ _ h => h) (by rfl) ?_ hHeld ?_
              rotate_left
              · intro W hSw; (try dsimp only at hSw); go_simp; (try with_reducible rfl)
              (try simp only [Act.put, List.setIfInBounds_toArray, List.set_cons_zero, List.set_cons_succ])
              refine takeR 11 (v := ?_) rfl (by kernel_rfl) (by kernel_rfl) (by kernel_rfl) (fun _ _ _ h => h) (by rfl) ?_ hHeld ?_
              rotate_left
              · intro W hSw; (try dsimp only at hSw); go_simp; (try with_reducible rfl)
              (try simp only [Act.put, List.setIfInBounds_toArray, List.set_cons_zero, List.set_cons_succ])
              refine takeR 12 (v := ?_) rfl (by kernel_rfl) (by kernel_rfl) (by kernel_rfl) (fun _ _ _ h => h) (by rfl) ?_ hHeld ?_
              rotate_left
              · intro W hSw; (try dsimp only at hSw); go_simp; (try with_reducible rfl)
              (try simp only [Act.put, List.setIfInBounds_toArray, List.set_cons_zero, List.set_cons_succ])
              refine takeR 13 (v := ?_) rfl (by kernel_rfl) (by kernel_rfl) (by kernel_rfl) (fun _ _ _ h => h) (by rfl) ?_ hHeld ?_
              rotate_left
              · intro W hSw; (try dsimp only at hSw); go_simp; (try with_reducible rfl)
              (try simp only [Act.put, List.setIfInBounds_toArray, List.set_cons_zero, List.set_cons_succ])
              refine takeR 14 (v := ?_) rfl (by kernel_rfl) (by kernel_rfl) (by kernel_rfl) (fun _ _ _ h => h) (by rfl) ?_ hHeld ?_
              rotate_left
              · intro W hSw; (try dsimp only at hSw); go_simp; (try with_reducible rfl)
              (try simp only [Act.put, List.setIfInBounds_toArray, List.set_cons_zero, List.set_cons_succ])
              refine takeR 15 (v := ?_) rfl (by kernel_rfl) (by kernel_rfl) (by kernel_rfl) (fun _ _ _ h => h) (by rfl) ?_ hHeld ?_
              rotate_left
              · intro W hSw; (try dsimp only at hSw); go_simp; (try with_reducible rfl)
              (try simp only [Act.put, List.setIfInBounds_toArray, List.set_cons_zero, List.set_cons_succ])
              refine takeR 16 (v := ?_) rfl (by kernel_rfl) (by kernel_rfl) (by kernel_rfl) (fun _ _ _ h => h) (by rfl) ?_ hHeld ?_
              rotate_left
              · intro W hSw; (try dsimp only at hSw); go_simp; (try with_reducible rfl)
              (try simp only [Act.put, List.setIfInBounds_toArray, List.set_cons_zero, List.set_cons_succ])
              refine takeR 17 (v := ?_) rfl (by kernel_rfl) (by kernel_rfl) (by kernel_rfl) (fun _ _ _ h => h) (by rfl) ?_ hHeld ?_
              rotate_left
              · intro W hSw; (try dsimp only at hSw); go_simp; (try with_reducible rfl)
              (try simp only [Act.put, List.setIfInBounds_toArray, List.set_cons_zero, List.set_cons_succ])
              refine takeR 18 (v := ?_) rfl (by kernel_rfl) (by kernel_rfl) (by kernel_rfl) (fun _ _ _ h => h) (by rfl) ?_ hHeld ?_
              rotate_left
              · intro W hSw; (try dsimp only at hSw); go_simp; (try with_reducible rfl)
              (try simp only [Act.put, List.setIfInBounds_toArray, List.set_cons_zero, List.set_cons_succ])
              refine takeR 22 (v := ?_) rfl (by kernel_rfl) (by kernel_rfl) (by kernel_rfl) (fun _ _ _ h => h) (by rfl) ?_ hHeld ?_
              rotate_left
              · intro W hSw; (try dsimp only at hSw); go_simp; (try with_reducible rfl)
              (try simp only [Act.put, List.setIfInBounds_toArray, List.set_cons_zero, List.set_cons_succ])
              refine takeR 23 (v := ?_) rfl (by kernel_rfl) (by kernel_rfl) (by kernel_rfl) (fun _ _ _ h => h) (by rfl) ?_ hHeld ?_
              rotate_left
              · intro W hSw; (try dsimp only at hSw); go_simp; (try with_reducible rfl)
              (try simp only [Act.put, List.setIfInBounds_toArray, List.set_cons_zero, List.set_cons_succ])
              refine takeR 24 (v := ?_) rfl (by kernel_rfl) (by kernel_rfl) (by kernel_rfl) (fun _ _ _ h => h) (by rfl) ?_ hHeld ?_
              rotate_left
              · intro W hSw; (try dsimp only at hSw); go_simp; (try with_reducible rfl)
              (try simp only [Act.put, List.setIfInBounds_toArray, List.set_cons_zero, List.set_cons_succ])
              refine takeR 25 (v := ?_) rfl (by kernel_rfl) (by kernel_rfl) (by kernel_rfl) (fun _ _ _ h => h) (by rfl) ?_ hHeld ?_
              rotate_left
              · intro W hSw; (try dsimp only at hSw); go_simp; (try with_reducible rfl)
              (try simp only [Act.put, List.setIfInBounds_toArray, List.set_cons_zero, List.set_cons_succ])
              refine takeR 26 (v := ?_) rfl (by kernel_rfl) (by kernel_rfl) (by kernel_rfl) (fun _ _ _ h => h) (by rfl) ?_ hHeld ?_
              rotate_left
              · intro W hSw; (try dsimp only at hSw); go_simp; (try with_reducible rfl)
              (try simp only [Act.put, List.setIfInBounds_toArray, List.set_cons_zero, List.set_cons_succ])
              refine takeR 27 (v := ?_) rfl (by kernel_rfl) (by kernel_rfl) (by kernel_rfl) (fun _ _ _ h => h) (by rfl) ?_ hHeld ?_
              rotate_left
              · intro W hSw; (try dsimp only at hSw); go_simp; (try with_reducible rfl)
              (try simp only [Act.put, List.setIfInBounds_toArray, List.set_cons_zero, List.set_cons_succ])
              refine takeR 28 (v := ?_) rfl (by kernel_rfl) (by kernel_rfl) (by kernel_rfl) (fun _ _ _ h => h) (by rfl) ?_ hHeld ?_
              rotate_left
              · intro W hSw; (try dsimp only at hSw); go_simp; (try with_reducible rfl)
              (try simp only [Act.put, List.setIfInBounds_toArray, List.set_cons_zero, List.set_cons_succ])
              refine takeR 29 (v := ?_) rfl (by kernel_rfl) (by kernel_rfl) (by kernel_rfl) (fun _ _ _ h => h) (by rfl) ?_ hHeld ?_
              rotate_left
              · intro W hSw; (try dsimp only at hSw); go_simp; (try with_reducible rfl)
              (try simp only [Act.put, List.setIfInBounds_toArray, List.set_cons_zero, List.set_cons_succ])
              refine takeC 9 rfl (by kernel_rfl) (by rfl) (fun K hK => ?_)
              go_simp
              (go_at_call 68; refine (CDa.out _).mono ?_; rintro e v1 ⟨rfl, b3⟩; have HV1 := Lib.hid (hHeld.1.trans (b3.mono hHeld.1.size)); clear b3)
              (try go_wp2_with fail)
              refine hK.out _ _ (HSW.out _ HV1.out) (fun hHeld2 => ?_)
              clear hK K hHeld
              have hHeld := hHeld2
              clear hHeld2
              (try simp only [Act.put, List.setIfInBounds_toArray, List.set_cons_zero, List.set_cons_succ])
              refine takeR 10 (v := ?_) rfl (by kernel_rfl) (by kernel_rfl) (by kernel_rfl) (fun _ _ _ h => h) (by rfl) ?_ hHeld ?_
              rotate_left
              · intro W hSw; (try dsimp only at hSw); go_simp; (try with_reducible rfl)
              (try simp only [Act.put, List.setIfInBounds_toArray, List.set_cons_zero, List.set_cons_succ])
              refine takeC 19 rfl (by kernel_rfl) (by rfl) (fun K hK => ?_)
              go_simp
              (go_at_call 68; refine (CDb.out _).mono ?_; rintro e v2 ⟨rfl, b3⟩; have HV2 := Lib.hid (hHeld.1.trans (b3.mono hHeld.1.size)); clear b3)
              (try go_wp2_with fail)
              refine hK.out _ _ (HSW.out _ HV2.out) (fun hHeld2 => ?_)
              clear hK K hHeld
              have hHeld := hHeld2
              clear hHeld2
              (try simp only [Act.put, List.setIfInBounds_toArray, List.set_cons_zero, List.set_cons_succ])
              refine takeR 20 (v := ?_) rfl (by kernel_rfl) (by kernel_rfl) (by kernel_rfl) (fun _ _ _ h => h) (by rfl) ?_ hHeld ?_
              rotate_left
              · intro W hSw; (try dsimp only at hSw); go_simp; (try with_reducible rfl)
              (try simp only [Act.put, List.setIfInBounds_toArray, List.set_cons_zero, List.set_cons_succ])
              refine takeR 21 (v := ?_) rfl (by kernel_rfl) (by kernel_rfl) (by kernel_rfl) (fun _ _ _ h => h) (by rfl) ?_ hHeld ?_
              rotate_left
              · intro W hSw; (try dsimp only at hSw); go_simp; (try with_reducible rfl)
              (try simp only [Act.put, List.setIfInBounds_toArray, List.set_cons_zero, List.set_cons_succ])
              refine takeC 30 rfl (by kernel_rfl) (by rfl) (fun K hK => ?_)
              go_simp
              (go_at_call 68; refine (CDc.out _).mono ?_; rintro e v3 ⟨rfl, b3⟩; have HV3 := Lib.hid (hHeld.1.trans (b3.mono hHeld.1.size)); clear b3)
              (try go_wp2_with fail)
              refine hK.out _ _ (HSW.out _ HV3.out) (fun hHeld2 => ?_)
              clear hK K hHeld
              have hHeld := hHeld2
              clear hHeld2
              (try simp only [Act.put, List.setIfInBounds_toArray, List.set_cons_zero, List.set_cons_succ])
              refine takeR 31 (v := ?_) rfl (by kernel_rfl) (by kernel_rfl) (by kernel_rfl) (fun _ _ _ h => h) (by rfl) ?_ hHeld ?_
              rotate_left
              · intro W hSw; (try dsimp only at hSw); go_simp; (try with_reducible rfl)
              (try simp only [Act.put, List.setIfInBounds_toArray, List.set_cons_zero, List.set_cons_succ])
              refine takeR 32 (v := ?_) rfl (by kernel_rfl) (by kernel_rfl) (by kernel_rfl) (fun _ _ _ h => h) (by rfl) ?_ hHeld ?_
              rotate_left
              · intro W hSw; (try dsimp only at hSw); go_simp; (try with_reducible rfl)
              (try simp only [Act.put, List.setIfInBounds_toArray, List.set_cons_zero, List.set_cons_succ])
              refine takeR 33 (v := ?_) rfl (by kernel_rfl) (by kernel_rfl) (by kernel_rfl) (fun _ _ _ h => h) (by rfl) ?_ hHeld ?_
              rotate_left
              · intro W hSw; (try dsimp only at hSw); go_simp; (try with_reducible rfl)
              (try simp only [Act.put, List.setIfInBounds_toArray, List.set_cons_zero, List.set_cons_succ])
              refine wpAnyH_done (by kernel_rfl) ?_ _
              go_wp2
              go_roundw
              case rel => exact ⟨k + 1, by omega, by go_num, by rw [HF.out], Lib.hid (HB.out.trans (hHeld.1.mono HB.out.size))⟩
              case measure => simp [intOf]; omega
          · have hke : k = x.es.length := by omega
            by_cases h0 : x.es.length = 0
            · have HF := Lib.hid (show o ++ ⟨#[45]⟩ = ⟨(join (ltxP x) [124]).toArray⟩ by rw [HO.out, show k = 0 by omega, acc_none (by rw [HPS2.out, List.length_eq_zero_iff.1 h0]; rfl)]; exact HFIN.out)
              have hz : ((x.es.length : Int) == 0) = true := ib_eq (by omega)
              go_wp2
              go_ret
              exact ⟨by rw [← HF.out]; rfl, HB.out⟩
            · have HF := Lib.hid (show o = ⟨(join (ltxP x) [124]).toArray⟩ by rw [HO.out, acc_all (fun e => h0 (by rw [HPS2.out] at e; simpa using e)) (by rw [HPS2.out, List.length_map]; exact hke)]; exact HFIN.out)
              have hz : ((x.es.length : Int) == 0) = false := ib_ne (by omega)
              go_wp2
              go_ret
              exact ⟨by rw [← HF.out]; rfl, HB.out⟩
      · have HE2 := Lib.hid (show o ++ ⟨#[124]⟩ = acc PRE2 PS2 0 by rw [HO.out, acc_all (fun e => h0 (by have := labT_len x; rw [← HPS1.out, e, List.length_nil] at this; omega)) (by rw [HPS1.out, labT_len]; omega), acc_zero, HPR2.out]; simp only [app_ba])
        have hz : ((x.ls.length : Int) == 1) = false := ib_ne (by omega)
        clear h0 hke
        go_wp2
        clear hlt z2 z3 hpr hsz hz
        go_loopw [3, 5] (fun ov iv wr => ∃ k : Nat, k ≤ x.es.length ∧ iv = .int .i64 k ∧ ov = .string (acc PRE2 PS2 k) ∧ Hid (Below w.heap.size w wr)) (fun _ i _ => x.es.length - (intOf i).toNat)
        case atStart => exact ⟨0, Nat.zero_le _, rfl, by rw [HE2.out], HB⟩
        case round =>
          clear HB HE2
          obtain ⟨k, hk, rfl, rfl, HB⟩ := hrel
          obtain ⟨wo, rfl⟩ : ∃ wo : World, wo = wr := ⟨_, rfl⟩
          obtain ⟨z2, z3, hpr⟩ := Y.out _ HB.out
          have hsz := HB.out.size
          obtain ⟨o, ho⟩ : ∃ o : ByteArray, o = acc PRE2 PS2 k := ⟨_, rfl⟩
          have hos : o.size ≤ 40000000 := by rw [ho]; exact SZ2.out k
          have HO := Lib.hid ho
          rw [← ho]
          clear ho z2
          by_cases hlt : k < x.es.length
          · obtain ⟨b2, o2, cs, v, rfl, hb2, hR, hvv, hc⟩ := (H2.out.keep (SameOn.of_below HB.out HS.out)).at_ (k := k) hlt
            have hR : cs = [Value.int .i64 v.f, Value.int .i64 v.l, Value.int .i64 v.t] := hR
            subst hR
            have f0 : wo.cell? ⟨b2, o2 + k * 3, none⟩ = some (.int .i64 v.f) := hc 0 _ rfl
            have f1 : wo.cell? ⟨b2, o2 + k * 3 + 1, none⟩ = some (.int .i64 v.l) := hc 1 _ rfl
            have f2 : wo.cell? ⟨b2, o2 + k * 3 + 2, none⟩ = some (.int .i64 v.t) := hc 2 _ rfl
            have lb2 := World.block_lt_of_cell? wo _ f0
            obtain ⟨⟨q0, q1⟩, ⟨q2, q3⟩, ⟨q4, q5⟩⟩ := WE.out v (List.mem_of_getElem? hvv.out)
            have HP := Lib.hid (show PS2[k]? = some (edgeT v) by rw [HPS2.out, List.getElem?_map, hvv.out]; rfl)
            obtain ⟨da, hda⟩ : ∃ d : ByteArray, d = ⟨(itoa v.f).toArray⟩ := ⟨_, rfl⟩
            have sa : da.size ≤ 21 := by have h := itoa_le q0 q1; rw [hda]; simpa [ByteArray.size] using h
            have CDa := Lib.hid (fun W : World => (show Calls Tryz.prog 68 #[.int .i64 v.f] W (fun e w' => e = .returned (.string da) ∧ Below W.heap.size W w') by rw [hda]; exact dec_all v.f W (by omega) (by omega)))
            obtain ⟨db, hdb⟩ : ∃ d : ByteArray, d = ⟨(itoa v.l).toArray⟩ := ⟨_, rfl⟩
            have sb : db.size ≤ 21 := by have h := itoa_le q2 q3; rw [hdb]; simpa [ByteArray.size] using h
            have CDb := Lib.hid (fun W : World => (show Calls Tryz.prog 68 #[.int .i64 v.l] W (fun e w' => e = .returned (.string db) ∧ Below W.heap.size W w') by rw [hdb]; exact dec_all v.l W (by omega) (by omega)))
            obtain ⟨dc, hdc⟩ : ∃ d : ByteArray, d = ⟨(itoa v.t).toArray⟩ := ⟨_, rfl⟩
            have sc : dc.size ≤ 21 := by have h := itoa_le q4 q5; rw [hdc]; simpa [ByteArray.size] using h
            have CDc := Lib.hid (fun W : World => (show Calls Tryz.prog 68 #[.int .i64 v.t] W (fun e w' => e = .returned (.string dc) ∧ Below W.heap.size W w') by rw [hdc]; exact dec_all v.t W (by omega) (by omega)))
            have g1 : ¬ 9223372036854775807 < da.size + 1 := by omega
            have g2 : ¬ 9223372036854775807 < da.size + 1 + db.size := by omega
            have g3 : ¬ 9223372036854775807 < da.size + 1 + db.size + 1 := by omega
            have g4 : ¬ 9223372036854775807 < da.size + 1 + db.size + 1 + dc.size := by omega
            have g5 : ¬ 9223372036854775807 < o.size + (da.size + 1 + db.size + 1 + dc.size) := by omega
            have g6 : ¬ 9223372036854775807 < o.size + 1 + (da.size + 1 + db.size + 1 + dc.size) := by omega
            have HSW := Lib.hid (fun (W : World) (hW : Below wo.heap.size wo W) => (⟨hW, (hW.cell (p := ⟨pt, 3, none⟩) hpr).trans z3, (hW.cell (p := ⟨b2, o2 + k * 3, none⟩) lb2).trans f0, (hW.cell (p := ⟨b2, o2 + k * 3 + 1, none⟩) lb2).trans f1, (hW.cell (p := ⟨b2, o2 + k * 3 + 2, none⟩) lb2).trans f2⟩ : Below wo.heap.size wo W ∧ W.cell? ⟨pt, 3, none⟩ = some (.slice (some ⟨b2, o2, none⟩) x.es.length c2) ∧ W.cell? ⟨b2, o2 + k * 3, none⟩ = some (.int .i64 v.f) ∧ W.cell? ⟨b2, o2 + k * 3 + 1, none⟩ = some (.int .i64 v.l) ∧ W.cell? ⟨b2, o2 + k * 3 + 2, none⟩ = some (.int .i64 v.t)))
            have HV := Lib.hid (Below.refl wo.heap.size wo)
            clear hc hvv hb2
            by_cases hk0 : k = 0
            · have HF := Lib.hid (show acc PRE2 PS2 (k + 1) = o ++ (da ++ ⟨#[58]⟩ ++ db ++ ⟨#[58]⟩ ++ dc) by rw [hda, hdb, hdc, edgeT_ba, HO.out, hk0]; exact acc_first (by rw [← hk0]; exact HP.out))
              have hgt : ¬ (0 : Int) < (k : Int) := by omega
              clear hk0 hda hdb hdc q0 q1 q2 q3 q4 q5
              go_wp2
              refine wp_region_held_drew (S := (fun W => Below wo.heap.size wo W ∧ W.cell? ⟨pt, 3, none⟩ = some (.slice (some ⟨b2, o2, none⟩) x.es.length c2) ∧ W.cell? ⟨b2, o2 + k * 3, none⟩ = some (.int .i64 v.f) ∧ W.cell? ⟨b2, o2 + k * 3 + 1, none⟩ = some (.int .i64 v.l) ∧ W.cell? ⟨b2, o2 + k * 3 + 2, none⟩ = some (.int .i64 v.t))) (by kernel_rfl) (HSW.out _ HV.out.drew) (fun hHeld => ?_)
              refine takeR 0 (v := ?_) rfl (by kernel_rfl) (by kernel_rfl) (by kernel_rfl) (fun _ _ _ h => h) (by rfl) ?_ hHeld ?_
              rotate_left
              · intro W hSw; (try dsimp only at hSw); go_simp; (try with_reducible rfl)
              (try simp only [Act.put, List.setIfInBounds_toArray, List.set_cons_zero, List.set_cons_succ])
              refine takeR 1 (v := ?_) rfl (by kernel_rfl) (by kernel_rfl) (by kernel_rfl) (fun _ _ _ h => h) (by rfl) ?_ hHeld ?_
              rotate_left
              · intro W hSw; (try dsimp only at hSw); go_simp; (try with_reducible rfl)
              (try simp only [Act.put, List.setIfInBounds_toArray, List.set_cons_zero, List.set_cons_succ])
              refine takeR 2 (v := ?_) rfl (by kernel_rfl) (by kernel_rfl) (by kernel_rfl) (fun _ _ _ h => h) (by rfl) ?_ hHeld ?_
              rotate_left
              · intro W hSw; (try dsimp only at hSw); go_simp; (try with_reducible rfl)
              (try simp only [Act.put, List.setIfInBounds_toArray, List.set_cons_zero, List.set_cons_succ])
              refine takeR 3 (v := ?_) rfl (by kernel_rfl) (by kernel_rfl) (by kernel_rfl) (fun _ _ _ h => h) (by rfl) ?_ hHeld ?_
              rotate_left
              · intro W hSw; (try dsimp only at hSw); go_simp; (try with_reducible rfl)
              (try simp only [Act.put, List.setIfInBounds_toArray, List.set_cons_zero, List.set_cons_succ])
              refine takeR 4 (v := ?_) rfl (by kernel_rfl) (by kernel_rfl) (by kernel_rfl) (fun _ _ _ h => h) (by rfl) ?_ hHeld ?_
              rotate_left
              · intro W hSw; (try dsimp only at hSw); go_simp; (try with_reducible rfl)
              (try simp only [Act.put, List.setIfInBounds_toArray, List.set_cons_zero, List.set_cons_succ])
              refine takeR 5 (v := ?_) rfl (by kernel_rfl) (by kernel_rfl) (by kernel_rfl) (fun _ _ _ h => h) (by rfl) ?_ hHeld ?_
              rotate_left
              · intro W hSw; (try dsimp only at hSw); go_simp; (try with_reducible rfl)
              (try simp only [Act.put, List.setIfInBounds_toArray, List.set_cons_zero, List.set_cons_succ])
              refine takeR 6 (v := ?_) rfl (by kernel_rfl) (by kernel_rfl) (by kernel_rfl) (fun _ _ _ h => h) (by rfl) ?_ hHeld ?_
              rotate_left
              · intro W hSw; (try dsimp only at hSw); go_simp; (try with_reducible rfl)
              (try simp only [Act.put, List.setIfInBounds_toArray, List.set_cons_zero, List.set_cons_succ])
              refine takeR 7 (v := ?_) rfl (by kernel_rfl) (by kernel_rfl) (by kernel_rfl) (fun _ _ _ h => h) (by rfl) ?_ hHeld ?_
              rotate_left
              · intro W hSw; (try dsimp only at hSw); go_simp; (try with_reducible rfl)
              (try simp only [Act.put, List.setIfInBounds_toArray, List.set_cons_zero, List.set_cons_succ])
              refine takeR 8 (v := ?_) rfl (by kernel_rfl) (by kernel_rfl) (by kernel_rfl) (fun _ _ _ h => h) (by rfl) ?_ hHeld ?_
              rotate_left
              · intro W hSw; (try dsimp only at hSw); go_simp; (try with_reducible rfl)
              (try simp only [Act.put, List.setIfInBounds_toArray, List.set_cons_zero, List.set_cons_succ])
              refine takeR 11 (v := ?_) rfl (by kernel_rfl) (by kernel_rfl) (by kernel_rfl) (fun _ _ _ h => h) (by rfl) ?_ hHeld ?_
              rotate_left
              · intro W hSw; (try dsimp only at hSw); go_simp; (try with_reducible rfl)
              (try simp only [Act.put, List.setIfInBounds_toArray, List.set_cons_zero, List.set_cons_succ])
              refine takeR 12 (v := ?_) rfl (by kernel_rfl) (by kernel_rfl) (by kernel_rfl) (fun _ _ _ h => h) (by rfl) ?_ hHeld ?_
              rotate_left
              · intro W hSw; (try dsimp only at hSw); go_simp; (try with_reducible rfl)
              (try simp only [Act.put, List.setIfInBounds_toArray, List.set_cons_zero, List.set_cons_succ])
              refine takeR 13 (v := ?_) rfl (by kernel_rfl) (by kernel_rfl) (by kernel_rfl) (fun _ _ _ h => h) (by rfl) ?_ hHeld ?_
              rotate_left
              · intro W hSw; (try dsimp only at hSw); go_simp; (try with_reducible rfl)
              (try simp only [Act.put, List.setIfInBounds_toArray, List.set_cons_zero, List.set_cons_succ])
              refine takeR 14 (v := ?_) rfl (by kernel_rfl) (by kernel_rfl) (by kernel_rfl) (fun _ _ _ h => h) (by rfl) ?_ hHeld ?_
              rotate_left
              · intro W hSw; (try dsimp only at hSw); go_simp; (try with_reducible rfl)
              (try simp only [Act.put, List.setIfInBounds_toArray, List.set_cons_zero, List.set_cons_succ])
              refine takeR 15 (v := ?_) rfl (by kernel_rfl) (by kernel_rfl) (by kernel_rfl) (fun _ _ _ h => h) (by rfl) ?_ hHeld ?_
              rotate_left
              · intro W hSw; (try dsimp only at hSw); go_simp; (try with_reducible rfl)
              (try simp only [Act.put, List.setIfInBounds_toArray, List.set_cons_zero, List.set_cons_succ])
              refine takeR 16 (v := ?_) rfl (by kernel_rfl) (by kernel_rfl) (by kernel_rfl) (fun _ _ _ h => h) (by rfl) ?_ hHeld ?_
              rotate_left
              · intro W hSw; (try dsimp only at hSw); go_simp; (try with_reducible rfl)
              (try simp only [Act.put, List.setIfInBounds_toArray, List.set_cons_zero, List.set_cons_succ])
              refine takeR 17 (v := ?_) rfl (by kernel_rfl) (by kernel_rfl) (by kernel_rfl) (fun _ _ _ h => h) (by rfl) ?_ hHeld ?_
              rotate_left
              · intro W hSw; (try dsimp only at hSw); go_simp; (try with_reducible rfl)
              (try simp only [Act.put, List.setIfInBounds_toArray, List.set_cons_zero, List.set_cons_succ])
              refine takeR 18 (v := ?_) rfl (by kernel_rfl) (by kernel_rfl) (by kernel_rfl) (fun _ _ _ h => h) (by rfl) ?_ hHeld ?_
              rotate_left
              · intro W hSw; (try dsimp only at hSw); go_simp; (try with_reducible rfl)
              (try simp only [Act.put, List.setIfInBounds_toArray, List.set_cons_zero, List.set_cons_succ])
              refine takeR 22 (v := ?_) rfl (by kernel_rfl) (by kernel_rfl) (by kernel_rfl) (fun _ _ _ h => h) (by rfl) ?_ hHeld ?_
              rotate_left
              · intro W hSw; (try dsimp only at hSw); go_simp; (try with_reducible rfl)
              (try simp only [Act.put, List.setIfInBounds_toArray, List.set_cons_zero, List.set_cons_succ])
              refine takeR 23 (v := ?_) rfl (by kernel_rfl) (by kernel_rfl) (by kernel_rfl) (fun _ _ _ h => h) (by rfl) ?_ hHeld ?_
              rotate_left
              · intro W hSw; (try dsimp only at hSw); go_simp; (try with_reducible rfl)
              (try simp only [Act.put, List.setIfInBounds_toArray, List.set_cons_zero, List.set_cons_succ])
              refine takeR 24 (v := ?_) rfl (by kernel_rfl) (by kernel_rfl) (by kernel_rfl) (fun _ _ _ h => h) (by rfl) ?_ hHeld ?_
              rotate_left
              · intro W hSw; (try dsimp only at hSw); go_simp; (try with_reducible rfl)
              (try simp only [Act.put, List.setIfInBounds_toArray, List.set_cons_zero, List.set_cons_succ])
              refine takeR 25 (v := ?_) rfl (by kernel_rfl) (by kernel_rfl) (by kernel_rfl) (fun _ _ _ h => h) (by rfl) ?_ hHeld ?_
              rotate_left
              · intro W hSw; (try dsimp only at hSw); go_simp; (try with_reducible rfl)
              (try simp only [Act.put, List.setIfInBounds_toArray, List.set_cons_zero, List.set_cons_succ])
              refine takeR 26 (v := ?_) rfl (by kernel_rfl) (by kernel_rfl) (by kernel_rfl) (fun _ _ _ h => h) (by rfl) ?_ hHeld ?_
              rotate_left
              · intro W hSw; (try dsimp only at hSw); go_simp; (try with_reducible rfl)
              (try simp only [Act.put, List.setIfInBounds_toArray, List.set_cons_zero, List.set_cons_succ])
              refine takeR 27 (v := ?_) rfl (by kernel_rfl) (by kernel_rfl) (by kernel_rfl) (fun _ _ _ h => h) (by rfl) ?_ hHeld ?_
              rotate_left
              · intro W hSw; (try dsimp only at hSw); go_simp; (try with_reducible rfl)
              (try simp only [Act.put, List.setIfInBounds_toArray, List.set_cons_zero, List.set_cons_succ])
              refine takeR 28 (v := ?_) rfl (by kernel_rfl) (by kernel_rfl) (by kernel_rfl) (fun _ _ _ h => h) (by rfl) ?_ hHeld ?_
              rotate_left
              · intro W hSw; (try dsimp only at hSw); go_simp; (try with_reducible rfl)
              (try simp only [Act.put, List.setIfInBounds_toArray, List.set_cons_zero, List.set_cons_succ])
              refine takeR 29 (v := ?_) rfl (by kernel_rfl) (by kernel_rfl) (by kernel_rfl) (fun _ _ _ h => h) (by rfl) ?_ hHeld ?_
              rotate_left
              · intro W hSw; (try dsimp only at hSw); go_simp; (try with_reducible rfl)
              (try simp only [Act.put, List.setIfInBounds_toArray, List.set_cons_zero, List.set_cons_succ])
              refine takeC 9 rfl (by kernel_rfl) (by rfl) (fun K hK => ?_)
              go_simp
              (go_at_call 68; refine (CDa.out _).mono ?_; rintro e v1 ⟨rfl, b3⟩; have HV1 := Lib.hid (hHeld.1.trans (b3.mono hHeld.1.size)); clear b3)
              (try go_wp2_with fail)
              refine hK.out _ _ (HSW.out _ HV1.out) (fun hHeld2 => ?_)
              clear hK K hHeld
              have hHeld := hHeld2
              clear hHeld2
              (try simp only [Act.put, List.setIfInBounds_toArray, List.set_cons_zero, List.set_cons_succ])
              refine takeR 10 (v := ?_) rfl (by kernel_rfl) (by kernel_rfl) (by kernel_rfl) (fun _ _ _ h => h) (by rfl) ?_ hHeld ?_
              rotate_left
              · intro W hSw; (try dsimp only at hSw); go_simp; (try with_reducible rfl)
              (try simp only [Act.put, List.setIfInBounds_toArray, List.set_cons_zero, List.set_cons_succ])
              refine takeC 19 rfl (by kernel_rfl) (by rfl) (fun K hK => ?_)
              go_simp
              (go_at_call 68; refine (CDb.out _).mono ?_; rintro e v2 ⟨rfl, b3⟩; have HV2 := Lib.hid (hHeld.1.trans (b3.mono hHeld.1.size)); clear b3)
              (try go_wp2_with fail)
              refine hK.out _ _ (HSW.out _ HV2.out) (fun hHeld2 => ?_)
              clear hK K hHeld
              have hHeld := hHeld2
              clear hHeld2
              (try simp only [Act.put, List.setIfInBounds_toArray, List.set_cons_zero, List.set_cons_succ])
              refine takeR 20 (v := ?_) rfl (by kernel_rfl) (by kernel_rfl) (by kernel_rfl) (fun _ _ _ h => h) (by rfl) ?_ hHeld ?_
              rotate_left
              · intro W hSw; (try dsimp only at hSw); go_simp; (try with_reducible rfl)
              (try simp only [Act.put, List.setIfInBounds_toArray, List.set_cons_zero, List.set_cons_succ])
              refine takeR 21 (v := ?_) rfl (by kernel_rfl) (by kernel_rfl) (by kernel_rfl) (fun _ _ _ h => h) (by rfl) ?_ hHeld ?_
              rotate_left
              · intro W hSw; (try dsimp only at hSw); go_simp; (try with_reducible rfl)
              (try simp only [Act.put, List.setIfInBounds_toArray, List.set_cons_zero, List.set_cons_succ])
              refine takeC 30 rfl (by kernel_rfl) (by rfl) (fun K hK => ?_)
              go_simp
              (go_at_call 68; refine (CDc.out _).mono ?_; rintro e v3 ⟨rfl, b3⟩; have HV3 := Lib.hid (hHeld.1.trans (b3.mono hHeld.1.size)); clear b3)
              (try go_wp2_with fail)
              refine hK.out _ _ (HSW.out _ HV3.out) (fun hHeld2 => ?_)
              clear hK K hHeld
              have hHeld := hHeld2
              clear hHeld2
              (try simp only [Act.put, List.setIfInBounds_toArray, List.set_cons_zero, List.set_cons_succ])
              refine takeR 31 (v := ?_) rfl (by kernel_rfl) (by kernel_rfl) (by kernel_rfl) (fun _ _ _ h => h) (by rfl) ?_ hHeld ?_
              rotate_left
              · intro W hSw; (try dsimp only at hSw); go_simp; (try with_reducible rfl)
              (try simp only [Act.put, List.setIfInBounds_toArray, List.set_cons_zero, List.set_cons_succ])
              refine takeR 32 (v := ?_) rfl (by kernel_rfl) (by kernel_rfl) (by kernel_rfl) (fun _ _ _ h => h) (by rfl) ?_ hHeld ?_
              rotate_left
              · intro W hSw; (try dsimp only at hSw); go_simp; (try with_reducible rfl)
              (try simp only [Act.put, List.setIfInBounds_toArray, List.set_cons_zero, List.set_cons_succ])
              refine takeR 33 (v := ?_) rfl (by kernel_rfl) (by kernel_rfl) (by kernel_rfl) (fun _ _ _ h => h) (by rfl) ?_ hHeld ?_
              rotate_left
              · intro W hSw; (try dsimp only at hSw); go_simp; (try with_reducible rfl)
              (try simp only [Act.put, List.setIfInBounds_toArray, List.set_cons_zero, List.set_cons_succ])
              refine wpAnyH_done (by kernel_rfl) ?_ _
              go_wp2
              go_roundw
              case rel => exact ⟨k + 1, by omega, by go_num, by rw [HF.out], Lib.hid (HB.out.trans (hHeld.1.mono HB.out.size))⟩
              case measure => simp [intOf]; omega
            · have HF := Lib.hid (show acc PRE2 PS2 (k + 1) = o ++ ⟨#[32]⟩ ++ (da ++ ⟨#[58]⟩ ++ db ++ ⟨#[58]⟩ ++ dc) by rw [hda, hdb, hdc, edgeT_ba, HO.out]; exact acc_next hk0 HP.out)
              have hgt : (0 : Int) < (k : Int) := by omega
              clear hk0 hda hdb hdc q0 q1 q2 q3 q4 q5
              go_wp2
              refine wp_region_held_drew (S := (fun W => Below wo.heap.size wo W ∧ W.cell? ⟨pt, 3, none⟩ = some (.slice (some ⟨b2, o2, none⟩) x.es.length c2) ∧ W.cell? ⟨b2, o2 + k * 3, none⟩ = some (.int .i64 v.f) ∧ W.cell? ⟨b2, o2 + k * 3 + 1, none⟩ = some (.int .i64 v.l) ∧ W.cell? ⟨b2, o2 + k * 3 + 2, none⟩ = some (.int .i64 v.t))) (by kernel_rfl) (HSW.out _ HV.out.drew) (fun hHeld => ?_)
              refine takeR 0 (v := ?_) rfl (by kernel_rfl) (by kernel_rfl) (by kernel_rfl) (fun _ _ _ h => h) (by rfl) ?_ hHeld ?_
              rotate_left
              · intro W hSw; (try dsimp only at hSw); go_simp; (try with_reducible rfl)
              (try simp only [Act.put, List.setIfInBounds_toArray, List.set_cons_zero, List.set_cons_succ])
              refine takeR 1 (v := ?_) rfl (by kernel_rfl) (by kernel_rfl) (by kernel_rfl) (fun _ _ _ h => h) (by rfl) ?_ hHeld ?_
              rotate_left
              · intro W hSw; (try dsimp only at hSw); go_simp; (try with_reducible rfl)
              (try simp only [Act.put, List.setIfInBounds_toArray, List.set_cons_zero, List.set_cons_succ])
              refine takeR 2 (v := ?_) rfl (by kernel_rfl) (by kernel_rfl) (by kernel_rfl) (fun _ _ _ h => h) (by rfl) ?_ hHeld ?_
              rotate_left
              · intro W hSw; (try dsimp only at hSw); go_simp; (try with_reducible rfl)
              (try simp only [Act.put, List.setIfInBounds_toArray, List.set_cons_zero, List.set_cons_succ])
              refine takeR 3 (v := ?_) rfl (by kernel_rfl) (by kernel_rfl) (by kernel_rfl) (fun _ _ _ h => h) (by rfl) ?_ hHeld ?_
              rotate_left
              · intro W hSw; (try dsimp only at hSw); go_simp; (try with_reducible rfl)
              (try simp only [Act.put, List.setIfInBounds_toArray, List.set_cons_zero, List.set_cons_succ])
              refine takeR 4 (v := ?_) rfl (by kernel_rfl) (by kernel_rfl) (by kernel_rfl) (fun _ _ _ h => h) (by rfl) ?_ hHeld ?_
              rotate_left
              · intro W hSw; (try dsimp only at hSw); go_simp; (try with_reducible rfl)
              (try simp only [Act.put, List.setIfInBounds_toArray, List.set_cons_zero, List.set_cons_succ])
              refine takeR 5 (v := ?_) rfl (by kernel_rfl) (by kernel_rfl) (by kernel_rfl) (fun _ _ _ h => h) (by rfl) ?_ hHeld ?_
              rotate_left
              · intro W hSw; (try dsimp only at hSw); go_simp; (try with_reducible rfl)
              (try simp only [Act.put, List.setIfInBounds_toArray, List.set_cons_zero, List.set_cons_succ])
              refine takeR 6 (v := ?_) rfl (by kernel_rfl) (by kernel_rfl) (by kernel_rfl) (fun _ _ _ h => h) (by rfl) ?_ hHeld ?_
              rotate_left
              · intro W hSw; (try dsimp only at hSw); go_simp; (try with_reducible rfl)
              (try simp only [Act.put, List.setIfInBounds_toArray, List.set_cons_zero, List.set_cons_succ])
              refine takeR 7 (v := ?_) rfl (by kernel_rfl) (by kernel_rfl) (by kernel_rfl) (fun _ _ _ h => h) (by rfl) ?_ hHeld ?_
              rotate_left
              · intro W hSw; (try dsimp only at hSw); go_simp; (try with_reducible rfl)
              (try simp only [Act.put, List.setIfInBounds_toArray, List.set_cons_zero, List.set_cons_succ])
              refine takeR 8 (v := ?_) rfl (by kernel_rfl) (by kernel_rfl) (by kernel_rfl) (fun _ _ _ h => h) (by rfl) ?_ hHeld ?_
              rotate_left
              · intro W hSw; (try dsimp only at hSw); go_simp; (try with_reducible rfl)
              (try simp only [Act.put, List.setIfInBounds_toArray, List.set_cons_zero, List.set_cons_succ])
              refine takeR 11 (v := ?_) rfl (by kernel_rfl) (by kernel_rfl) (by kernel_rfl) (fun _ _ _ h => h) (by rfl) ?_ hHeld ?_
              rotate_left
              · intro W hSw; (try dsimp only at hSw); go_simp; (try with_reducible rfl)
              (try simp only [Act.put, List.setIfInBounds_toArray, List.set_cons_zero, List.set_cons_succ])
              refine takeR 12 (v := ?_) rfl (by kernel_rfl) (by kernel_rfl) (by kernel_rfl) (fun _ _ _ h => h) (by rfl) ?_ hHeld ?_
              rotate_left
              · intro W hSw; (try dsimp only at hSw); go_simp; (try with_reducible rfl)
              (try simp only [Act.put, List.setIfInBounds_toArray, List.set_cons_zero, List.set_cons_succ])
              refine takeR 13 (v := ?_) rfl (by kernel_rfl) (by kernel_rfl) (by kernel_rfl) (fun _ _ _ h => h) (by rfl) ?_ hHeld ?_
              rotate_left
              · intro W hSw; (try dsimp only at hSw); go_simp; (try with_reducible rfl)
              (try simp only [Act.put, List.setIfInBounds_toArray, List.set_cons_zero, List.set_cons_succ])
              refine takeR 14 (v := ?_) rfl (by kernel_rfl) (by kernel_rfl) (by kernel_rfl) (fun _ _ _ h => h) (by rfl) ?_ hHeld ?_
              rotate_left
              · intro W hSw; (try dsimp only at hSw); go_simp; (try with_reducible rfl)
              (try simp only [Act.put, List.setIfInBounds_toArray, List.set_cons_zero, List.set_cons_succ])
              refine takeR 15 (v := ?_) rfl (by kernel_rfl) (by kernel_rfl) (by kernel_rfl) (fun _ _ _ h => h) (by rfl) ?_ hHeld ?_
              rotate_left
              · intro W hSw; (try dsimp only at hSw); go_simp; (try with_reducible rfl)
              (try simp only [Act.put, List.setIfInBounds_toArray, List.set_cons_zero, List.set_cons_succ])
              refine takeR 16 (v := ?_) rfl (by kernel_rfl) (by kernel_rfl) (by kernel_rfl) (fun _ _ _ h => h) (by rfl) ?_ hHeld ?_
              rotate_left
              · intro W hSw; (try dsimp only at hSw); go_simp; (try with_reducible rfl)
              (try simp only [Act.put, List.setIfInBounds_toArray, List.set_cons_zero, List.set_cons_succ])
              refine takeR 17 (v := ?_) rfl (by kernel_rfl) (by kernel_rfl) (by kernel_rfl) (fun _ _ _ h => h) (by rfl) ?_ hHeld ?_
              rotate_left
              · intro W hSw; (try dsimp only at hSw); go_simp; (try with_reducible rfl)
              (try simp only [Act.put, List.setIfInBounds_toArray, List.set_cons_zero, List.set_cons_succ])
              refine takeR 18 (v := ?_) rfl (by kernel_rfl) (by kernel_rfl) (by kernel_rfl) (fun _ _ _ h => h) (by rfl) ?_ hHeld ?_
              rotate_left
              · intro W hSw; (try dsimp only at hSw); go_simp; (try with_reducible rfl)
              (try simp only [Act.put, List.setIfInBounds_toArray, List.set_cons_zero, List.set_cons_succ])
              refine takeR 22 (v := ?_) rfl (by kernel_rfl) (by kernel_rfl) (by kernel_rfl) (fun _ _ _ h => h) (by rfl) ?_ hHeld ?_
              rotate_left
              · intro W hSw; (try dsimp only at hSw); go_simp; (try with_reducible rfl)
              (try simp only [Act.put, List.setIfInBounds_toArray, List.set_cons_zero, List.set_cons_succ])
              refine takeR 23 (v := ?_) rfl (by kernel_rfl) (by kernel_rfl) (by kernel_rfl) (fun _ _ _ h => h) (by rfl) ?_ hHeld ?_
              rotate_left
              · intro W hSw; (try dsimp only at hSw); go_simp; (try with_reducible rfl)
              (try simp only [Act.put, List.setIfInBounds_toArray, List.set_cons_zero, List.set_cons_succ])
              refine takeR 24 (v := ?_) rfl (by kernel_rfl) (by kernel_rfl) (by kernel_rfl) (fun _ _ _ h => h) (by rfl) ?_ hHeld ?_
              rotate_left
              · intro W hSw; (try dsimp only at hSw); go_simp; (try with_reducible rfl)
              (try simp only [Act.put, List.setIfInBounds_toArray, List.set_cons_zero, List.set_cons_succ])
              refine takeR 25 (v := ?_) rfl (by kernel_rfl) (by kernel_rfl) (by kernel_rfl) (fun _ _ _ h => h) (by rfl) ?_ hHeld ?_
              rotate_left
              · intro W hSw; (try dsimp only at hSw); go_simp; (try with_reducible rfl)
              (try simp only [Act.put, List.setIfInBounds_toArray, List.set_cons_zero, List.set_cons_succ])
              refine takeR 26 (v := ?_) rfl (by kernel_rfl) (by kernel_rfl) (by kernel_rfl) (fun _ _ _ h => h) (by rfl) ?_ hHeld ?_
              rotate_left
              · intro W hSw; (try dsimp only at hSw); go_simp; (try with_reducible rfl)
              (try simp only [Act.put, List.setIfInBounds_toArray, List.set_cons_zero, List.set_cons_succ])
              refine takeR 27 (v := ?_) rfl (by kernel_rfl) (by kernel_rfl) (by kernel_rfl) (fun _ _ _ h => h) (by rfl) ?_ hHeld ?_
              rotate_left
              · intro W hSw; (try dsimp only at hSw); go_simp; (try with_reducible rfl)
              (try simp only [Act.put, List.setIfInBounds_toArray, List.set_cons_zero, List.set_cons_succ])
              refine takeR 28 (v := ?_) rfl (by kernel_rfl) (by kernel_rfl) (by kernel_rfl) (fun _ _ _ h => h) (by rfl) ?_ hHeld ?_
              rotate_left
              · intro W hSw; (try dsimp only at hSw); go_simp; (try with_reducible rfl)
              (try simp only [Act.put, List.setIfInBounds_toArray, List.set_cons_zero, List.set_cons_succ])
              refine takeR 29 (v := ?_) rfl (by kernel_rfl) (by kernel_rfl) (by kernel_rfl) (fun _ _ _ h => h) (by rfl) ?_ hHeld ?_
              rotate_left
              · intro W hSw; (try dsimp only at hSw); go_simp; (try with_reducible rfl)
              (try simp only [Act.put, List.setIfInBounds_toArray, List.set_cons_zero, List.set_cons_succ])
              refine takeC 9 rfl (by kernel_rfl) (by rfl) (fun K hK => ?_)
              go_simp
              (go_at_call 68; refine (CDa.out _).mono ?_; rintro e v1 ⟨rfl, b3⟩; have HV1 := Lib.hid (hHeld.1.trans (b3.mono hHeld.1.size)); clear b3)
              (try go_wp2_with fail)
              refine hK.out _ _ (HSW.out _ HV1.out) (fun hHeld2 => ?_)
              clear hK K hHeld
              have hHeld := hHeld2
              clear hHeld2
              (try simp only [Act.put, List.setIfInBounds_toArray, List.set_cons_zero, List.set_cons_succ])
              refine takeR 10 (v := ?_) rfl (by kernel_rfl) (by kernel_rfl) (by kernel_rfl) (fun _ _ _ h => h) (by rfl) ?_ hHeld ?_
              rotate_left
              · intro W hSw; (try dsimp only at hSw); go_simp; (try with_reducible rfl)
              (try simp only [Act.put, List.setIfInBounds_toArray, List.set_cons_zero, List.set_cons_succ])
              refine takeC 19 rfl (by kernel_rfl) (by rfl) (fun K hK => ?_)
              go_simp
              (go_at_call 68; refine (CDb.out _).mono ?_; rintro e v2 ⟨rfl, b3⟩; have HV2 := Lib.hid (hHeld.1.trans (b3.mono hHeld.1.size)); clear b3)
              (try go_wp2_with fail)
              refine hK.out _ _ (HSW.out _ HV2.out) (fun hHeld2 => ?_)
              clear hK K hHeld
              have hHeld := hHeld2
              clear hHeld2
              (try simp only [Act.put, List.setIfInBounds_toArray, List.set_cons_zero, List.set_cons_succ])
              refine takeR 20 (v := ?_) rfl (by kernel_rfl) (by kernel_rfl) (by kernel_rfl) (fun _ _ _ h => h) (by rfl) ?_ hHeld ?_
              rotate_left
              · intro W hSw; (try dsimp only at hSw); go_simp; (try with_reducible rfl)
              (try simp only [Act.put, List.setIfInBounds_toArray, List.set_cons_zero, List.set_cons_succ])
              refine takeR 21 (v := ?_) rfl (by kernel_rfl) (by kernel_rfl) (by kernel_rfl) (fun _ _ _ h => h) (by rfl) ?_ hHeld ?_
              rotate_left
              · intro W hSw; (try dsimp only at hSw); go_simp; (try with_reducible rfl)
              (try simp only [Act.put, List.setIfInBounds_toArray, List.set_cons_zero, List.set_cons_succ])
              refine takeC 30 rfl (by kernel_rfl) (by rfl) (fun K hK => ?_)
              go_simp
              (go_at_call 68; refine (CDc.out _).mono ?_; rintro e v3 ⟨rfl, b3⟩; have HV3 := Lib.hid (hHeld.1.trans (b3.mono hHeld.1.size)); clear b3)
              (try go_wp2_with fail)
              refine hK.out _ _ (HSW.out _ HV3.out) (fun hHeld2 => ?_)
              clear hK K hHeld
              have hHeld := hHeld2
              clear hHeld2
              (try simp only [Act.put, List.setIfInBounds_toArray, List.set_cons_zero, List.set_cons_succ])
              refine takeR 31 (v := ?_) rfl (by kernel_rfl) (by kernel_rfl) (by kernel_rfl) (fun _ _ _ h => h) (by rfl) ?_ hHeld ?_
              rotate_left
              · intro W hSw; (try dsimp only at hSw); go_simp; (try with_reducible rfl)
              (try simp only [Act.put, List.setIfInBounds_toArray, List.set_cons_zero, List.set_cons_succ])
              refine takeR 32 (v := ?_) rfl (by kernel_rfl) (by kernel_rfl) (by kernel_rfl) (fun _ _ _ h => h) (by rfl) ?_ hHeld ?_
              rotate_left
              · intro W hSw; (try dsimp only at hSw); go_simp; (try with_reducible rfl)
              (try simp only [Act.put, List.setIfInBounds_toArray, List.set_cons_zero, List.set_cons_succ])
              refine takeR 33 (v := ?_) rfl (by kernel_rfl) (by kernel_rfl) (by kernel_rfl) (fun _ _ _ h => h) (by rfl) ?_ hHeld ?_
              rotate_left
              · intro W hSw; (try dsimp only at hSw); go_simp; (try with_reducible rfl)
              (try simp only [Act.put, List.setIfInBounds_toArray, List.set_cons_zero, List.set_cons_succ])
              refine wpAnyH_done (by kernel_rfl) ?_ _
              go_wp2
              go_roundw
              case rel => exact ⟨k + 1, by omega, by go_num, by rw [HF.out], Lib.hid (HB.out.trans (hHeld.1.mono HB.out.size))⟩
              case measure => simp [intOf]; omega
          · have hke : k = x.es.length := by omega
            by_cases h0 : x.es.length = 0
            · have HF := Lib.hid (show o ++ ⟨#[45]⟩ = ⟨(join (ltxP x) [124]).toArray⟩ by rw [HO.out, show k = 0 by omega, acc_none (by rw [HPS2.out, List.length_eq_zero_iff.1 h0]; rfl)]; exact HFIN.out)
              have hz : ((x.es.length : Int) == 0) = true := ib_eq (by omega)
              go_wp2
              go_ret
              exact ⟨by rw [← HF.out]; rfl, HB.out⟩
            · have HF := Lib.hid (show o = ⟨(join (ltxP x) [124]).toArray⟩ by rw [HO.out, acc_all (fun e => h0 (by rw [HPS2.out] at e; simpa using e)) (by rw [HPS2.out, List.length_map]; exact hke)]; exact HFIN.out)
              have hz : ((x.es.length : Int) == 0) = false := ib_ne (by omega)
              go_wp2
              go_ret
              exact ⟨by rw [← HF.out]; rfl, HB.out⟩
set_option maxRecDepth 100000 in
set_option maxHeartbeats 2000000 in
theorem specLtx_any {x : Lt} {cs : List Value} {w : World} {S : Nat → Prop} (h : ltR.R w S x cs) (hS : ∀ b, S b → b < w.heap.size) (ok : okLt x) :
    Calls Tryz.prog 10 #[.agg cs.toArray] w fun e w' => e = .returned (.string (ltx x)) ∧ Below w.heap.size w w' := by
  obtain ⟨A1, c1, A2, c2, rfl, ⟨_, _, r1⟩, ⟨_, _, r2⟩⟩ := h
  have HB := Lib.hid (fun o : Obj => (Below.refl w.heap.size w).alloc (Nat.le_refl _) o)
  have C := Lib.hid (fun (W : World) (hW : Below w.heap.size w W) (q : Nat) (y0 : W.cell? ⟨q, 0, none⟩ = some (.int .i64 x.st)) (y1 : W.cell? ⟨q, 1, none⟩ = some (.int .i64 x.ini)) (y2 : W.cell? ⟨q, 2, none⟩ = some (.slice A1 x.ls.length c1)) (y3 : W.cell? ⟨q, 3, none⟩ = some (.slice A2 x.es.length c2)) => l11Is_any x q A1 A2 c1 c2 W S y0 y1 y2 y3 (r1.keep (SameOn.of_below hW hS)) (r2.keep (SameOn.of_below hW hS)) (fun b hb => Nat.lt_of_lt_of_le (hS b hb) hW.size) ok)
  have CT := Lib.hid (fun (tv : ltB x = true) (W : World) (hW : Below w.heap.size w W) (q : Nat) (y0 : W.cell? ⟨q, 0, none⟩ = some (.int .i64 x.st)) (y1 : W.cell? ⟨q, 1, none⟩ = some (.int .i64 x.ini)) (y2 : W.cell? ⟨q, 2, none⟩ = some (.slice A1 x.ls.length c1)) (y3 : W.cell? ⟨q, 3, none⟩ = some (.slice A2 x.es.length c2)) => l11Text_any x q A1 A2 c1 c2 W S y0 y1 y2 y3 (r1.keep (SameOn.of_below hW hS)) (r2.keep (SameOn.of_below hW hS)) (fun b hb => Nat.lt_of_lt_of_le (hS b hb) hW.size) ok tv)
  clear r1 r2 hS ok
  go_enter Tryz.func10, Tryz.ntmps10
  go_wp2_with fail
  refine (C.out _ (HB.out _) w.heap.size (by simp [go_sem]) (by simp [go_sem]) (by simp [go_sem]) (by simp [go_sem])).mono ?_
  rintro e w2 ⟨rfl, hb2⟩
  obtain ⟨hcc, _⟩ := bcell hb2
  have HB2 := Lib.hid ((HB.out _).trans (hb2.mono (HB.out _).size))
  have y0 : w2.cell? ⟨w.heap.size, 0, none⟩ = some (.int .i64 x.st) := (hcc _ _ (by simp)).trans (by simp [go_sem])
  have y1 : w2.cell? ⟨w.heap.size, 1, none⟩ = some (.int .i64 x.ini) := (hcc _ _ (by simp)).trans (by simp [go_sem])
  have y2 : w2.cell? ⟨w.heap.size, 2, none⟩ = some (.slice A1 x.ls.length c1) := (hcc _ _ (by simp)).trans (by simp [go_sem])
  have y3 : w2.cell? ⟨w.heap.size, 3, none⟩ = some (.slice A2 x.es.length c2) := (hcc _ _ (by simp)).trans (by simp [go_sem])
  clear hb2 hcc
  rcases tv : ltB x with _ | _
  · have HF := Lib.hid (ltx_no tv)
    clear tv
    go_wp2
    go_ret
    exact ⟨by rw [HF.out]; rfl, HB2.out⟩
  · have HF := Lib.hid (ltx_yes tv)
    have C2 := Lib.hid (CT.out tv w2 HB2.out w.heap.size y0 y1 y2 y3)
    clear tv y0 y1 y2 y3
    go_wp2_with (go_at_call 34; refine (C2.out).mono ?_; rintro e w3 ⟨rfl, hb3⟩; have HB3 := Lib.hid (HB2.out.trans (hb3.mono HB2.out.size)); clear hb3)
    go_ret
    exact ⟨by rw [HF.out]; rfl, HB3.out⟩
end Go.Proofs.YthbnfjedjijacaaGreatDoor
