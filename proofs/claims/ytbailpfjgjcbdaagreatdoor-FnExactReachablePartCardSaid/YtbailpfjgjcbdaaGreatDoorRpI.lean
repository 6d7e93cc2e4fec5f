/- The reachable part: the program. -/
import Derived.Test.YtbailpfjgjcbdaaGreatDoorRpN
import Derived.Test.YtbailpfjgjcbdaaGreatDoorRpS
import Derived.Deep.CutRange
import Derived.Deep.RegionHeld3
namespace Go.Proofs.YtbailpfjgjcbdaaGreatDoor
open Go.RowKit Go.Maps
set_option linter.unusedVariables false
set_option linter.unusedSimpArgs false
set_option maxRecDepth 100000 in
set_option maxHeartbeats 8000000 in
theorem implRp_any {x : Lt} {cs : List Value} {w : World} {S : Nat → Prop} (h : ltR.R w S x cs) (hS : ∀ b, S b → b < w.heap.size) (ok : okLt x) (ht : TxtTabs w) :
    Calls Tryz.prog 26 #[.agg cs.toArray] w (RetRp (rpR x) (rchR x) (rchC x) w) := by
  have HB := Lib.hid (fun o o2 : Obj => ((Below.refl w.heap.size w).alloc (Nat.le_refl _) o).alloc (by simp) o2)
  have CR := Lib.hid (fun (W : World) (hW : Below w.heap.size w W) => implRch_any (ltR.keep h (SameOn.of_below hW hS)) (fun b hb => Nat.lt_of_lt_of_le (hS b hb) hW.size) ok (ht.below hW))
  obtain ⟨A1, c1, A2, c2, rfl, ⟨m1, m3, r1⟩, ⟨m2, m4, r2⟩⟩ := h
  have M1 := ok.1.1
  have CL := Lib.hid (fun (W : World) (hW : Below w.heap.size w W) => cloneTxt_any A1 x.ls.length c1 x.ls W S (r1.keep (SameOn.of_below hW hS)) (fun b hb => Nat.lt_of_lt_of_le (hS b hb) hW.size) rfl M1)
  have CO := Lib.hid (fun (k : Int) (W : World) (hW : Below w.heap.size w W) => outOf_any x k A1 A2 c1 c2 W S (r2.keep (SameOn.of_below hW hS)) (fun b hb => Nat.lt_of_lt_of_le (hS b hb) hW.size) ok)
  clear r1 r2 hS ok ht
  go_enter Tryz.func26, Tryz.ntmps26
  go_wp2_with fail
  refine (CR.out _ (HB.out _ _)).mono ?_
  rintro e w2 ⟨A, c, rfl, hO, hb2⟩
  have Y2 := Lib.hid (show Box4 w2 w.heap.size x A1 A2 c1 c2 from Box4.next (x := x) (A1 := A1) (A2 := A2) (c1 := c1) (c2 := c2) ⟨by simp [go_sem], by simp [go_sem], by simp [go_sem], by simp [go_sem]⟩ hb2)
  have HRS := Lib.hid (BoxO.below (BoxO.new' (w := w.alloc _) (lo := w.heap.size + 1) (q := w.heap.size + 1) (by simp) (Nat.le_refl _) _ _ _ _) hb2)
  have HB2 := Lib.hid ((HB.out _ _).trans (hb2.mono (HB.out _ _).size))
  have HS2 := Lib.hid (show w.heap.size + 2 ≤ w2.heap.size from by have := hb2.size; simp at this; exact this)
  have HO := Lib.hid (hO.more (S' := In (w.heap.size + 2) w2.heap.size) (fun b hb => ⟨by have := hb.1; simp at this; exact this, hb.2⟩))
  clear hb2 hO
  rcases tv : ltB x with _ | _
  · have HF := Lib.hid (rchC_no tv)
    have HG := Lib.hid (rchR_no tv)
    have HR := Lib.hid (rpR_no tv)
    have hne : (rchC x != 0) = true := by rw [rchC_no tv]; rfl
    obtain ⟨s0, s1, s2, s3, sf2, sf3, sl⟩ := HRS.out.cells
    obtain ⟨sf0, sf1⟩ := HRS.out.fr
    clear tv
    go_wp2
    have hF := HRS.out.fill (.int .i64 0) (.int .i64 0) (.slice none 0 0) (.slice none 0 0)
    have hbl := HB2.out.grown hF.2 HB2.out.size (fun g e => by cases e; omega)
    obtain ⟨r0, r1, r2, r3, _, _, _⟩ := hF.1.cells
    clear hF s0 s1 s2 s3 sf0 sf1 sf2 sf3
    generalize ((((w2.setCell ⟨w.heap.size + 1, 0, none⟩ (.int .i64 0)).setCell ⟨w.heap.size + 1, 1, none⟩ (.int .i64 0)).setCell ⟨w.heap.size + 1, 2, none⟩ (.slice none 0 0)).setCell ⟨w.heap.size + 1, 3, none⟩ (.slice none 0 0)) = WF at *
    refine bodyPost_ret (v := .tuple #[.agg #[.int .i64 0, .int .i64 0, .slice none 0 0, .slice none 0 0], .slice none 0 0, .int .i64 (rchC x)]) (by simp [results, Tryz.results26, go_sem, r0, r1, r2, r3]; (try rfl)) rfl ?_
    rw [HG.out, HR.out]
    exact ⟨[.int .i64 0, .int .i64 0, .slice none 0 0, .slice none 0 0], none, 0, WF.heap.size, rfl, hbl.size, Nat.le_refl _, OL.nil, ltO_zero, hbl⟩
  · have HF := Lib.hid (rchC_yes tv)
    have HG := Lib.hid (rchR_yes tv)
    have HR := Lib.hid (rpR_yes tv)
    have hne : (rchC x != 0) = false := by rw [rchC_yes tv]; rfl
    have HO2 := Lib.hid (show OL intO 2 w2 (In (w.heap.size + 2) w2.heap.size) A (rchL x).length c (rchL x) by have h := HO.out; rw [HG.out] at h; exact h)
    have HLN := Lib.hid (show (rchL x).length ≤ 40 by have h1 := rchL_len x; have h2 := (ltB_parts tv).1; omega)
    have HKB := Lib.hid (fun (k : Int) (hk : k ∈ rchL x) => (show 0 ≤ k ∧ k < 1000000 from by have h1 := rch_in tv ((mem_rchL tv).1 hk); have h2 := (ltB_parts tv).1; omega))
    have CX := Lib.hid (idxOf_any A (rchL x).length c (rchL x) w2 _ HO2.out.lrow (fun b hb => hb.2) rfl (by have := HLN.out; omega) (rchL_up x) HKB.out)
    have TV := Lib.hid tv
    rw [HG.out]
    clear tv HO
    go_wp2_with (go_at_call 52; refine (CX.out).mono ?_; rintro e w3 ⟨D, rfl, hM, hI, hb3⟩; have HM := Lib.hid hM; have HI := Lib.hid hI; have HB3 := Lib.hid (HB2.out.trans (hb3.mono HB2.out.size)); have HS3 := Lib.hid (owns_lt hM); have HRS3 := Lib.hid (HRS.out.below hb3); have HO3 := Lib.hid (HO2.out.keep (SameB.of_belowB hb3 fun b hb => hb.2)); have Y3 := Lib.hid (Y2.out.next hb3); clear hb3 hM hI)
    have hs3 := HS3.out
    have hs2 := HS2.out
    go_cut [8] from 24 to 33 (fun s8 wx => Rel5 x (rchL x) w3 s8 wx)
    case first =>
      have HLF := Lib.hid (fun (W : World) (hW : Below w3.heap.size w3 W) => look_idx (owns_bel HM.out hW) HI.out (k := x.ini) ((mem_rchL TV.out).2 Rch.ini) (HKB.out _ ((mem_rchL TV.out).2 Rch.ini)))
      have hl1 := HLF.out w3.drew (Below.refl _ _).drew
      have hl2 := fun o : Obj => HLF.out (w3.alloc o).drew ((Below.refl _ _).alloc (Nat.le_refl _) o).drew
      have HBW1 := Lib.hid (Below.refl w3.heap.size w3).drew
      have HBW2 := Lib.hid (fun o : Obj => ((Below.refl w3.heap.size w3).alloc (Nat.le_refl _) o).drew)
      have HBD := Lib.hid HB3.out.drew
      have HBA := Lib.hid (fun o : Obj => (HB3.out.alloc (by omega) o).drew)
      obtain ⟨y0, y1, y2, y3⟩ := Y3.out
      have lp : w.heap.size < w3.heap.size := by omega
      have HSS := Lib.hid (fun (W : World) (hW : Below w3.heap.size w3 W) => (⟨hW, (Y3.out.keep hW (by omega)).2.1, (Y3.out.keep hW (by omega)).2.2.1⟩ : Below w3.heap.size w3 W ∧ W.cell? ⟨w.heap.size, 1, none⟩ = some (.int .i64 x.ini) ∧ W.cell? ⟨w.heap.size, 2, none⟩ = some (.slice A1 x.ls.length c1)))
      go_region_held3 (fun W => Below w3.heap.size w3 W ∧ W.cell? ⟨w.heap.size, 1, none⟩ = some (.int .i64 x.ini) ∧ W.cell? ⟨w.heap.size, 2, none⟩ = some (.slice A1 x.ls.length c1)) (first | exact HSS.out _ HBW1.out | exact HSS.out _ (HBW2.out _) | exact HSS.out _ HBB.out | exact HSS.out _ (HBB.out.alloc HBB.out.size _) | exact HSS.out _ (HBF.out _ _ _ _)) (first
        | (go_at_call 53; refine (CL.out _ (by exact HBA.out _)).mono ?_; rintro e w4 ⟨A4, c4, rfl, hO4, hb4⟩; have HO4a := Lib.hid hO4; have HB4a := Lib.hid hb4; have hbb : Below w3.heap.size w3 w4 := (by exact (HBW2.out _).trans (hb4.mono (by simp))); have HBB := Lib.hid hbb; have hl3 := HLF.out w4 hbb; have hl4 := fun o : Obj => HLF.out (w4.alloc o) (hbb.alloc hbb.size o); obtain ⟨z0, z1, z2, z3⟩ := Y3.out.next hbb; have lp4 := Nat.lt_of_lt_of_le lp hbb.size; have hbx := BoxO.below (BoxO.below (BoxO.new' (w := w3) (lo := w3.heap.size) (q := w3.heap.size) rfl (Nat.le_refl _) (.int .i64 0) (.int .i64 0) (.slice none 0 0) (.slice none 0 0)) (Below.refl _ _).drew) hb4; have HBX := Lib.hid hbx; obtain ⟨q0, q1, q2, q3, qf2, qf3, ql⟩ := hbx.cells; obtain ⟨qf0, qf1⟩ := hbx.fr; have HBF := Lib.hid (fun a b c d : Value => hbb.grown (hbx.fill a b c d).2 hbb.size (fun g e => by cases e; exact Nat.le_refl _)); clear hbx; clear hO4 hb4 hbb)
        | (go_at_call 53; refine (CL.out _ (by exact HBD.out)).mono ?_; rintro e w4 ⟨A4, c4, rfl, hO4, hb4⟩; have HO4 := Lib.hid hO4; have HB4 := Lib.hid hb4; have hbb : Below w3.heap.size w3 w4 := (by exact HBW1.out.trans (hb4.mono (by simp))); have HBB := Lib.hid hbb; have hl3 := HLF.out w4 hbb; have hl4 := fun o : Obj => HLF.out (w4.alloc o) (hbb.alloc hbb.size o); obtain ⟨z0, z1, z2, z3⟩ := Y3.out.next hbb; have lp4 := Nat.lt_of_lt_of_le lp hbb.size; clear hO4 hb4 hbb))
      all_goals (go_wp2_with fail; go_meet; first | exact rel5_first HB4a.out HO4a.out HBX.out | exact rel5_last HB4.out HO4.out)
    case rest =>
      obtain ⟨q, A4, c4, rfl, hbx, hO4, hne4, hq, hbc⟩ := hcut
      have H0 := Lib.hid (PS.start hbx hO4 hne4 hq hbc)
      have HX3 := Lib.hid (ltB_parts TV.out).2.2.2.1
      have HL40 := HLN.out
      clear hbx hO4 hne4 hbc CX CL CR
      go_wp2
      go_loopw [36] (fun i wr => ∃ (j k5 : Nat) (A5 : Option Addr) (c5 : Nat), j ≤ (rchL x).length ∧ i = .int .i64 (j : Int) ∧ Hid (k5 = (rpP x (rchL x) ((rchL x).take j)).length) ∧ Hid (PS x (rchL x) w3 q A4 c4 wr A5 k5 c5 (rpP x (rchL x) ((rchL x).take j)))) (fun i _ => (rchL x).length - (intOf i).toNat)
      case atStart => exact ⟨0, 0, _, _, Nat.zero_le _, rfl, Lib.hid rfl, H0⟩
      case round =>
        clear H0
        obtain ⟨j, k5, A5, c5, hj, rfl, HK5, HP⟩ := hrel
        have hsz := HP.out.bel.size
        have Y5 := Lib.hid (Y3.out.keep HP.out.bel (by omega))
        by_cases hlt : j < (rchL x).length
        · obtain ⟨b, o, k, rfl, hb, r0, hi⟩ := int_row (LRow.keep (F := intR) HO3.out.lrow (SameOn.of_below HP.out.bel (fun b hb => by have := hb.2; omega))) (k := j) hlt
          have lb := World.block_lt_of_cell? wr _ r0
          have C6 := Lib.hid (CO.out k wr (HB3.out.trans (HP.out.bel.mono (by omega))))
          have hxo : (outE x k).length ≤ 300 := Nat.le_trans (List.length_filter_le _ _) HX3.out
          have hk5 : k5 ≤ 12000 := by
            have h1 := rpP_len x (rchL x) ((rchL x).take j)
            have h2 := HX3.out
            have h3 : ((rchL x).take j).length ≤ 40 := by rw [List.length_take]; omega
            have h4 := Nat.mul_le_mul h2 h3
            rw [HK5.out]; omega
          obtain ⟨y0, y1, y2, y3⟩ := Y5.out
          have lp5 : w.heap.size < wr.heap.size := by omega
          obtain ⟨_, _, _, _, _, _, ql⟩ := HP.out.ks.box.cells
          go_wp2_with (go_at_call 54; refine (C6.out).mono ?_; rintro e w5 ⟨Ao, co, rfl, hO5, hb5⟩; have HP5 := Lib.hid (HP.out.below hb5); have HO5 := Lib.hid (hO5.tight flat_ed); have HOI := Lib.hid (fun g (e : (Value.slice Ao (outE x k).length co).ownBlock = some g) => hO5.top g e); have hs5 := hb5.size; clear hb5 hO5)
          have HRT := Lib.hid (fun g (e : (Value.slice A5 k5 c5).ownBlock = some g) => (HP.out.ks.row.lt g e).2)
          have HOQ := Lib.hid (show (Value.slice Ao (outE x k).length co).ownBlock ≠ some q from fun e => by have := (HOI.out q e).1; omega)
          go_loopw [44] (fun i wr2 => ∃ (i2 k6 : Nat) (A6 : Option Addr) (c6 : Nat), i2 ≤ (outE x k).length ∧ k6 ≤ 12000 + i2 ∧ i = .int .i64 (i2 : Int) ∧ Hid (k6 = (rpP x (rchL x) ((rchL x).take j) ++ ((outE x k).take i2).map (reEd (rchL x))).length) ∧ Hid (PS x (rchL x) w3 q A4 c4 wr2 A6 k6 c6 (rpP x (rchL x) ((rchL x).take j) ++ ((outE x k).take i2).map (reEd (rchL x)))) ∧ Hid (OL edO 79 wr2 (fun b => (Value.slice Ao (outE x k).length co).ownBlock = some b) Ao (outE x k).length co (outE x k)) ∧ Hid (∀ g, (Value.slice Ao (outE x k).length co).ownBlock = some g → (Value.slice A6 k6 c6).ownBlock = some g → False) ∧ Hid (w5.heap.size ≤ wr2.heap.size)) (fun i _ => (outE x k).length - (intOf i).toNat)
          case atStart => exact ⟨0, k5, A5, c5, Nat.zero_le _, by omega, rfl, Lib.hid (by simpa using HK5.out), Lib.hid (by simpa using HP5.out), HO5, Lib.hid (fun g e1 e2 => by have h1 := (HOI.out g e1).1; have h2 := HRT.out g e2; omega), Lib.hid (Nat.le_refl _)⟩
          case round =>
            clear HP5 HO5 HK5 HP
            obtain ⟨i2, k6, A6, c6, hi2, hk6, rfl, HK6, HP, HO6, HN6, HS6⟩ := hrel
            have hsz2 := HP.out.bel.size
            have hs6 := HS6.out
            by_cases hlt2 : i2 < (outE x k).length
            · obtain ⟨b2, o2, cs, v, rfl, hb2, hR, hv, hc⟩ := HO6.out.lrow.at_ (k := i2) hlt2
              have hR : cs = [Value.int .i64 v.f, Value.int .i64 v.l, Value.int .i64 v.t] := hR
              subst hR
              have f0 : wr.cell? ⟨b2, o2 + i2 * 3, none⟩ = some (.int .i64 v.f) := hc 0 _ rfl
              have f1 : wr.cell? ⟨b2, o2 + i2 * 3 + 1, none⟩ = some (.int .i64 v.l) := hc 1 _ rfl
              have f2 : wr.cell? ⟨b2, o2 + i2 * 3 + 2, none⟩ = some (.int .i64 v.t) := hc 2 _ rfl
              have lb2 := World.block_lt_of_cell? wr _ f0
              have hmem := List.mem_filter.1 (List.mem_of_getElem? hv.out)
              have hvf : v.f = k := by simpa using hmem.2
              have hF : v.f ∈ rchL x := by rw [hvf]; exact List.mem_of_getElem? hi.out
              have hT : v.t ∈ rchL x := (mem_rchL TV.out).2 (Rch.step hmem.1 ((mem_rchL TV.out).1 hF))
              have hlf := fun o : Obj => look_idx (owns_bel HM.out (HP.out.bel.alloc hsz2 o)) HI.out hF (HKB.out _ hF)
              have hlt' := fun o : Obj => look_idx (owns_bel HM.out (HP.out.bel.alloc hsz2 o)) HI.out hT (HKB.out _ hT)
              have HP2 := Lib.hid (fun o1 o2 : Obj => HP.out.below (((Below.refl wr.heap.size wr).alloc (Nat.le_refl _) o1).alloc (by simp) o2))
              have HO2' := Lib.hid (fun o1 o2 : Obj => HO6.out.keep (SameB.of_below (((Below.refl wr.heap.size wr).alloc (Nat.le_refl _) o1).alloc (by simp) o2)))
              obtain ⟨q0, q1, q2, q3, qf2, qf3, ql⟩ := HP.out.ks.box.cells
              have HT2 := Lib.hid (show rpP x (rchL x) ((rchL x).take j) ++ ((outE x k).take (i2 + 1)).map (reEd (rchL x)) = (rpP x (rchL x) ((rchL x).take j) ++ ((outE x k).take i2).map (reEd (rchL x))) ++ [reEd (rchL x) v] by rw [take_one _ _ _ hv.out, List.map_append, List.append_assoc]; rfl)
              clear hc hmem hvf hF hT
              go_wp2_with (at_builtin; go_loud (refine wpList_append_put el_ed rfl _ _ rfl _ q (.slice A6 k6 c6) k6 (edCs (rpP x (rchL x) ((rchL x).take j) ++ ((outE x k).take i2).map (reEd (rchL x)))) rfl (by exact (HP2.out _ _).ks.row) ⟨wr.heap.size + 1, 0, none⟩ 1 1 (edC (reEd (rchL x) v)) rfl rfl (by decide) (by exact cells_ed _ (reEd (rchL x) v) _ (by simp)) (one_ed _) (by omega) (by simp; omega) ?_; intro A' c' w' ho hg hw; have HP3 := Lib.hid ((HP2.out _ _).put (es' := rpP x (rchL x) ((rchL x).take j) ++ ((outE x k).take (i2 + 1)).map (reEd (rchL x))) (by rw [HT2.out, edCs_snoc]; exact ho) hg hw); have HO3' := Lib.hid ((HO2'.out _ _).keep ((HP2.out _ _).ks.same hg (fun g e1 e2 => HN6.out g e1 e2) HOQ.out (.slice A' (k6 + 1) c'))); have HN3 := Lib.hid (show ∀ g, (Value.slice (some ⟨b2, o2, none⟩) (outE x k).length co).ownBlock = some g → (Value.slice A' (k6 + 1) c').ownBlock = some g → False from fun g e1 e2 => by (rcases hw g e2 with h1 | h1); exact HN6.out g e1 h1; have h2 := (HOI.out g e1).2; simp at h1; omega); have HS3' := Lib.hid (show w5.heap.size ≤ (w'.setCell ⟨q, 3, none⟩ (.slice A' (k6 + 1) c')).heap.size from by have h1 := hg.size; simp [World.setCell] at h1 ⊢; omega); obtain ⟨_, _, _, u3, _, uf3, ul⟩ := ((HP2.out _ _).ks.box.kept hg HP.out.ks.ne).cells; clear ho hg hw))
              go_roundw
              case rel => exact ⟨i2 + 1, k6 + 1, A', c', by omega, by omega, by go_num, Lib.hid (by rw [HT2.out, List.length_append, ← HK6.out]; rfl), HP3, HO3', HN3, HS3'⟩
              case measure => simp [intOf]; omega
            · have hie : i2 = (outE x k).length := by omega
              have HT2 := Lib.hid (show rpP x (rchL x) ((rchL x).take (j + 1)) = rpP x (rchL x) ((rchL x).take j) ++ ((outE x k).take i2).map (reEd (rchL x)) by rw [take_one _ _ _ hi.out, rpP_snoc, hie, List.take_of_length_le (Nat.le_refl _)])
              clear hie
              go_wp2
              go_roundw
              case rel => exact ⟨j + 1, k6, A6, c6, by omega, by go_num, Lib.hid (by rw [HT2.out]; exact HK6.out), Lib.hid (by rw [HT2.out]; exact HP.out)⟩
              case measure => simp [intOf]; omega
        · have hje : j = (rchL x).length := by omega
          have HE := Lib.hid (show rpP x (rchL x) ((rchL x).take j) = rpE x (rchL x) by rw [hje, List.take_of_length_le (Nat.le_refl _)]; exact rpP_all TV.out)
          have hk : k5 = (rpE x (rchL x)).length := by rw [← HE.out]; exact HK5.out
          subst hk
          have HPE := Lib.hid (show PS x (rchL x) w3 q A4 c4 wr A5 (rpE x (rchL x)).length c5 (rpE x (rchL x)) by have h := HP.out; rw [HE.out] at h; exact h)
          have hrs : BoxO wr (w.heap.size + 1) (w.heap.size + 1) [.int .i64 0, .int .i64 0, .slice none 0 0, .slice none 0 0] := own_below HRS3.out HP.out.bel (fun g e => by simp [Value.ownBlock] at e; omega)
          obtain ⟨s0, s1, s2, s3, sf2, sf3, sl⟩ := hrs.cells
          obtain ⟨sf0, sf1⟩ := hrs.fr
          obtain ⟨q0, q1, q2, q3, qf2, qf3, ql⟩ := HP.out.ks.box.cells
          clear hje
          go_wp2
          have hF := hrs.fill (.int .i64 (rchL x).length) (.int .i64 (plI (rchL x) x.ini)) (.slice A4 x.ls.length c4) (.slice A5 (rpE x (rchL x)).length c5)
          have hg := hF.2
          obtain ⟨r0, r1, r2, r3, _, _, _⟩ := hF.1.cells
          have hlab := HPE.out.lab.keep (sameB_grown hg (fun e => by have h1 := (HPE.out.llo _ e).1; omega))
          have hrow := ol_ed (World.ownsRow.kept HPE.out.ks.row hg (.inr (fun e => by have h1 := (HPE.out.ks.row.lt _ e).1; omega))) rfl
          have hlist := (HO3.out.keep (SameB.of_belowB HPE.out.bel (fun b hb => by have h1 := hb.2; omega))).keep (sameB_grown hg (fun hb => by have h1 := hb.1; omega))
          have hbl := (HB3.out.trans (HPE.out.bel.mono (by omega))).grown hg (by omega) (fun g e => by cases e; omega)
          have hz := hg.size
          clear hF hg s0 s1 s2 s3 sf0 sf1 sf2 sf3
          generalize ((((wr.setCell ⟨w.heap.size + 1, 0, none⟩ (.int .i64 (rchL x).length)).setCell ⟨w.heap.size + 1, 1, none⟩ (.int .i64 (plI (rchL x) x.ini))).setCell ⟨w.heap.size + 1, 2, none⟩ (.slice A4 x.ls.length c4)).setCell ⟨w.heap.size + 1, 3, none⟩ (.slice A5 (rpE x (rchL x)).length c5)) = WF at *
          refine bodyPost_ret (v := .tuple #[.agg #[.int .i64 (rchL x).length, .int .i64 (plI (rchL x) x.ini), .slice A4 x.ls.length c4, .slice A5 (rpE x (rchL x)).length c5], .slice A (rchL x).length c, .int .i64 0]) (by simp [results, Tryz.results26, go_sem, r0, r1, r2, r3]; (try rfl)) rfl ?_
          rw [HF.out, HG.out, HR.out]
          exact ⟨[.int .i64 (rchL x).length, .int .i64 (plI (rchL x) x.ini), .slice A4 x.ls.length c4, .slice A5 (rpE x (rchL x)).length c5], A, c, w3.heap.size, rfl, by omega, by omega, hlist.more (fun b hb => ⟨by have h1 := hb.1; omega, by have h2 := hb.2; omega⟩), lt_own (y := rpY x (rchL x)) hlab hrow (fun b hb => ⟨(HPE.out.llo b hb).1, by have h1 := (HPE.out.llo b hb).2; omega⟩) (fun b hb => ⟨by have h1 := hb.1; omega, hb.2⟩) HPE.out.lne, hbl⟩
end Go.Proofs.YtbailpfjgjcbdaaGreatDoor
