/- Deterministic systems: the program. -/
import Derived.Test.YthbnfjedjijacaaGreatDoorLtV
import Derived.Test.YthbnfjedjijacaaGreatDoorDtS
namespace Go.Proofs.YthbnfjedjijacaaGreatDoor
open Go.RowKit
set_option linter.unusedVariables false
set_option linter.unusedSimpArgs false
/-- An edge of a valid system has one of the labels. -/
theorem lab_ix {x : Lt} (hv : ltB x = true) {q : Nat} {e : Ed} (he : x.es[q]? = some e) : ∃ k : Nat, e.l = (k : Int) ∧ k < x.ls.length := by
  have h := List.all_eq_true.1 (ltB_parts hv).2.2.2.2.2 e (List.mem_of_getElem? he)
  obtain ⟨_, ⟨h1, h2⟩, _⟩ := inE_iff.1 h
  exact ⟨e.l.toNat, by omega, by omega⟩
set_option maxRecDepth 100000 in
theorem beside_any (f l t f2 l2 t2 : Int) (w : World) : Calls Tryz.prog 58 #[.agg #[.int .i64 f, .int .i64 l, .int .i64 t], .agg #[.int .i64 f2, .int .i64 l2, .int .i64 t2]] w fun e w' => e = .returned (.bool (f == f2 && l == l2)) ∧ Below w.heap.size w w' := by
  have HB := Lib.hid (fun o1 o2 : Obj => ((Below.refl w.heap.size w).alloc (Nat.le_refl _) o1).alloc (by simp) o2)
  rcases h1 : (f == f2) with _ | _
  · go_enter Tryz.func58, Tryz.ntmps58
    go_wp2
    go_ret
    exact ⟨rfl, HB.out _ _⟩
  · rcases h2 : (l == l2) with _ | _
    · go_enter Tryz.func58, Tryz.ntmps58
      go_wp2
      go_ret
      exact ⟨rfl, HB.out _ _⟩
    · go_enter Tryz.func58, Tryz.ntmps58
      go_wp2
      go_ret
      exact ⟨rfl, HB.out _ _⟩
set_option maxRecDepth 100000 in
set_option maxHeartbeats 8000000 in
theorem implDet_any {x : Lt} {cs : List Value} {w : World} {S : Nat → Prop} (h : ltR.R w S x cs) (hS : ∀ b, S b → b < w.heap.size) (ok : okLt x) (ht : TxtTabs w) :
    Calls Tryz.prog 26 #[.agg cs.toArray] w fun e w' => e = .returned (.bool (detB x)) ∧ Below w.heap.size w w' := by
  have HV0 := Lib.hid (fun (W : World) (hW : Below w.heap.size w W) => implValid_any (ltR.keep h (SameOn.of_below hW hS)) (fun b hb => Nat.lt_of_lt_of_le (hS b hb) hW.size) ok (ht.below hW))
  obtain ⟨A1, c1, A2, c2, rfl, ⟨m1, m3, r1⟩, ⟨m2, m4, r2⟩⟩ := h
  have HB := Lib.hid (fun o : Obj => (Below.refl w.heap.size w).alloc (Nat.le_refl _) o)
  have R1 := Lib.hid r1
  have R2 := Lib.hid r2
  have HS := Lib.hid hS
  have M := ok.2.1
  clear r1 r2 hS ok ht
  go_enter Tryz.func26, Tryz.ntmps26
  go_wp2_with fail
  refine (HV0.out _ (HB.out _)).mono ?_
  rintro e w2 ⟨rfl, hb2⟩
  have hs2 := hb2.size
  simp at hs2
  obtain ⟨hcc, _⟩ := bcell hb2
  have HB2 := Lib.hid ((HB.out _).trans (hb2.mono (HB.out _).size))
  have y2 : w2.cell? ⟨w.heap.size, 2, none⟩ = some (.slice A1 x.ls.length c1) := (hcc _ _ (by simp)).trans (by simp [go_sem])
  have y3 : w2.cell? ⟨w.heap.size, 3, none⟩ = some (.slice A2 x.es.length c2) := (hcc _ _ (by simp)).trans (by simp [go_sem])
  have hpb : w.heap.size < w2.heap.size := by omega
  clear hb2 hcc hs2 HB
  rcases tv : ltB x with _ | _
  · have HF := Lib.hid (detB_no tv)
    clear tv
    go_wp2
    go_ret
    exact ⟨by rw [HF.out]; rfl, HB2.out⟩
  have HF := Lib.hid (detB_eq tv)
  have TV := Lib.hid tv
  clear tv
  go_wp2
  go_loopw [11] (fun i wr => ∃ j : Nat, j ≤ x.es.length ∧ i = .int .i64 (j : Int) ∧ Hid (Below w2.heap.size w2 wr) ∧ Hid (sglB x.es j = true)) (fun i _ => x.es.length - (intOf i).toNat)
  case atStart => exact ⟨0, Nat.zero_le _, rfl, Lib.hid (Below.refl _ _), Lib.hid (sglB_zero _)⟩
  case round =>
    obtain ⟨j, hk, rfl, HB, HE⟩ := hrel
    have HBW := Lib.hid (HB2.out.trans (HB.out.mono HB2.out.size))
    have hsz := HB.out.size
    have hpr : w.heap.size < wr.heap.size := Nat.lt_of_lt_of_le hpb hsz
    have z2 := (HB.out.cell (p := ⟨w.heap.size, 2, none⟩) hpb).trans y2
    have z3 := (HB.out.cell (p := ⟨w.heap.size, 3, none⟩) hpb).trans y3
    by_cases hlt : j < x.es.length
    · obtain ⟨b, o, cs, v, rfl, hb, hR, hv, hc⟩ := (R2.out.keep (SameOn.of_below HBW.out HS.out)).at_ (k := j) hlt
      have hR : cs = [Value.int .i64 v.f, Value.int .i64 v.l, Value.int .i64 v.t] := hR
      subst hR
      obtain ⟨kl, hkl, hkk⟩ := lab_ix TV.out hv.out
      obtain ⟨b4, o4, cs4, t, rfl, hb4, hR4, hu4, hc4⟩ := (R1.out.keep (SameOn.of_below HBW.out HS.out)).at_ (k := kl) hkk
      obtain ⟨rfl, _⟩ := hR4
      have f0 : wr.cell? ⟨b, o + j * 3, none⟩ = some (.int .i64 v.f) := hc 0 _ rfl
      have f1 : wr.cell? ⟨b, o + j * 3 + 1, none⟩ = some (.int .i64 (kl : Int)) := by rw [← hkl]; exact hc 1 _ rfl
      have f2 : wr.cell? ⟨b, o + j * 3 + 2, none⟩ = some (.int .i64 v.t) := hc 2 _ rfl
      have g4 : wr.cell? ⟨b4, o4 + kl, none⟩ = some (.string t) := by have := hc4 0 _ rfl; simpa [txtR] using this
      have lb := World.block_lt_of_cell? wr _ f0
      have l4 := World.block_lt_of_cell? wr _ g4
      have HTAU := Lib.hid (show isT t = (v.l == 0) by
        rw [lab_tau TV.out hu4.out, hkl]
        by_cases h : kl = 0
        · subst h; rfl
        · rw [decide_eq_false h]; symm; simp; omega)
      clear hc hc4
      go_wp2
      obtain ⟨q, hq⟩ : ∃ q, q = wr.alloc (.cells #[.int .i64 v.f, .int .i64 (kl : Int), .int .i64 v.t] 66) := ⟨_, rfl⟩
      rw [← hq]
      have HBQ := Lib.hid (show Below wr.heap.size wr q by rw [hq]; exact (Below.refl _ _).alloc (Nat.le_refl _) _)
      have HBX := Lib.hid (HB.out.trans (HBQ.out.mono hsz))
      have e0 : q.cell? ⟨wr.heap.size, 0, none⟩ = some (.int .i64 v.f) := by rw [hq]; simp [go_sem]
      have e1 : q.cell? ⟨wr.heap.size, 1, none⟩ = some (.int .i64 (kl : Int)) := by rw [hq]; simp [go_sem]
      have e2 : q.cell? ⟨wr.heap.size, 2, none⟩ = some (.int .i64 v.t) := by rw [hq]; simp [go_sem]
      have k2 := (HBQ.out.cell (p := ⟨w.heap.size, 2, none⟩) hpr).trans z2
      have k3 := (HBQ.out.cell (p := ⟨w.heap.size, 3, none⟩) hpr).trans z3
      have k4 := (HBQ.out.cell (p := ⟨b4, o4 + kl, none⟩) l4).trans g4
      have hwq : wr.heap.size < q.heap.size := by rw [hq]; simp
      have hpq : w.heap.size < q.heap.size := by omega
      have lq4 : b4 < q.heap.size := by omega
      have lqb : b < q.heap.size := by omega
      clear hq z2 z3
      rcases tl : (v.l == 0) with _ | _
      case true =>
        have HX := Lib.hid (sglB_bad hlt (badK_tau hv.out tl))
        have ht : (t.toList == [116, 97, 117]) = true := HTAU.out.trans tl
        have HSX := Lib.hid (fun (W : World) (hW : Below q.heap.size q W) => (⟨hW, (hW.cell (p := ⟨w.heap.size, 2, none⟩) hpq).trans k2, (hW.cell (p := ⟨w.heap.size, 3, none⟩) hpq).trans k3, (hW.cell (p := ⟨wr.heap.size, 0, none⟩) hwq).trans e0, (hW.cell (p := ⟨wr.heap.size, 1, none⟩) hwq).trans e1, (hW.cell (p := ⟨wr.heap.size, 2, none⟩) hwq).trans e2, (hW.cell (p := ⟨b4, o4 + kl, none⟩) lq4).trans k4⟩ : Below q.heap.size q W ∧ W.cell? ⟨w.heap.size, 2, none⟩ = some (.slice (some ⟨b4, o4, none⟩) x.ls.length c1) ∧ W.cell? ⟨w.heap.size, 3, none⟩ = some (.slice (some ⟨b, o, none⟩) x.es.length c2) ∧ W.cell? ⟨wr.heap.size, 0, none⟩ = some (.int .i64 v.f) ∧ W.cell? ⟨wr.heap.size, 1, none⟩ = some (.int .i64 (kl : Int)) ∧ W.cell? ⟨wr.heap.size, 2, none⟩ = some (.int .i64 v.t) ∧ W.cell? ⟨b4, o4 + kl, none⟩ = some (.string t)))
        have HV := Lib.hid (Below.refl q.heap.size q)
        refine wp_region_held_drew (S := (fun W => Below q.heap.size q W ∧ W.cell? ⟨w.heap.size, 2, none⟩ = some (.slice (some ⟨b4, o4, none⟩) x.ls.length c1) ∧ W.cell? ⟨w.heap.size, 3, none⟩ = some (.slice (some ⟨b, o, none⟩) x.es.length c2) ∧ W.cell? ⟨wr.heap.size, 0, none⟩ = some (.int .i64 v.f) ∧ W.cell? ⟨wr.heap.size, 1, none⟩ = some (.int .i64 (kl : Int)) ∧ W.cell? ⟨wr.heap.size, 2, none⟩ = some (.int .i64 v.t) ∧ W.cell? ⟨b4, o4 + kl, none⟩ = some (.string t))) (by kernel_rfl) (HSX.out _ HV.out.drew) (fun hHeld => ?_)
        refine takeR 0 (v := ?_) rfl (by kernel_rfl) (by kernel_rfl) (by kernel_rfl) (fun _ _ _ h => h) (by rfl) ?_ hHeld ?_
        rotate_left
        · intro W hSw; (try dsimp only at hSw); go_simp; (try with_reducible rfl)
        (try simp only [Act.put, List.setIfInBounds_toArray, List.set_cons_zero, List.set_cons_succ])
        refine takeR 1 (v := ?_) rfl (by kernel_rfl) (by kernel_rfl) (by kernel_rfl) (fun _ _ _ h => h) (by rfl) ?_ hHeld ?_
        rotate_left
        · intro W hSw; (try dsimp only at hSw); go_simp; (try with_reducible rfl)
        (try simp only [Act.put, List.setIfInBounds_toArray, List.set_cons_zero, List.set_cons_succ])
        refine takeR 2 (v := ?_) rfl (by kernel_rfl) (by kernel_rfl) (by kernel_rfl) (fun _ _ _ h => h) (by rfl) ?_ hHeld ?_
        rotate_left
        · intro W hSw; (try dsimp only at hSw); go_simp; (try with_reducible rfl)
        (try simp only [Act.put, List.setIfInBounds_toArray, List.set_cons_zero, List.set_cons_succ])
        refine takeR 3 (v := ?_) rfl (by kernel_rfl) (by kernel_rfl) (by kernel_rfl) (fun _ _ _ h => h) (by rfl) ?_ hHeld ?_
        rotate_left
        · intro W hSw; (try dsimp only at hSw); go_simp; (try with_reducible rfl)
        (try simp only [Act.put, List.setIfInBounds_toArray, List.set_cons_zero, List.set_cons_succ])
        refine takeR 4 (v := ?_) rfl (by kernel_rfl) (by kernel_rfl) (by kernel_rfl) (fun _ _ _ h => h) (by rfl) ?_ hHeld ?_
        rotate_left
        · intro W hSw; (try dsimp only at hSw); go_simp; (try with_reducible rfl)
        (try simp only [Act.put, List.setIfInBounds_toArray, List.set_cons_zero, List.set_cons_succ])
        refine takeR 5 (v := ?_) rfl (by kernel_rfl) (by kernel_rfl) (by kernel_rfl) (fun _ _ _ h => h) (by rfl) ?_ hHeld ?_
        rotate_left
        · intro W hSw; (try dsimp only at hSw); go_simp; (try with_reducible rfl)
        (try simp only [Act.put, List.setIfInBounds_toArray, List.set_cons_zero, List.set_cons_succ])
        refine takeR 6 (v := ?_) rfl (by kernel_rfl) (by kernel_rfl) (by kernel_rfl) (fun _ _ _ h => h) (by rfl) ?_ hHeld ?_
        rotate_left
        · intro W hSw; (try dsimp only at hSw); go_simp; (try with_reducible rfl)
        (try simp only [Act.put, List.setIfInBounds_toArray, List.set_cons_zero, List.set_cons_succ])
        refine takeR 7 (v := ?_) rfl (by kernel_rfl) (by kernel_rfl) (by kernel_rfl) (fun _ _ _ h => h) (by rfl) ?_ hHeld ?_
        rotate_left
        · intro W hSw; (try dsimp only at hSw); go_simp; (try with_reducible rfl)
        (try simp only [Act.put, List.setIfInBounds_toArray, List.set_cons_zero, List.set_cons_succ])
        refine takeU 8 rfl (by kernel_rfl) (by kernel_rfl) (by kernel_rfl) (fun _ _ _ h => h) (by rfl) hHeld ?_
        (try simp only [Act.put, List.setIfInBounds_toArray, List.set_cons_zero, List.set_cons_succ])
        refine takeU 9 rfl (by kernel_rfl) (by kernel_rfl) (by kernel_rfl) (fun _ _ _ h => h) (by rfl) hHeld ?_
        (try simp only [Act.put, List.setIfInBounds_toArray, List.set_cons_zero, List.set_cons_succ])
        refine takeU 10 rfl (by kernel_rfl) (by kernel_rfl) (by kernel_rfl) (fun _ _ _ h => h) (by rfl) hHeld ?_
        (try simp only [Act.put, List.setIfInBounds_toArray, List.set_cons_zero, List.set_cons_succ])
        refine takeU 11 rfl (by kernel_rfl) (by kernel_rfl) (by kernel_rfl) (fun _ _ _ h => h) (by rfl) hHeld ?_
        (try simp only [Act.put, List.setIfInBounds_toArray, List.set_cons_zero, List.set_cons_succ])
        refine takeU 12 rfl (by kernel_rfl) (by kernel_rfl) (by kernel_rfl) (fun _ _ _ h => h) (by rfl) hHeld ?_
        (try simp only [Act.put, List.setIfInBounds_toArray, List.set_cons_zero, List.set_cons_succ])
        refine takeU 13 rfl (by kernel_rfl) (by kernel_rfl) (by kernel_rfl) (fun _ _ _ h => h) (by rfl) hHeld ?_
        (try simp only [Act.put, List.setIfInBounds_toArray, List.set_cons_zero, List.set_cons_succ])
        refine takeU 14 rfl (by kernel_rfl) (by kernel_rfl) (by kernel_rfl) (fun _ _ _ h => h) (by rfl) hHeld ?_
        (try simp only [Act.put, List.setIfInBounds_toArray, List.set_cons_zero, List.set_cons_succ])
        refine takeU 15 rfl (by kernel_rfl) (by kernel_rfl) (by kernel_rfl) (fun _ _ _ h => h) (by rfl) hHeld ?_
        (try simp only [Act.put, List.setIfInBounds_toArray, List.set_cons_zero, List.set_cons_succ])
        refine takeU 16 rfl (by kernel_rfl) (by kernel_rfl) (by kernel_rfl) (fun _ _ _ h => h) (by rfl) hHeld ?_
        (try simp only [Act.put, List.setIfInBounds_toArray, List.set_cons_zero, List.set_cons_succ])
        refine takeU 17 rfl (by kernel_rfl) (by kernel_rfl) (by kernel_rfl) (fun _ _ _ h => h) (by rfl) hHeld ?_
        (try simp only [Act.put, List.setIfInBounds_toArray, List.set_cons_zero, List.set_cons_succ])
        refine takeU 18 rfl (by kernel_rfl) (by kernel_rfl) (by kernel_rfl) (fun _ _ _ h => h) (by rfl) hHeld ?_
        (try simp only [Act.put, List.setIfInBounds_toArray, List.set_cons_zero, List.set_cons_succ])
        refine takeU 19 rfl (by kernel_rfl) (by kernel_rfl) (by kernel_rfl) (fun _ _ _ h => h) (by rfl) hHeld ?_
        (try simp only [Act.put, List.setIfInBounds_toArray, List.set_cons_zero, List.set_cons_succ])
        refine takeR 20 (v := ?_) rfl (by kernel_rfl) (by kernel_rfl) (by kernel_rfl) (fun _ _ _ h => h) (by rfl) ?_ hHeld ?_
        rotate_left
        · intro W hSw; (try dsimp only at hSw); go_simp; (try with_reducible rfl)
        (try simp only [Act.put, List.setIfInBounds_toArray, List.set_cons_zero, List.set_cons_succ])
        refine wpAnyH_done (by kernel_rfl) ?_ _
        go_wp2
        go_ret
        exact ⟨by rw [HF.out, HX.out]; rfl, HB2.out.trans ((HBX.out.trans (hHeld.1.mono HBX.out.size)).mono HB2.out.size)⟩
      have ht : (t.toList == [116, 97, 117]) = false := HTAU.out.trans tl
      by_cases hj0 : 0 < j
      case neg =>
        have HN := Lib.hid (sglB_next HE.out (show badK x.es j = false by
          obtain rfl : j = 0 := by omega
          rw [badK_zero hv.out]; exact tl))
        have hj1 : ¬ ((0 : Int) < (j : Int)) := by omega
        have HSX := Lib.hid (fun (W : World) (hW : Below q.heap.size q W) => (⟨hW, (hW.cell (p := ⟨w.heap.size, 2, none⟩) hpq).trans k2, (hW.cell (p := ⟨w.heap.size, 3, none⟩) hpq).trans k3, (hW.cell (p := ⟨wr.heap.size, 0, none⟩) hwq).trans e0, (hW.cell (p := ⟨wr.heap.size, 1, none⟩) hwq).trans e1, (hW.cell (p := ⟨wr.heap.size, 2, none⟩) hwq).trans e2, (hW.cell (p := ⟨b4, o4 + kl, none⟩) lq4).trans k4⟩ : Below q.heap.size q W ∧ W.cell? ⟨w.heap.size, 2, none⟩ = some (.slice (some ⟨b4, o4, none⟩) x.ls.length c1) ∧ W.cell? ⟨w.heap.size, 3, none⟩ = some (.slice (some ⟨b, o, none⟩) x.es.length c2) ∧ W.cell? ⟨wr.heap.size, 0, none⟩ = some (.int .i64 v.f) ∧ W.cell? ⟨wr.heap.size, 1, none⟩ = some (.int .i64 (kl : Int)) ∧ W.cell? ⟨wr.heap.size, 2, none⟩ = some (.int .i64 v.t) ∧ W.cell? ⟨b4, o4 + kl, none⟩ = some (.string t)))
        have HV := Lib.hid (Below.refl q.heap.size q)
        refine wp_region_held_drew (S := (fun W => Below q.heap.size q W ∧ W.cell? ⟨w.heap.size, 2, none⟩ = some (.slice (some ⟨b4, o4, none⟩) x.ls.length c1) ∧ W.cell? ⟨w.heap.size, 3, none⟩ = some (.slice (some ⟨b, o, none⟩) x.es.length c2) ∧ W.cell? ⟨wr.heap.size, 0, none⟩ = some (.int .i64 v.f) ∧ W.cell? ⟨wr.heap.size, 1, none⟩ = some (.int .i64 (kl : Int)) ∧ W.cell? ⟨wr.heap.size, 2, none⟩ = some (.int .i64 v.t) ∧ W.cell? ⟨b4, o4 + kl, none⟩ = some (.string t))) (by kernel_rfl) (HSX.out _ HV.out.drew) (fun hHeld => ?_)
        refine takeR 0 (v := ?_) rfl (by kernel_rfl) (by kernel_rfl) (by kernel_rfl) (fun _ _ _ h => h) (by rfl) ?_ hHeld ?_
        rotate_left
        · intro W hSw; (try dsimp only at hSw); go_simp; (try with_reducible rfl)
        (try simp only [Act.put, List.setIfInBounds_toArray, List.set_cons_zero, List.set_cons_succ])
        refine takeR 1 (v := ?_) rfl (by kernel_rfl) (by kernel_rfl) (by kernel_rfl) (fun _ _ _ h => h) (by rfl) ?_ hHeld ?_
        rotate_left
        · intro W hSw; (try dsimp only at hSw); go_simp; (try with_reducible rfl)
        (try simp only [Act.put, List.setIfInBounds_toArray, List.set_cons_zero, List.set_cons_succ])
        refine takeR 2 (v := ?_) rfl (by kernel_rfl) (by kernel_rfl) (by kernel_rfl) (fun _ _ _ h => h) (by rfl) ?_ hHeld ?_
        rotate_left
        · intro W hSw; (try dsimp only at hSw); go_simp; (try with_reducible rfl)
        (try simp only [Act.put, List.setIfInBounds_toArray, List.set_cons_zero, List.set_cons_succ])
        refine takeR 3 (v := ?_) rfl (by kernel_rfl) (by kernel_rfl) (by kernel_rfl) (fun _ _ _ h => h) (by rfl) ?_ hHeld ?_
        rotate_left
        · intro W hSw; (try dsimp only at hSw); go_simp; (try with_reducible rfl)
        (try simp only [Act.put, List.setIfInBounds_toArray, List.set_cons_zero, List.set_cons_succ])
        refine takeR 4 (v := ?_) rfl (by kernel_rfl) (by kernel_rfl) (by kernel_rfl) (fun _ _ _ h => h) (by rfl) ?_ hHeld ?_
        rotate_left
        · intro W hSw; (try dsimp only at hSw); go_simp; (try with_reducible rfl)
        (try simp only [Act.put, List.setIfInBounds_toArray, List.set_cons_zero, List.set_cons_succ])
        refine takeR 5 (v := ?_) rfl (by kernel_rfl) (by kernel_rfl) (by kernel_rfl) (fun _ _ _ h => h) (by rfl) ?_ hHeld ?_
        rotate_left
        · intro W hSw; (try dsimp only at hSw); go_simp; (try with_reducible rfl)
        (try simp only [Act.put, List.setIfInBounds_toArray, List.set_cons_zero, List.set_cons_succ])
        refine takeR 6 (v := ?_) rfl (by kernel_rfl) (by kernel_rfl) (by kernel_rfl) (fun _ _ _ h => h) (by rfl) ?_ hHeld ?_
        rotate_left
        · intro W hSw; (try dsimp only at hSw); go_simp; (try with_reducible rfl)
        (try simp only [Act.put, List.setIfInBounds_toArray, List.set_cons_zero, List.set_cons_succ])
        refine takeR 7 (v := ?_) rfl (by kernel_rfl) (by kernel_rfl) (by kernel_rfl) (fun _ _ _ h => h) (by rfl) ?_ hHeld ?_
        rotate_left
        · intro W hSw; (try dsimp only at hSw); go_simp; (try with_reducible rfl)
        (try simp only [Act.put, List.setIfInBounds_toArray, List.set_cons_zero, List.set_cons_succ])
        refine takeR 8 (v := ?_) rfl (by kernel_rfl) (by kernel_rfl) (by kernel_rfl) (fun _ _ _ h => h) (by rfl) ?_ hHeld ?_
        rotate_left
        · intro W hSw; (try dsimp only at hSw); go_simp; (try with_reducible rfl)
        (try simp only [Act.put, List.setIfInBounds_toArray, List.set_cons_zero, List.set_cons_succ])
        refine takeR 9 (v := ?_) rfl (by kernel_rfl) (by kernel_rfl) (by kernel_rfl) (fun _ _ _ h => h) (by rfl) ?_ hHeld ?_
        rotate_left
        · intro W hSw; (try dsimp only at hSw); go_simp; (try with_reducible rfl)
        (try simp only [Act.put, List.setIfInBounds_toArray, List.set_cons_zero, List.set_cons_succ])
        refine takeR 10 (v := ?_) rfl (by kernel_rfl) (by kernel_rfl) (by kernel_rfl) (fun _ _ _ h => h) (by rfl) ?_ hHeld ?_
        rotate_left
        · intro W hSw; (try dsimp only at hSw); go_simp; (try with_reducible rfl)
        (try simp only [Act.put, List.setIfInBounds_toArray, List.set_cons_zero, List.set_cons_succ])
        refine takeU 11 rfl (by kernel_rfl) (by kernel_rfl) (by kernel_rfl) (fun _ _ _ h => h) (by rfl) hHeld ?_
        (try simp only [Act.put, List.setIfInBounds_toArray, List.set_cons_zero, List.set_cons_succ])
        refine takeU 12 rfl (by kernel_rfl) (by kernel_rfl) (by kernel_rfl) (fun _ _ _ h => h) (by rfl) hHeld ?_
        (try simp only [Act.put, List.setIfInBounds_toArray, List.set_cons_zero, List.set_cons_succ])
        refine takeU 13 rfl (by kernel_rfl) (by kernel_rfl) (by kernel_rfl) (fun _ _ _ h => h) (by rfl) hHeld ?_
        (try simp only [Act.put, List.setIfInBounds_toArray, List.set_cons_zero, List.set_cons_succ])
        refine takeU 14 rfl (by kernel_rfl) (by kernel_rfl) (by kernel_rfl) (fun _ _ _ h => h) (by rfl) hHeld ?_
        (try simp only [Act.put, List.setIfInBounds_toArray, List.set_cons_zero, List.set_cons_succ])
        refine takeU 15 rfl (by kernel_rfl) (by kernel_rfl) (by kernel_rfl) (fun _ _ _ h => h) (by rfl) hHeld ?_
        (try simp only [Act.put, List.setIfInBounds_toArray, List.set_cons_zero, List.set_cons_succ])
        refine takeU 16 rfl (by kernel_rfl) (by kernel_rfl) (by kernel_rfl) (fun _ _ _ h => h) (by rfl) hHeld ?_
        (try simp only [Act.put, List.setIfInBounds_toArray, List.set_cons_zero, List.set_cons_succ])
        refine takeU 17 rfl (by kernel_rfl) (by kernel_rfl) (by kernel_rfl) (fun _ _ _ h => h) (by rfl) hHeld ?_
        (try simp only [Act.put, List.setIfInBounds_toArray, List.set_cons_zero, List.set_cons_succ])
        refine takeU 18 rfl (by kernel_rfl) (by kernel_rfl) (by kernel_rfl) (fun _ _ _ h => h) (by rfl) hHeld ?_
        (try simp only [Act.put, List.setIfInBounds_toArray, List.set_cons_zero, List.set_cons_succ])
        refine takeR 19 (v := ?_) rfl (by kernel_rfl) (by kernel_rfl) (by kernel_rfl) (fun _ _ _ h => h) (by rfl) ?_ hHeld ?_
        rotate_left
        · intro W hSw; (try dsimp only at hSw); go_simp; (try with_reducible rfl)
        (try simp only [Act.put, List.setIfInBounds_toArray, List.set_cons_zero, List.set_cons_succ])
        refine takeR 20 (v := ?_) rfl (by kernel_rfl) (by kernel_rfl) (by kernel_rfl) (fun _ _ _ h => h) (by rfl) ?_ hHeld ?_
        rotate_left
        · intro W hSw; (try dsimp only at hSw); go_simp; (try with_reducible rfl)
        (try simp only [Act.put, List.setIfInBounds_toArray, List.set_cons_zero, List.set_cons_succ])
        refine wpAnyH_done (by kernel_rfl) ?_ _
        go_wp2
        go_roundw
        case rel => exact ⟨j + 1, by omega, by go_num, Lib.hid (HBX.out.trans (hHeld.1.mono HBX.out.size)), HN⟩
        case measure => simp [intOf]; omega
      obtain ⟨i, hi⟩ : ∃ i, j = i + 1 := ⟨j - 1, by omega⟩
      obtain ⟨b', o', cs', u, eA, hb', hR', hu, hc'⟩ := (R2.out.keep (SameOn.of_below HBW.out HS.out)).at_ (k := i) (by omega)
      have hR' : cs' = [Value.int .i64 u.f, Value.int .i64 u.l, Value.int .i64 u.t] := hR'
      subst hR'
      injection eA with eA
      injection eA with e3 e4
      subst e3 e4
      have p0 := (HBQ.out.cell (p := ⟨b, o + i * 3, none⟩) lb).trans (show wr.cell? ⟨b, o + i * 3, none⟩ = some (.int .i64 u.f) from hc' 0 _ rfl)
      have p1 := (HBQ.out.cell (p := ⟨b, o + i * 3 + 1, none⟩) lb).trans (show wr.cell? ⟨b, o + i * 3 + 1, none⟩ = some (.int .i64 u.l) from hc' 1 _ rfl)
      have p2 := (HBQ.out.cell (p := ⟨b, o + i * 3 + 2, none⟩) lb).trans (show wr.cell? ⟨b, o + i * 3 + 2, none⟩ = some (.int .i64 u.t) from hc' 2 _ rfl)
      have hwk : IntKind.i64.wrap ((j : Int) - 1) = (i : Int) := by rw [IntKind.wrap_i64]; omega
      have hin : i < x.es.length := by omega
      have hji : (0 : Int) < (j : Int) := by omega
      have HBK := Lib.hid (show badK x.es j = (v.l == 0 || besE v u) by rw [hi]; rw [hi] at hv; exact badK_succ hv.out hu.out)
      have CB := Lib.hid (fun (W : World) => beside_any v.f (kl : Int) v.t u.f u.l u.t W)
      have HBE := Lib.hid (show besE v u = (v.f == u.f && (kl : Int) == u.l) by unfold besE; rw [hkl])
      clear hc' hi
      rcases tb : (v.f == u.f && (kl : Int) == u.l) with _ | _
      · have HN := Lib.hid (sglB_next HE.out (by rw [HBK.out, tl, HBE.out, tb]; rfl))
        rw [tb] at CB
        have HSX := Lib.hid (fun (W : World) (hW : Below q.heap.size q W) => (⟨hW, (hW.cell (p := ⟨w.heap.size, 2, none⟩) hpq).trans k2, (hW.cell (p := ⟨w.heap.size, 3, none⟩) hpq).trans k3, (hW.cell (p := ⟨wr.heap.size, 0, none⟩) hwq).trans e0, (hW.cell (p := ⟨wr.heap.size, 1, none⟩) hwq).trans e1, (hW.cell (p := ⟨wr.heap.size, 2, none⟩) hwq).trans e2, (hW.cell (p := ⟨b4, o4 + kl, none⟩) lq4).trans k4, (hW.cell (p := ⟨b, o + i * 3, none⟩) lqb).trans p0, (hW.cell (p := ⟨b, o + i * 3 + 1, none⟩) lqb).trans p1, (hW.cell (p := ⟨b, o + i * 3 + 2, none⟩) lqb).trans p2⟩ : Below q.heap.size q W ∧ W.cell? ⟨w.heap.size, 2, none⟩ = some (.slice (some ⟨b4, o4, none⟩) x.ls.length c1) ∧ W.cell? ⟨w.heap.size, 3, none⟩ = some (.slice (some ⟨b, o, none⟩) x.es.length c2) ∧ W.cell? ⟨wr.heap.size, 0, none⟩ = some (.int .i64 v.f) ∧ W.cell? ⟨wr.heap.size, 1, none⟩ = some (.int .i64 (kl : Int)) ∧ W.cell? ⟨wr.heap.size, 2, none⟩ = some (.int .i64 v.t) ∧ W.cell? ⟨b4, o4 + kl, none⟩ = some (.string t) ∧ W.cell? ⟨b, o + i * 3, none⟩ = some (.int .i64 u.f) ∧ W.cell? ⟨b, o + i * 3 + 1, none⟩ = some (.int .i64 u.l) ∧ W.cell? ⟨b, o + i * 3 + 2, none⟩ = some (.int .i64 u.t)))
        have HV := Lib.hid (Below.refl q.heap.size q)
        refine wp_region_held_drew (S := (fun W => Below q.heap.size q W ∧ W.cell? ⟨w.heap.size, 2, none⟩ = some (.slice (some ⟨b4, o4, none⟩) x.ls.length c1) ∧ W.cell? ⟨w.heap.size, 3, none⟩ = some (.slice (some ⟨b, o, none⟩) x.es.length c2) ∧ W.cell? ⟨wr.heap.size, 0, none⟩ = some (.int .i64 v.f) ∧ W.cell? ⟨wr.heap.size, 1, none⟩ = some (.int .i64 (kl : Int)) ∧ W.cell? ⟨wr.heap.size, 2, none⟩ = some (.int .i64 v.t) ∧ W.cell? ⟨b4, o4 + kl, none⟩ = some (.string t) ∧ W.cell? ⟨b, o + i * 3, none⟩ = some (.int .i64 u.f) ∧ W.cell? ⟨b, o + i * 3 + 1, none⟩ = some (.int .i64 u.l) ∧ W.cell? ⟨b, o + i * 3 + 2, none⟩ = some (.int .i64 u.t))) (by kernel_rfl) (HSX.out _ HV.out.drew) (fun hHeld => ?_)
        refine takeR 0 (v := ?_) rfl (by kernel_rfl) (by kernel_rfl) (by kernel_rfl) (fun _ _ _ h => h) (by rfl) ?_ hHeld ?_
        rotate_left
        · intro W hSw; (try dsimp only at hSw); go_simp; (try with_reducible rfl)
        (try simp only [Act.put, List.setIfInBounds_toArray, List.set_cons_zero, List.set_cons_succ])
        refine takeR 1 (v := ?_) rfl (by kernel_rfl) (by kernel_rfl) (by kernel_rfl) (fun _ _ _ h => h) (by rfl) ?_ hHeld ?_
        rotate_left
        · intro W hSw; (try dsimp only at hSw); go_simp; (try with_reducible rfl)
        (try simp only [Act.put, List.setIfInBounds_toArray, List.set_cons_zero, List.set_cons_succ])
        refine takeR 2 (v := ?_) rfl (by kernel_rfl) (by kernel_rfl) (by kernel_rfl) (fun _ _ _ h => h) (by rfl) ?_ hHeld ?_
        rotate_left
        · intro W hSw; (try dsimp only at hSw); go_simp; (try with_reducible rfl)
        (try simp only [Act.put, List.setIfInBounds_toArray, List.set_cons_zero, List.set_cons_succ])
        refine takeR 3 (v := ?_) rfl (by kernel_rfl) (by kernel_rfl) (by kernel_rfl) (fun _ _ _ h => h) (by rfl) ?_ hHeld ?_
        rotate_left
        · intro W hSw; (try dsimp only at hSw); go_simp; (try with_reducible rfl)
        (try simp only [Act.put, List.setIfInBounds_toArray, List.set_cons_zero, List.set_cons_succ])
        refine takeR 4 (v := ?_) rfl (by kernel_rfl) (by kernel_rfl) (by kernel_rfl) (fun _ _ _ h => h) (by rfl) ?_ hHeld ?_
        rotate_left
        · intro W hSw; (try dsimp only at hSw); go_simp; (try with_reducible rfl)
        (try simp only [Act.put, List.setIfInBounds_toArray, List.set_cons_zero, List.set_cons_succ])
        refine takeR 5 (v := ?_) rfl (by kernel_rfl) (by kernel_rfl) (by kernel_rfl) (fun _ _ _ h => h) (by rfl) ?_ hHeld ?_
        rotate_left
        · intro W hSw; (try dsimp only at hSw); go_simp; (try with_reducible rfl)
        (try simp only [Act.put, List.setIfInBounds_toArray, List.set_cons_zero, List.set_cons_succ])
        refine takeR 6 (v := ?_) rfl (by kernel_rfl) (by kernel_rfl) (by kernel_rfl) (fun _ _ _ h => h) (by rfl) ?_ hHeld ?_
        rotate_left
        · intro W hSw; (try dsimp only at hSw); go_simp; (try with_reducible rfl)
        (try simp only [Act.put, List.setIfInBounds_toArray, List.set_cons_zero, List.set_cons_succ])
        refine takeR 7 (v := ?_) rfl (by kernel_rfl) (by kernel_rfl) (by kernel_rfl) (fun _ _ _ h => h) (by rfl) ?_ hHeld ?_
        rotate_left
        · intro W hSw; (try dsimp only at hSw); go_simp; (try with_reducible rfl)
        (try simp only [Act.put, List.setIfInBounds_toArray, List.set_cons_zero, List.set_cons_succ])
        refine takeR 8 (v := ?_) rfl (by kernel_rfl) (by kernel_rfl) (by kernel_rfl) (fun _ _ _ h => h) (by rfl) ?_ hHeld ?_
        rotate_left
        · intro W hSw; (try dsimp only at hSw); go_simp; (try with_reducible rfl)
        (try simp only [Act.put, List.setIfInBounds_toArray, List.set_cons_zero, List.set_cons_succ])
        refine takeR 9 (v := ?_) rfl (by kernel_rfl) (by kernel_rfl) (by kernel_rfl) (fun _ _ _ h => h) (by rfl) ?_ hHeld ?_
        rotate_left
        · intro W hSw; (try dsimp only at hSw); go_simp; (try with_reducible rfl)
        (try simp only [Act.put, List.setIfInBounds_toArray, List.set_cons_zero, List.set_cons_succ])
        refine takeR 10 (v := ?_) rfl (by kernel_rfl) (by kernel_rfl) (by kernel_rfl) (fun _ _ _ h => h) (by rfl) ?_ hHeld ?_
        rotate_left
        · intro W hSw; (try dsimp only at hSw); go_simp; (try with_reducible rfl)
        (try simp only [Act.put, List.setIfInBounds_toArray, List.set_cons_zero, List.set_cons_succ])
        refine takeR 11 (v := ?_) rfl (by kernel_rfl) (by kernel_rfl) (by kernel_rfl) (fun _ _ _ h => h) (by rfl) ?_ hHeld ?_
        rotate_left
        · intro W hSw; (try dsimp only at hSw); go_simp; (try with_reducible rfl)
        (try simp only [Act.put, List.setIfInBounds_toArray, List.set_cons_zero, List.set_cons_succ])
        refine takeR 12 (v := ?_) rfl (by kernel_rfl) (by kernel_rfl) (by kernel_rfl) (fun _ _ _ h => h) (by rfl) ?_ hHeld ?_
        rotate_left
        · intro W hSw; (try dsimp only at hSw); go_simp; (try with_reducible rfl)
        (try simp only [Act.put, List.setIfInBounds_toArray, List.set_cons_zero, List.set_cons_succ])
        refine takeR 13 (v := ?_) rfl (by kernel_rfl) (by kernel_rfl) (by kernel_rfl) (fun _ _ _ h => h) (by rfl) ?_ hHeld ?_
        rotate_left
        · intro W hSw; (try dsimp only at hSw); go_simp; (try with_reducible rfl)
        (try simp only [Act.put, List.setIfInBounds_toArray, List.set_cons_zero, List.set_cons_succ])
        refine takeR 14 (v := ?_) rfl (by kernel_rfl) (by kernel_rfl) (by kernel_rfl) (fun _ _ _ h => h) (by rfl) ?_ hHeld ?_
        rotate_left
        · intro W hSw; (try dsimp only at hSw); go_simp; (try with_reducible rfl)
        (try simp only [Act.put, List.setIfInBounds_toArray, List.set_cons_zero, List.set_cons_succ])
        refine takeR 15 (v := ?_) rfl (by kernel_rfl) (by kernel_rfl) (by kernel_rfl) (fun _ _ _ h => h) (by rfl) ?_ hHeld ?_
        rotate_left
        · intro W hSw; (try dsimp only at hSw); go_simp; (try with_reducible rfl)
        (try simp only [Act.put, List.setIfInBounds_toArray, List.set_cons_zero, List.set_cons_succ])
        refine takeR 16 (v := ?_) rfl (by kernel_rfl) (by kernel_rfl) (by kernel_rfl) (fun _ _ _ h => h) (by rfl) ?_ hHeld ?_
        rotate_left
        · intro W hSw; (try dsimp only at hSw); go_simp; (try with_reducible rfl)
        (try simp only [Act.put, List.setIfInBounds_toArray, List.set_cons_zero, List.set_cons_succ])
        refine takeR 17 (v := ?_) rfl (by kernel_rfl) (by kernel_rfl) (by kernel_rfl) (fun _ _ _ h => h) (by rfl) ?_ hHeld ?_
        rotate_left
        · intro W hSw; (try dsimp only at hSw); go_simp; (try with_reducible rfl)
        (try simp only [Act.put, List.setIfInBounds_toArray, List.set_cons_zero, List.set_cons_succ])
        refine takeC 18 rfl (by kernel_rfl) (by rfl) (fun K hK => ?_)
        go_simp
        (go_at_call 58; refine (CB.out _).mono ?_; rintro e w5 ⟨rfl, hb5⟩; have HV5 := Lib.hid (HV.out.drew.trans (hb5.mono HV.out.drew.size)); clear hb5)
        (try go_wp2_with fail)
        refine hK.out _ _ (HSX.out _ HV5.out) (fun hHeld2 => ?_)
        clear hK K hHeld
        have hHeld := hHeld2
        clear hHeld2
        (try simp only [Act.put, List.setIfInBounds_toArray, List.set_cons_zero, List.set_cons_succ])
        refine takeR 19 (v := ?_) rfl (by kernel_rfl) (by kernel_rfl) (by kernel_rfl) (fun _ _ _ h => h) (by rfl) ?_ hHeld ?_
        rotate_left
        · intro W hSw; (try dsimp only at hSw); go_simp; (try with_reducible rfl)
        (try simp only [Act.put, List.setIfInBounds_toArray, List.set_cons_zero, List.set_cons_succ])
        refine takeR 20 (v := ?_) rfl (by kernel_rfl) (by kernel_rfl) (by kernel_rfl) (fun _ _ _ h => h) (by rfl) ?_ hHeld ?_
        rotate_left
        · intro W hSw; (try dsimp only at hSw); go_simp; (try with_reducible rfl)
        (try simp only [Act.put, List.setIfInBounds_toArray, List.set_cons_zero, List.set_cons_succ])
        refine wpAnyH_done (by kernel_rfl) ?_ _
        go_wp2
        go_roundw
        case rel => exact ⟨j + 1, by omega, by go_num, Lib.hid (HBX.out.trans (hHeld.1.mono HBX.out.size)), HN⟩
        case measure => simp [intOf]; omega
      · have HX := Lib.hid (sglB_bad hlt (by rw [HBK.out, HBE.out, tb]; simp))
        rw [tb] at CB
        have HSX := Lib.hid (fun (W : World) (hW : Below q.heap.size q W) => (⟨hW, (hW.cell (p := ⟨w.heap.size, 2, none⟩) hpq).trans k2, (hW.cell (p := ⟨w.heap.size, 3, none⟩) hpq).trans k3, (hW.cell (p := ⟨wr.heap.size, 0, none⟩) hwq).trans e0, (hW.cell (p := ⟨wr.heap.size, 1, none⟩) hwq).trans e1, (hW.cell (p := ⟨wr.heap.size, 2, none⟩) hwq).trans e2, (hW.cell (p := ⟨b4, o4 + kl, none⟩) lq4).trans k4, (hW.cell (p := ⟨b, o + i * 3, none⟩) lqb).trans p0, (hW.cell (p := ⟨b, o + i * 3 + 1, none⟩) lqb).trans p1, (hW.cell (p := ⟨b, o + i * 3 + 2, none⟩) lqb).trans p2⟩ : Below q.heap.size q W ∧ W.cell? ⟨w.heap.size, 2, none⟩ = some (.slice (some ⟨b4, o4, none⟩) x.ls.length c1) ∧ W.cell? ⟨w.heap.size, 3, none⟩ = some (.slice (some ⟨b, o, none⟩) x.es.length c2) ∧ W.cell? ⟨wr.heap.size, 0, none⟩ = some (.int .i64 v.f) ∧ W.cell? ⟨wr.heap.size, 1, none⟩ = some (.int .i64 (kl : Int)) ∧ W.cell? ⟨wr.heap.size, 2, none⟩ = some (.int .i64 v.t) ∧ W.cell? ⟨b4, o4 + kl, none⟩ = some (.string t) ∧ W.cell? ⟨b, o + i * 3, none⟩ = some (.int .i64 u.f) ∧ W.cell? ⟨b, o + i * 3 + 1, none⟩ = some (.int .i64 u.l) ∧ W.cell? ⟨b, o + i * 3 + 2, none⟩ = some (.int .i64 u.t)))
        have HV := Lib.hid (Below.refl q.heap.size q)
        refine wp_region_held_drew (S := (fun W => Below q.heap.size q W ∧ W.cell? ⟨w.heap.size, 2, none⟩ = some (.slice (some ⟨b4, o4, none⟩) x.ls.length c1) ∧ W.cell? ⟨w.heap.size, 3, none⟩ = some (.slice (some ⟨b, o, none⟩) x.es.length c2) ∧ W.cell? ⟨wr.heap.size, 0, none⟩ = some (.int .i64 v.f) ∧ W.cell? ⟨wr.heap.size, 1, none⟩ = some (.int .i64 (kl : Int)) ∧ W.cell? ⟨wr.heap.size, 2, none⟩ = some (.int .i64 v.t) ∧ W.cell? ⟨b4, o4 + kl, none⟩ = some (.string t) ∧ W.cell? ⟨b, o + i * 3, none⟩ = some (.int .i64 u.f) ∧ W.cell? ⟨b, o + i * 3 + 1, none⟩ = some (.int .i64 u.l) ∧ W.cell? ⟨b, o + i * 3 + 2, none⟩ = some (.int .i64 u.t))) (by kernel_rfl) (HSX.out _ HV.out.drew) (fun hHeld => ?_)
        refine takeR 0 (v := ?_) rfl (by kernel_rfl) (by kernel_rfl) (by kernel_rfl) (fun _ _ _ h => h) (by rfl) ?_ hHeld ?_
        rotate_left
        · intro W hSw; (try dsimp only at hSw); go_simp; (try with_reducible rfl)
        (try simp only [Act.put, List.setIfInBounds_toArray, List.set_cons_zero, List.set_cons_succ])
        refine takeR 1 (v := ?_) rfl (by kernel_rfl) (by kernel_rfl) (by kernel_rfl) (fun _ _ _ h => h) (by rfl) ?_ hHeld ?_
        rotate_left
        · intro W hSw; (try dsimp only at hSw); go_simp; (try with_reducible rfl)
        (try simp only [Act.put, List.setIfInBounds_toArray, List.set_cons_zero, List.set_cons_succ])
        refine takeR 2 (v := ?_) rfl (by kernel_rfl) (by kernel_rfl) (by kernel_rfl) (fun _ _ _ h => h) (by rfl) ?_ hHeld ?_
        rotate_left
        · intro W hSw; (try dsimp only at hSw); go_simp; (try with_reducible rfl)
        (try simp only [Act.put, List.setIfInBounds_toArray, List.set_cons_zero, List.set_cons_succ])
        refine takeR 3 (v := ?_) rfl (by kernel_rfl) (by kernel_rfl) (by kernel_rfl) (fun _ _ _ h => h) (by rfl) ?_ hHeld ?_
        rotate_left
        · intro W hSw; (try dsimp only at hSw); go_simp; (try with_reducible rfl)
        (try simp only [Act.put, List.setIfInBounds_toArray, List.set_cons_zero, List.set_cons_succ])
        refine takeR 4 (v := ?_) rfl (by kernel_rfl) (by kernel_rfl) (by kernel_rfl) (fun _ _ _ h => h) (by rfl) ?_ hHeld ?_
        rotate_left
        · intro W hSw; (try dsimp only at hSw); go_simp; (try with_reducible rfl)
        (try simp only [Act.put, List.setIfInBounds_toArray, List.set_cons_zero, List.set_cons_succ])
        refine takeR 5 (v := ?_) rfl (by kernel_rfl) (by kernel_rfl) (by kernel_rfl) (fun _ _ _ h => h) (by rfl) ?_ hHeld ?_
        rotate_left
        · intro W hSw; (try dsimp only at hSw); go_simp; (try with_reducible rfl)
        (try simp only [Act.put, List.setIfInBounds_toArray, List.set_cons_zero, List.set_cons_succ])
        refine takeR 6 (v := ?_) rfl (by kernel_rfl) (by kernel_rfl) (by kernel_rfl) (fun _ _ _ h => h) (by rfl) ?_ hHeld ?_
        rotate_left
        · intro W hSw; (try dsimp only at hSw); go_simp; (try with_reducible rfl)
        (try simp only [Act.put, List.setIfInBounds_toArray, List.set_cons_zero, List.set_cons_succ])
        refine takeR 7 (v := ?_) rfl (by kernel_rfl) (by kernel_rfl) (by kernel_rfl) (fun _ _ _ h => h) (by rfl) ?_ hHeld ?_
        rotate_left
        · intro W hSw; (try dsimp only at hSw); go_simp; (try with_reducible rfl)
        (try simp only [Act.put, List.setIfInBounds_toArray, List.set_cons_zero, List.set_cons_succ])
        refine takeR 8 (v := ?_) rfl (by kernel_rfl) (by kernel_rfl) (by kernel_rfl) (fun _ _ _ h => h) (by rfl) ?_ hHeld ?_
        rotate_left
        · intro W hSw; (try dsimp only at hSw); go_simp; (try with_reducible rfl)
        (try simp only [Act.put, List.setIfInBounds_toArray, List.set_cons_zero, List.set_cons_succ])
        refine takeR 9 (v := ?_) rfl (by kernel_rfl) (by kernel_rfl) (by kernel_rfl) (fun _ _ _ h => h) (by rfl) ?_ hHeld ?_
        rotate_left
        · intro W hSw; (try dsimp only at hSw); go_simp; (try with_reducible rfl)
        (try simp only [Act.put, List.setIfInBounds_toArray, List.set_cons_zero, List.set_cons_succ])
        refine takeR 10 (v := ?_) rfl (by kernel_rfl) (by kernel_rfl) (by kernel_rfl) (fun _ _ _ h => h) (by rfl) ?_ hHeld ?_
        rotate_left
        · intro W hSw; (try dsimp only at hSw); go_simp; (try with_reducible rfl)
        (try simp only [Act.put, List.setIfInBounds_toArray, List.set_cons_zero, List.set_cons_succ])
        refine takeR 11 (v := ?_) rfl (by kernel_rfl) (by kernel_rfl) (by kernel_rfl) (fun _ _ _ h => h) (by rfl) ?_ hHeld ?_
        rotate_left
        · intro W hSw; (try dsimp only at hSw); go_simp; (try with_reducible rfl)
        (try simp only [Act.put, List.setIfInBounds_toArray, List.set_cons_zero, List.set_cons_succ])
        refine takeR 12 (v := ?_) rfl (by kernel_rfl) (by kernel_rfl) (by kernel_rfl) (fun _ _ _ h => h) (by rfl) ?_ hHeld ?_
        rotate_left
        · intro W hSw; (try dsimp only at hSw); go_simp; (try with_reducible rfl)
        (try simp only [Act.put, List.setIfInBounds_toArray, List.set_cons_zero, List.set_cons_succ])
        refine takeR 13 (v := ?_) rfl (by kernel_rfl) (by kernel_rfl) (by kernel_rfl) (fun _ _ _ h => h) (by rfl) ?_ hHeld ?_
        rotate_left
        · intro W hSw; (try dsimp only at hSw); go_simp; (try with_reducible rfl)
        (try simp only [Act.put, List.setIfInBounds_toArray, List.set_cons_zero, List.set_cons_succ])
        refine takeR 14 (v := ?_) rfl (by kernel_rfl) (by kernel_rfl) (by kernel_rfl) (fun _ _ _ h => h) (by rfl) ?_ hHeld ?_
        rotate_left
        · intro W hSw; (try dsimp only at hSw); go_simp; (try with_reducible rfl)
        (try simp only [Act.put, List.setIfInBounds_toArray, List.set_cons_zero, List.set_cons_succ])
        refine takeR 15 (v := ?_) rfl (by kernel_rfl) (by kernel_rfl) (by kernel_rfl) (fun _ _ _ h => h) (by rfl) ?_ hHeld ?_
        rotate_left
        · intro W hSw; (try dsimp only at hSw); go_simp; (try with_reducible rfl)
        (try simp only [Act.put, List.setIfInBounds_toArray, List.set_cons_zero, List.set_cons_succ])
        refine takeR 16 (v := ?_) rfl (by kernel_rfl) (by kernel_rfl) (by kernel_rfl) (fun _ _ _ h => h) (by rfl) ?_ hHeld ?_
        rotate_left
        · intro W hSw; (try dsimp only at hSw); go_simp; (try with_reducible rfl)
        (try simp only [Act.put, List.setIfInBounds_toArray, List.set_cons_zero, List.set_cons_succ])
        refine takeR 17 (v := ?_) rfl (by kernel_rfl) (by kernel_rfl) (by kernel_rfl) (fun _ _ _ h => h) (by rfl) ?_ hHeld ?_
        rotate_left
        · intro W hSw; (try dsimp only at hSw); go_simp; (try with_reducible rfl)
        (try simp only [Act.put, List.setIfInBounds_toArray, List.set_cons_zero, List.set_cons_succ])
        refine takeC 18 rfl (by kernel_rfl) (by rfl) (fun K hK => ?_)
        go_simp
        (go_at_call 58; refine (CB.out _).mono ?_; rintro e w5 ⟨rfl, hb5⟩; have HV5 := Lib.hid (HV.out.drew.trans (hb5.mono HV.out.drew.size)); clear hb5)
        (try go_wp2_with fail)
        refine hK.out _ _ (HSX.out _ HV5.out) (fun hHeld2 => ?_)
        clear hK K hHeld
        have hHeld := hHeld2
        clear hHeld2
        (try simp only [Act.put, List.setIfInBounds_toArray, List.set_cons_zero, List.set_cons_succ])
        refine takeR 19 (v := ?_) rfl (by kernel_rfl) (by kernel_rfl) (by kernel_rfl) (fun _ _ _ h => h) (by rfl) ?_ hHeld ?_
        rotate_left
        · intro W hSw; (try dsimp only at hSw); go_simp; (try with_reducible rfl)
        (try simp only [Act.put, List.setIfInBounds_toArray, List.set_cons_zero, List.set_cons_succ])
        refine takeR 20 (v := ?_) rfl (by kernel_rfl) (by kernel_rfl) (by kernel_rfl) (fun _ _ _ h => h) (by rfl) ?_ hHeld ?_
        rotate_left
        · intro W hSw; (try dsimp only at hSw); go_simp; (try with_reducible rfl)
        (try simp only [Act.put, List.setIfInBounds_toArray, List.set_cons_zero, List.set_cons_succ])
        refine wpAnyH_done (by kernel_rfl) ?_ _
        go_wp2
        go_ret
        exact ⟨by rw [HF.out, HX.out]; rfl, HB2.out.trans ((HBX.out.trans (hHeld.1.mono HBX.out.size)).mono HB2.out.size)⟩
    · have HX := Lib.hid (show sglB x.es x.es.length = true by
        have e : x.es.length = j := by omega
        rw [e]; exact HE.out)
      go_wp2
      go_ret
      exact ⟨by rw [HF.out, HX.out]; rfl, HBW.out⟩
end Go.Proofs.YthbnfjedjijacaaGreatDoor
