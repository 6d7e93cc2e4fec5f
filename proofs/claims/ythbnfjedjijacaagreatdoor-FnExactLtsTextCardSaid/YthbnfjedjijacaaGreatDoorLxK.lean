/- The text of a transition system, the program's way: the whole. -/
import Derived.BigQuiet
import Derived.Test.YthbnfjedjijacaaGreatDoorHeldL
import Derived.Test.YthbnfjedjijacaaGreatDoorLtV
import Derived.Test.YthbnfjedjijacaaGreatDoorLxB
namespace Go.Proofs.YthbnfjedjijacaaGreatDoor
open Go.RowKit Go.Lib
set_option linter.unusedVariables false
set_option linter.unusedSimpArgs false
theorem row_txt {w : World} {S : Nat → Prop} {A : Option Addr} {xs : List ByteArray} (h : LRow txtR w S A xs) {b o k : Nat} (hA : A = some ⟨b, o, none⟩) (hk : k < xs.length) : ∃ u, xs[k]? = some u ∧ S b ∧ w.cell? ⟨b, o + k, none⟩ = some (.string u) := by
  subst hA
  obtain ⟨b2, o2, cs, u, e, hb2, hR, hu, hc⟩ := h.at_ hk
  obtain ⟨rfl, _⟩ := hR
  injection e with e
  injection e with e1 e2 e3
  subst e1; subst e2
  exact ⟨u, hu.out, hb2, by have := hc 0 _ rfl; simpa [txtR] using this⟩
theorem row_tail {w : World} {S : Nat → Prop} {A : Option Addr} {x : Lt} (h : LRow txtR w S A x.ls) (hS : ∀ b, S b → b < w.heap.size) {b o : Nat} (hA : A = some ⟨b, o, none⟩) : Row w w.heap.size (some ⟨b, o + 1, none⟩) (strs (labT x)) := by
  intro hl
  have hl2 : 1 < x.ls.length := by rw [strs_len, labT_len] at hl; omega
  obtain ⟨_, _, hb, _⟩ := row_txt h hA hl2
  refine ⟨b, o + 1, rfl, hS b hb, fun j v hj => ?_⟩
  have hjl : 1 + j < x.ls.length := by
    obtain ⟨h1, _⟩ := List.getElem?_eq_some_iff.1 hj
    rw [strs_len, labT_len] at h1; omega
  obtain ⟨u, hu, _, hc⟩ := row_txt h hA hjl
  have e : v = .string u := by
    unfold strs labT at hj
    rw [List.getElem?_map, List.getElem?_map, List.getElem?_drop, hu] at hj
    injection hj with hj
    rw [← hj]
    show Value.string ⟨(byl u).toArray⟩ = _
    rw [byl_back]
  rw [e, show o + 1 + j = o + (1 + j) by omega]
  exact hc
/-- The two parts behind the head, and what has been written ahead of each. -/
def prt (x : Lt) (k : Nat) : List (List UInt8) := if k = 0 then labT x else x.es.map edgeT
def pre2 (x : Lt) : Nat → List UInt8
  | 0 => headT x
  | k + 1 => pre2 x k ++ [124] ++ partT (prt x k)
theorem pre2_all (x : Lt) : pre2 x 2 = join (ltxP x) [124] := by unfold ltxP; rw [ltx_ba]; rfl
theorem ba_nil : (⟨#[124]⟩ : ByteArray) = ⟨([124] : List UInt8).toArray⟩ := rfl
set_option maxRecDepth 100000 in
set_option maxHeartbeats 4000000 in
theorem implLtx_any {x : Lt} {cs : List Value} {w : World} {S : Nat → Prop} (h : ltR.R w S x cs) (hS : ∀ b, S b → b < w.heap.size) (ok : okLt x) (ht : TxtTabs w) :
    Calls Tryz.prog 12 #[.agg cs.toArray] w fun e w' => e = .returned (.string (ltx x)) ∧ Below w.heap.size w w' := by
  have HV0 := Lib.hid (fun (W : World) (hW : Below w.heap.size w W) => implValid_any (ltR.keep h (SameOn.of_below hW hS)) (fun b hb => Nat.lt_of_lt_of_le (hS b hb) hW.size) ok (ht.below hW))
  obtain ⟨A1, c1, A2, c2, rfl, ⟨m1, m3, r1⟩, ⟨m2, m4, r2⟩⟩ := h
  have HB := Lib.hid (fun o : Obj => (Below.refl w.heap.size w).alloc (Nat.le_refl _) o)
  have HT := Lib.hid ht
  have R1 := Lib.hid r1
  have R2 := Lib.hid r2
  have HS := Lib.hid hS
  have OK := Lib.hid ok
  clear r1 r2 hS ok ht
  go_enter Tryz.func12, Tryz.ntmps12
  go_wp2_with fail
  refine (HV0.out _ (HB.out _)).mono ?_
  rintro e w2 ⟨rfl, hb2⟩
  have hs2 := hb2.size
  simp at hs2
  obtain ⟨hcc, _⟩ := bcell hb2
  have HB2 := Lib.hid ((HB.out _).trans (hb2.mono (HB.out _).size))
  have y0 : w2.cell? ⟨w.heap.size, 0, none⟩ = some (.int .i64 x.st) := (hcc _ _ (by simp)).trans (by simp [go_sem])
  have y1 : w2.cell? ⟨w.heap.size, 1, none⟩ = some (.int .i64 x.ini) := (hcc _ _ (by simp)).trans (by simp [go_sem])
  have y2 : w2.cell? ⟨w.heap.size, 2, none⟩ = some (.slice A1 x.ls.length c1) := (hcc _ _ (by simp)).trans (by simp [go_sem])
  have y3 : w2.cell? ⟨w.heap.size, 3, none⟩ = some (.slice A2 x.es.length c2) := (hcc _ _ (by simp)).trans (by simp [go_sem])
  clear hb2 hcc HB
  rcases tv : ltB x with _ | _
  · have HF := Lib.hid (ltx_no tv)
    clear tv y0 y1 y2 y3
    go_wp2
    go_ret
    exact ⟨by rw [HF.out]; rfl, HB2.out⟩
  have HF := Lib.hid (ltx_yes tv)
  have TV := Lib.hid tv
  obtain ⟨hl1, hl12⟩ := ls_len tv
  obtain ⟨b1, o1, hA1⟩ : ∃ b1 o1, A1 = some ⟨b1, o1, none⟩ := by
    obtain ⟨b, o, _, _, e, _⟩ := R1.out.at_ (k := 0) (by omega)
    exact ⟨b, o, e⟩
  have RT := Lib.hid (fun (W : World) (hW : Below w.heap.size w W) => row_tail (R1.out.keep (SameOn.of_below hW HS.out)) (fun b hb => Nat.lt_of_lt_of_le (HS.out b hb) hW.size) hA1)
  subst hA1
  have hb1 : b1 < w.heap.size := by
    obtain ⟨b, o, _, _, e, hb, _⟩ := R1.out.at_ (k := 0) (by omega)
    injection e with e
    injection e with e _
    rw [e]; exact HS.out _ hb
  have he300 : x.es.length ≤ 300 := (ltB_parts tv).2.2.2.1
  have hlab : (labT x).length ≤ 12 := by rw [labT_len]; omega
  have CJ := Lib.hid (fun (W : World) (hW : Below w2.heap.size w2 W) (g : Nat) (z0 : W.cell? ⟨g, 0, none⟩ = some (.int .i64 x.st)) (z1 : W.cell? ⟨g, 1, none⟩ = some (.int .i64 x.ini)) => (joinS_any (some ⟨g, 0, none⟩) 2 2 [x.st, x.ini] 32 W (irow2 z0 z1) rfl (by decide) (by decide) (wf_head TV.out) ((HT.out.below (HB2.out.trans (hW.mono HB2.out.size))).num.pow)).mono (fun e w' h => (h : e = .returned (.string ⟨(headT x).toArray⟩) ∧ Below W.heap.size W w')))
  have hj1 := join_le [32] 1048576 (labT x) (lab_short OK.out)
  have hj1' : (labT x).length * (1048576 + 1) ≤ 12 * (1048576 + 1) := Nat.mul_le_mul_right _ hlab
  have hj2 := join_le [32] 66 (x.es.map edgeT) (edge_short tv)
  have hj2' : (x.es.map edgeT).length * (66 + 1) ≤ 300 * (66 + 1) := Nat.mul_le_mul_right _ (by rw [List.length_map]; exact he300)
  rw [List.length_singleton] at hj1 hj2
  have hhd := head_short tv
  have hp1 := part_short2 (lab_short OK.out)
  have hp2 := part_short2 (edge_short tv)
  have HPL := Lib.hid (fun (k : Nat) (hk : k < 2) => (show (pre2 x k).length ≤ 40000000 ∧ (partT (prt x k)).length ≤ 40000000 by
    match k, hk with
    | 0, _ => exact ⟨by show (headT x).length ≤ _; omega, by show (partT (labT x)).length ≤ _; omega⟩
    | 1, _ => exact ⟨by show (headT x ++ [124] ++ partT (labT x)).length ≤ _; rw [List.length_append, List.length_append, List.length_singleton]; omega, by show (partT (x.es.map edgeT)).length ≤ _; omega⟩))
  have HJL := Lib.hid (fun (k : Nat) (hk : k < 2) => (show (join (prt x k) [32]).length ≤ 140737488355328 ∧ (prt x k).length ≤ 1048576 by
    match k, hk with
    | 0, _ => exact ⟨by show (join (labT x) [32]).length ≤ _; omega, by show (labT x).length ≤ _; omega⟩
    | 1, _ => exact ⟨by show (join (x.es.map edgeT) [32]).length ≤ _; omega, by show (x.es.map edgeT).length ≤ _; rw [List.length_map]; omega⟩))
  have hne1 : ∀ p ∈ labT x, p ≠ [] := by
    intro p hp
    obtain ⟨u, hu, rfl⟩ := List.mem_map.1 hp
    exact labB_ne (List.all_eq_true.1 (by have h := (ltB_parts tv).2.2.1; unfold lsOk at h; simp only [Bool.and_eq_true] at h; exact h.2.2.2) u (List.mem_of_mem_drop hu))
  have hne2 : ∀ p ∈ x.es.map edgeT, p ≠ [] := by
    intro p hp
    obtain ⟨e, _, rfl⟩ := List.mem_map.1 hp
    exact edgeT_ne e
  have HOR := Lib.hid (fun (k : Nat) (hk : k < 2) => (show orT ⟨(join (prt x k) [32]).toArray⟩ ⟨#[45]⟩ = ⟨(partT (prt x k)).toArray⟩ by
    match k, hk with
    | 0, _ => exact orT_part hne1
    | 1, _ => exact orT_part hne2))
  have HBA := Lib.hid (fun o1 o2 : Obj => ((Below.refl w2.heap.size w2).alloc (Nat.le_refl _) o1).alloc (by simp) o2)
  have HBD0 := Lib.hid (fun o2 : Obj => ((Bd.new w2).below ((Below.refl _ _).alloc (Nat.le_refl _) o2)))
  have hpb : w.heap.size < w2.heap.size := by omega
  clear tv hj1 hj1' hj2 hj2' hhd hp1 hp2 hne1 hne2
  go_wp2_with fail
  refine (CJ.out _ (HBA.out _ _) (w2.heap.size + 1) (by simp [go_sem]) (by simp [go_sem])).mono ?_
  rintro e w5 ⟨rfl, hb5⟩
  have HB5 := Lib.hid ((HBA.out _ _).trans (hb5.mono (HBA.out _ _).size))
  have HD5 := Lib.hid ((HBD0.out _).below hb5)
  have CW := Lib.hid (write_any w2.heap.size w2.heap.size [] (headT x) w5 HD5.out (by have := (HPL.out 0 (by decide)).1; show 0 + (headT x).length ≤ _; have e : pre2 x 0 = headT x := rfl; rw [e] at this; omega) HB5.out.size)
  clear hb5 HBD0 HBA CJ
  go_wp2_with fail
  refine (CW.out).mono ?_
  rintro e w6 ⟨rfl, hd6, hb6, _⟩
  have HD6 := Lib.hid (show Bd w2.heap.size w2.heap.size (pre2 x 0) w6 from hd6)
  have HB6 := Lib.hid (HB5.out.trans (hb6.mono (Nat.le_refl _)))
  have z2 := (HB6.out.cell (p := ⟨w.heap.size, 2, none⟩) hpb).trans y2
  have z3 := (HB6.out.cell (p := ⟨w.heap.size, 3, none⟩) hpb).trans y3
  have hpb6 : w.heap.size < w6.heap.size := Nat.lt_of_lt_of_le hpb HB6.out.size
  have HBW := Lib.hid (HB2.out.trans (HB6.out.mono HB2.out.size))
  have HN6 := Lib.hid HBW.out.size
  clear hd6 hb6 CW HD5 HB5 y0 y1 y2 y3
  obtain ⟨At, ct, hAt⟩ : ∃ (At : Option Addr) (ct : Nat), (c1 = 1 ∧ At = some ⟨b1, o1, none⟩ ∧ ct = 0) ∨ (c1 ≠ 1 ∧ At = some ⟨b1, o1 + 1, none⟩ ∧ ct = c1 - 1) := by
    by_cases h : c1 = 1
    · exact ⟨_, _, .inl ⟨h, rfl, rfl⟩⟩
    · exact ⟨_, _, .inr ⟨h, rfl, rfl⟩⟩
  have HAT := Lib.hid hAt
  have hct : x.ls.length - 1 ≤ ct := by omega
  have RA := Lib.hid (fun (W : World) (hW : Below w.heap.size w W) => (show Row W W.heap.size At (strs (labT x)) by
    rcases HAT.out with ⟨h1, rfl, rfl⟩ | ⟨h1, rfl, rfl⟩
    · intro hl; rw [strs_len, labT_len] at hl; omega
    · exact RT.out W hW))
  have HAB := Lib.hid (show ∀ b o, At = some ⟨b, o, none⟩ → b < w.heap.size by
    intro b o e
    rcases HAT.out with ⟨_, rfl, _⟩ | ⟨_, rfl, _⟩ <;> (injection e with e; injection e with e _; rw [← e]; exact hb1))
  have C2 := Lib.hid (fun (W : World) (hW : Below w6.heap.size w6 W) => mapEdT_any A2 x.es.length c2 x.es W S (R2.out.keep (SameOn.of_below (HBW.out.trans (hW.mono HN6.out)) HS.out)) (fun b hb => Nat.lt_of_lt_of_le (HS.out b hb) (Nat.le_trans HN6.out hW.size)) rfl (by omega) (fun e he => wf_ed TV.out he) ((HT.out.below (HBW.out.trans (hW.mono HN6.out))).num.pow))
  have HSX := Lib.hid (fun (W : World) (hW : Below w6.heap.size w6 W) => (⟨hW, (hW.cell (p := ⟨w.heap.size, 2, none⟩) hpb6).trans z2, (hW.cell (p := ⟨w.heap.size, 3, none⟩) hpb6).trans z3⟩ : Below w6.heap.size w6 W ∧ W.cell? ⟨w.heap.size, 2, none⟩ = some (.slice (some ⟨b1, o1, none⟩) x.ls.length c1) ∧ W.cell? ⟨w.heap.size, 3, none⟩ = some (.slice A2 x.es.length c2)))
  have HV := Lib.hid (Below.refl w6.heap.size w6)
  have hk1 : (1 : Int) ≤ (x.ls.length : Int) := by omega
  have hkc : x.ls.length ≤ c1 := m1
  go_wp2
  refine wp_region_held_drew (S := (fun W => Below w6.heap.size w6 W ∧ W.cell? ⟨w.heap.size, 2, none⟩ = some (.slice (some ⟨b1, o1, none⟩) x.ls.length c1) ∧ W.cell? ⟨w.heap.size, 3, none⟩ = some (.slice A2 x.es.length c2))) (by kernel_rfl) (HSX.out _ HV.out.drew) (fun hHeld => ?_)
  refine takeR 0 (v := ?_) rfl (by kernel_rfl) (by kernel_rfl) (by kernel_rfl) (fun _ _ _ h => h) (by rfl) ?_ hHeld ?_
  rotate_left
  · intro W hSw; (try dsimp only at hSw); go_simp; (try with_reducible rfl)
  (try simp only [Act.put, List.setIfInBounds_toArray, List.set_cons_zero, List.set_cons_succ])
  refine takeR 1 (v := ?_) rfl (by kernel_rfl) (by kernel_rfl) (by kernel_rfl) (fun _ _ _ h => h) (by rfl) ?_ hHeld ?_
  rotate_left
  · intro W hSw; (try dsimp only at hSw); go_simp; (try with_reducible rfl)
  (try simp only [Act.put, List.setIfInBounds_toArray, List.set_cons_zero, List.set_cons_succ])
  refine takeR 2 (v := .slice At (x.ls.length - 1) ct) rfl (by kernel_rfl) (by kernel_rfl) (by kernel_rfl) (fun _ _ _ h => h) (by rfl) ?_ hHeld ?_
  · intro W hSw
    (try dsimp only at hSw)
    rcases hAt with ⟨h1, rfl, rfl⟩ | ⟨h1, rfl, rfl⟩
    · subst h1
      have hl : x.ls.length = 1 := by omega
      simp only [hl]
      go_simp
    · go_simp
  (try simp only [Act.put, List.setIfInBounds_toArray, List.set_cons_zero, List.set_cons_succ])
  refine takeR 3 (v := ?_) rfl (by kernel_rfl) (by kernel_rfl) (by kernel_rfl) (fun _ _ _ h => h) (by rfl) ?_ hHeld ?_
  rotate_left
  · intro W hSw; (try dsimp only at hSw); go_simp; (try with_reducible rfl)
  (try simp only [Act.put, List.setIfInBounds_toArray, List.set_cons_zero, List.set_cons_succ])
  refine takeR 4 (v := ?_) rfl (by kernel_rfl) (by kernel_rfl) (by kernel_rfl) (fun _ _ _ h => h) (by rfl) ?_ hHeld ?_
  rotate_left
  · intro W hSw; (try dsimp only at hSw); go_simp; (try with_reducible rfl)
  (try simp only [Act.put, List.setIfInBounds_toArray, List.set_cons_zero, List.set_cons_succ])
  refine takeR 8 (v := ?_) rfl (by kernel_rfl) (by kernel_rfl) (by kernel_rfl) (fun _ _ _ h => h) (by rfl) ?_ hHeld ?_
  rotate_left
  · intro W hSw; (try dsimp only at hSw); go_simp; (try with_reducible rfl)
  (try simp only [Act.put, List.setIfInBounds_toArray, List.set_cons_zero, List.set_cons_succ])
  refine takeC 5 rfl (by kernel_rfl) (by rfl) (fun K hK => ?_)
  go_simp
  (go_at_call 40; refine (C2.out _ hHeld.1).mono ?_; rintro e w7 ⟨rfl, hO, b3⟩; have HO7 := Lib.hid hO; have HV7 := Lib.hid (hHeld.1.trans (b3.mono hHeld.1.size)); clear b3 hO)
  (try go_wp2_with fail)
  refine hK.out _ _ (HSX.out _ HV7.out) (fun hHeld2 => ?_)
  clear hK K hHeld
  have hHeld := hHeld2
  clear hHeld2
  (try simp only [Act.put, List.setIfInBounds_toArray, List.set_cons_zero, List.set_cons_succ])
  refine takeC 6 rfl (by kernel_rfl) (by rfl) (fun K hK => ?_)
  go_simp
  refine hK.out _ _ (HSX.out _ (HV7.out.alloc HV7.out.size _)) (fun hHeld2 => ?_)
  clear hK K hHeld
  have hHeld := hHeld2
  clear hHeld2
  (try simp only [Act.put, List.setIfInBounds_toArray, List.set_cons_zero, List.set_cons_succ])
  refine takeR 7 (v := ?_) rfl (by kernel_rfl) (by kernel_rfl) (by kernel_rfl) (fun _ _ _ h => h) (by rfl) ?_ hHeld ?_
  rotate_left
  · intro W hSw; (try dsimp only at hSw); go_simp; (try with_reducible rfl)
  (try simp only [Act.put, List.setIfInBounds_toArray, List.set_cons_zero, List.set_cons_succ])
  refine wpAnyH_done (by kernel_rfl) ?_ _
  have HN7 := Lib.hid HV7.out.size
  have HB7 := Lib.hid (HB6.out.trans (HV7.out.mono HB6.out.size))
  have HD7 := Lib.hid (HD6.out.below HV7.out)
  have hs26 := HB6.out.size
  have hb2lt : w2.heap.size < w6.heap.size := (show w2.heap.size < w6.heap.size from by
    rcases HD6.out with ⟨_, v, h, _⟩ | ⟨_, v, h, _⟩ <;> exact (Array.getElem?_eq_some_iff.1 h).1)
  obtain ⟨ot, hot, hty⟩ : ∃ ot : Obj, w7.heap[w6.heap.size]? = some ot ∧ ∀ c fz, ot ≠ .cells c 5 fz := by
    rcases (show w7.ownsRow w6.heap.size 9 1 (.slice (some ⟨w6.heap.size, 0, none⟩) x.es.length x.es.length) x.es.length (strs (x.es.map edgeT)) from HO7.out).2 with ⟨e, _⟩ | ⟨g, cap, cur, e, _, h, _⟩
    · cases e
    · injection e with e
      injection e with e
      injection e with e
      rw [e]
      exact ⟨_, h, fun c fz e2 => by injection e2 with _ e2 _; exact absurd e2 (by decide)⟩
  have HTY := Lib.hid hty
  have hl7 : w6.heap.size < w7.heap.size := (Array.getElem?_eq_some_iff.1 hot).1
  have R7 := Lib.hid (Row.of_own HO7.out)
  have RB := Lib.hid (fun (W : World) (h : W.heap[w6.heap.size]? = some ot) (hs : w7.heap.size ≤ W.heap.size) => Row.stands R7.out (fun b o e => by injection e with e; injection e with e _; rw [← e]; exact h.trans hot.symm) hs)
  obtain ⟨og, hog⟩ : ∃ og : Obj, og = .cells #[.slice At (x.ls.length - 1) ct, .slice (some ⟨w6.heap.size, 0, none⟩) x.es.length x.es.length] 22 := ⟨_, rfl⟩
  have HOGT := Lib.hid (show ∀ c fz, og ≠ .cells c 5 fz by intro c fz e; rw [hog] at e; injection e with _ e _; exact absurd e (by decide))
  have HCELL := Lib.hid (fun (W : World) (hg : W.heap[w7.heap.size]? = some og) (k : Nat) (hk : k < 2) => (show ∃ (A : Option Addr) (c : Nat), W.cell? ⟨w7.heap.size, k, none⟩ = some (.slice A (prt x k).length c) ∧ (prt x k).length ≤ c ∧ ∀ W' : World, Below w.heap.size w W' → W'.heap[w6.heap.size]? = some ot → w7.heap.size ≤ W'.heap.size → Row W' W'.heap.size A (strs (prt x k)) by
    rw [hog] at hg
    match k, hk with
    | 0, _ => exact ⟨At, ct, by rw [Lib.cell_of_heap hg, show (prt x 0).length = x.ls.length - 1 from labT_len x]; rfl, by rw [show (prt x 0).length = x.ls.length - 1 from labT_len x]; exact hct, fun W' h _ _ => RA.out W' h⟩
    | 1, _ => exact ⟨some ⟨w6.heap.size, 0, none⟩, x.es.length, by rw [Lib.cell_of_heap hg, show (prt x 1).length = x.es.length from List.length_map _]; rfl, by rw [show (prt x 1).length = x.es.length from List.length_map _]; exact Nat.le_refl _, fun W' _ h hs => RB.out W' h hs⟩))
  obtain ⟨w8, hw8⟩ : ∃ w8, w8 = w7.alloc og := ⟨_, rfl⟩
  rw [← hog, ← hw8]
  have HB8 := Lib.hid (show Below w2.heap.size w2 w8 by rw [hw8]; exact HB7.out.alloc HB7.out.size _)
  have HD8 := Lib.hid (show Bd w2.heap.size w2.heap.size (pre2 x 0) w8 by rw [hw8]; exact HD7.out.below ((Below.refl _ _).alloc (Nat.le_refl _) _))
  have HG8 := Lib.hid (show w8.heap[w7.heap.size]? = some og by rw [hw8]; exact heap_alloc_new w7 _)
  have HT8 := Lib.hid (show w8.heap[w6.heap.size]? = some ot by rw [hw8, Lib.alloc_old w7 _ _ hl7]; exact hot)
  have hs78 : w7.heap.size ≤ w8.heap.size := by rw [hw8]; simp
  have hng : some w7.heap.size ≠ some w2.heap.size := by intro e; injection e with e; omega
  have hnt : some w6.heap.size ≠ some w2.heap.size := by intro e; injection e with e; omega
  clear hog hw8 hHeld HV7 HV HSX C2 hAt hot hty
  go_wp2
  go_loopw [24] (fun i wr => ∃ k : Nat, k ≤ 2 ∧ i = .int .i64 (k : Int) ∧ Hid (Bd w2.heap.size w2.heap.size (pre2 x k) wr) ∧ Hid (Below w2.heap.size w2 wr) ∧ Hid (wr.heap[w7.heap.size]? = some og) ∧ Hid (wr.heap[w6.heap.size]? = some ot) ∧ w7.heap.size ≤ wr.heap.size) (fun i _ => 2 - (intOf i).toNat)
  case atStart => exact ⟨0, by omega, rfl, HD8, HB8, HG8, HT8, hs78⟩
  case round =>
    clear HD8 HB8 HG8 HT8 hs78
    obtain ⟨k, hk, rfl, HD, HBR, HG, HTB, hsr⟩ := hrel
    by_cases hlt : k < 2
    · obtain ⟨A, c, hc, hnc, hrow⟩ := HCELL.out wr HG.out k hlt
      have HRW := Lib.hid hrow
      obtain ⟨hpl1, hpl2⟩ := HPL.out k hlt
      obtain ⟨hjl1, hjl2⟩ := HJL.out k hlt
      have CW1 := Lib.hid (show Calls Tryz.prog 38 #[.pointer (some ⟨w2.heap.size, 0, none⟩), .string ⟨#[124]⟩] wr (fun e w' => e = .returned (.tuple #[.int .i64 (1 : Nat), .nilIface]) ∧ Bd w2.heap.size w2.heap.size (pre2 x k ++ [124]) w' ∧ Below w2.heap.size wr w' ∧ Kept w2.heap.size wr w') from write_any _ _ _ [124] wr HD.out (by rw [List.length_singleton]; omega) HBR.out.size)
      have hkk : (k : Int) < 2 := by omega
      have hlw : w7.heap.size < wr.heap.size := (Array.getElem?_eq_some_iff.1 HG.out).1
      clear hrow
      go_wp2_with fail
      refine (CW1.out).mono ?_
      rintro e w9 ⟨rfl, hd9, hb9, hk9⟩
      have HD9 := Lib.hid hd9
      have HB9 := Lib.hid (HBR.out.trans hb9)
      have HG9 := Lib.hid (hk9 _ _ HG.out hng HOGT.out)
      have HT9 := Lib.hid (hk9 _ _ HTB.out hnt HTY.out)
      have hs9 : w7.heap.size ≤ w9.heap.size := Nat.le_trans hsr hb9.size
      obtain ⟨ja, hja⟩ : ∃ ja : ByteArray, ja = ⟨(join (prt x k) [32]).toArray⟩ := ⟨_, rfl⟩
      have CJ2 := Lib.hid (show Calls Tryz.prog 43 #[.slice A (prt x k).length c, .string ⟨#[32]⟩] w9 (fun e w' => e = .returned (.string ja) ∧ Below w9.heap.size w9 w') by rw [hja]; exact joinA_any A (prt x k) c 32 w9 (HRW.out w9 (HB2.out.trans (HB9.out.mono HB2.out.size)) HT9.out hs9) hjl2 hnc hjl1)
      have CO := Lib.hid (fun (W : World) (g : Nat) (h0 : W.cell? ⟨g, 0, none⟩ = some (.string ja)) (h1 : W.cell? ⟨g, 1, none⟩ = some (.string ⟨#[45]⟩)) => (show Calls Tryz.prog 42 #[.slice (some ⟨g, 0, none⟩) 2 2] W (fun e w' => e = .returned (.string ⟨(partT (prt x k)).toArray⟩) ∧ Below W.heap.size W w') by have h := orS_any g ja ⟨#[45]⟩ W (by rw [ByteArray.toList_eq]; simp) h0 h1; rw [hja, HOR.out k hlt] at h; exact h))
      clear CW1 hd9 hb9 hk9 hc hja
      go_wp2_with fail
      refine (CJ2.out).mono ?_
      rintro e w10 ⟨rfl, hb10⟩
      have H10 := Lib.hid hb10
      clear hb10 CJ2
      go_wp2_with fail
      refine (CO.out _ w10.heap.size (by simp [go_sem]) (by simp [go_sem])).mono ?_
      rintro e w11 ⟨rfl, hb11⟩
      have H11 := Lib.hid (show Below w9.heap.size w9 w11 from (H10.out.alloc H10.out.size _).trans (hb11.mono (Nat.le_trans H10.out.size (by simp))))
      have HD11 := Lib.hid (HD9.out.below H11.out)
      have HG11 := Lib.hid (keeps_below H11.out _ _ HG9.out)
      have HT11 := Lib.hid (keeps_below H11.out _ _ HT9.out)
      have HB11 := Lib.hid (HB9.out.trans (H11.out.mono HB9.out.size))
      have CW2 := Lib.hid (write_any w2.heap.size w2.heap.size (pre2 x k ++ [124]) (partT (prt x k)) w11 HD11.out (by rw [List.length_append, List.length_singleton]; omega) HB11.out.size)
      have hs11 : w7.heap.size ≤ w11.heap.size := Nat.le_trans hs9 H11.out.size
      clear hb11 CO H10
      go_wp2_with fail
      refine (CW2.out).mono ?_
      rintro e w12 ⟨rfl, hd12, hb12, hk12⟩
      have HD12 := Lib.hid (show Bd w2.heap.size w2.heap.size (pre2 x (k + 1)) w12 from hd12)
      have HB12 := Lib.hid (HB11.out.trans hb12)
      have HG12 := Lib.hid (hk12 _ _ HG11.out hng HOGT.out)
      have HT12 := Lib.hid (hk12 _ _ HT11.out hnt HTY.out)
      have hs12 : w7.heap.size ≤ w12.heap.size := Nat.le_trans hs11 hb12.size
      clear hd12 hb12 hk12 CW2
      go_wp2
      go_roundw
      case rel => exact ⟨k + 1, by omega, by go_num, HD12, HB12, HG12, HT12, hs12⟩
      case measure => simp [intOf]; omega
    · obtain rfl : k = 2 := by omega
      have CS := Lib.hid (text_any w2.heap.size w2.heap.size (pre2 x 2) wr HD.out HBR.out.size)
      go_wp2_with (go_at_call 44; refine (CS.out).mono ?_; rintro e w13 ⟨rfl, hb13⟩; have H13 := Lib.hid hb13; clear hb13)
      go_ret
      exact ⟨by rw [HF.out, ← pre2_all]; rfl, HB2.out.trans ((HBR.out.trans H13.out).mono HB2.out.size)⟩
end Go.Proofs.YthbnfjedjijacaaGreatDoor
