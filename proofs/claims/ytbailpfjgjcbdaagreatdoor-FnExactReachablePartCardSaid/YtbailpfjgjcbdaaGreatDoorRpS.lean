/- The reachable part: the model. -/
import Derived.Test.YtbailpfjgjcbdaaGreatDoorRei
import Derived.Test.YtbailpfjgjcbdaaGreatDoorIcP
import Derived.Test.YtbailpfjgjcbdaaGreatDoorRpA
namespace Go.Proofs.YtbailpfjgjcbdaaGreatDoor
open Go.RowKit
set_option linter.unusedVariables false
set_option linter.unusedSimpArgs false
set_option maxRecDepth 100000 in
set_option maxHeartbeats 4000000 in
theorem l11Place_any (B : Option Addr) (n d : Nat) (xs : List Int) (k : Int) (w : World) (S2 : Nat → Prop) (hp : LRow intR w S2 B xs) (l : xs.length = n) (m : n ≤ 1048576) :
    Calls Tryz.prog 82 #[.slice B n d, .int .i64 k] w fun e w' => e = .returned (.int .i64 (plI xs k)) ∧ w = w' := by
  have HR := Lib.hid hp
  have L := Lib.hid l
  clear hp l
  go_enter Tryz.func82, Tryz.ntmps82
  go_wp2
  go_loopw [5] (fun i wr => ∃ j : Nat, j ≤ n ∧ i = .int .i64 (j : Int) ∧ w = wr ∧ Hid ((xs.take j).all (fun u => !(u == k)) = true)) (fun i _ => n - (intOf i).toNat)
  case atStart => exact ⟨0, Nat.zero_le _, rfl, rfl, Lib.hid rfl⟩
  case round =>
    obtain ⟨j, hk, rfl, rfl, HE⟩ := hrel
    by_cases hlt : j < n
    · obtain ⟨b, o, i, rfl, hb, r0, hi⟩ := int_row HR.out (k := j) (by rw [L.out]; exact hlt)
      have lb := World.block_lt_of_cell? w _ r0
      by_cases e : i = k
      · subst e
        have HF := Lib.hid (plI_hit HE.out hi.out)
        go_wp2
        go_ret
        exact ⟨by rw [HF.out]; rfl, rfl⟩
      · have HN := Lib.hid (all_take_next (p := fun u => !(u == k)) HE.out hi.out (by simp [e]))
        go_wp2
        go_roundw
        case rel => exact ⟨j + 1, by omega, by go_num, by first | rfl | trivial, HN⟩
        case measure => simp [intOf]; omega
    · have HF := Lib.hid (show plI xs k = -1 by
        have h := HE.out
        rw [List.take_of_length_le (by rw [L.out]; omega)] at h
        exact plI_none h)
      go_wp2
      go_ret
      exact ⟨by rw [HF.out]; rfl, rfl⟩
set_option maxRecDepth 100000 in
set_option maxHeartbeats 8000000 in
theorem l11Keep_any (x : Lt) (p : Nat) (A1 A2 : Option Addr) (c1 c2 : Nat) (B : Option Addr) (n d : Nat) (xs : List Int) (w : World) (S S2 : Nat → Prop) (y : Box4 w p x A1 A2 c1 c2) (h1 : LRow txtR w S A1 x.ls) (h2 : LRow edR w S A2 x.es) (hS : ∀ b, S b → b < w.heap.size) (hp : LRow intR w S2 B xs) (hS2 : ∀ b, S2 b → b < w.heap.size) (l : xs.length = n) (m : n ≤ 1048576) (ok : okLt x) (tv : ltB x = true) :
    Calls Tryz.prog 50 #[.pointer (some ⟨p, 0, none⟩), .slice B n d] w (RetLt (rpY x xs) w) := by
  have hpw := y.lt
  have M1 := ok.1.1
  have M2 := (ltB_parts tv).2.2.2.1
  clear tv
  have Y := Lib.hid (fun (W : World) (hW : Below w.heap.size w W) => (⟨y.next hW, Nat.lt_of_lt_of_le hpw hW.size⟩ : Box4 W p x A1 A2 c1 c2 ∧ p < W.heap.size))
  have R2 := Lib.hid h2
  have HS := Lib.hid hS
  have L := Lib.hid l
  have CP := Lib.hid (fun (k : Int) (W : World) (hW : Below w.heap.size w W) => l11Place_any B n d xs k W S2 (LRow.keep (F := intR) hp (SameOn.of_below hW hS2)) l m)
  obtain ⟨vs, hr, hvl, hv1, hvc⟩ := LRow.flat flat_txt h1
  have HRV := Lib.hid (fun (W : World) (hW : Below w.heap.size w W) => hr.keep (SameOn.of_below hW hS))
  have HVL := Lib.hid (show vs.length = x.ls.length * 1 from hvl)
  have HV1 := Lib.hid hv1
  have HVC := Lib.hid hvc
  have HB := Lib.hid (fun o : Obj => (Below.refl w.heap.size w).alloc (Nat.le_refl _) o)
  have HB4 := Lib.hid (fun o1 o2 o3 o4 : Obj => ((((Below.refl w.heap.size w).alloc (Nat.le_refl _) o1).alloc (by simp) o2).alloc (by simp; omega) o3).alloc (by simp; omega) o4)
  have HOT := Lib.hid (fun (W : World) (h : W.heap.size = w.heap.size + 1 + 1 + 1) => (show (W.alloc (.cells #[] 9)).ownsRow (w.heap.size + 1 + 1 + 1) 9 1 (.slice (some ⟨w.heap.size + 1 + 1 + 1, 0, none⟩) 0 0) 0 [] by rw [← h]; exact World.ownsRow_made (e := 9) (size := 1) W #[] 0 (Nat.le_refl _) (Nat.zero_le _) rfl))
  have HOE := Lib.hid (fun (W : World) (h : W.heap.size = w.heap.size + 1) => (show (W.alloc (.cells #[] 79)).ownsRow (w.heap.size + 1) 79 3 (.slice (some ⟨w.heap.size + 1, 0, none⟩) 0 0) 0 [] by rw [← h]; exact World.ownsRow_made (e := 79) (size := 3) W #[] 0 (Nat.le_refl _) (Nat.zero_le _) rfl))
  have Y0 := y
  obtain ⟨y0, y1, y2, y3⟩ := y
  have hp1 : p < w.heap.size + 1 := by omega
  have hp2 : p < w.heap.size + 1 + 1 := by omega
  have hp3 : p < w.heap.size + 1 + 1 + 1 := by omega
  have hp4 : p < w.heap.size + 1 + 1 + 1 + 1 := by omega
  clear h1 h2 hS hp hS2 l ok hr hvl hv1 hvc
  go_enter Tryz.func50, Tryz.ntmps50
  go_wp2_with (first
    | (go_at_call 82; refine (CP.out _ _ (HB.out _)).mono ?_; rintro e w2 ⟨rfl, rfl⟩)
    | (at_builtin; go_loud (refine wpList_append_vs el_str rfl _ _ rfl _ (w.heap.size + 1 + 1 + 1) (.slice (some ⟨w.heap.size + 1 + 1 + 1, 0, none⟩) 0 0) 0 [] rfl (by exact HOT.out _ (by simp)) S A1 x.ls.length c1 vs rfl (by exact HRV.out _ (HB4.out _ _ _ _)) HVL.out HV1.out (by omega) (by simp) ?_; intro AL cL w5 ho hg; rw [Nat.zero_add, List.nil_append] at ho; have hb5 := (HB4.out _ _ _ _).grown hg (by simp; omega) (fun g e => by simp [Value.ownBlock] at e; omega); have hbx := (BoxO.below (BoxO.new' (lo := w.heap.size + 1) (q := w.heap.size + 1 + 1) (by simp) (by omega) _ _ _ _) ((Below.refl _ _).alloc (Nat.le_refl _) _)).kept hg (by simp [Value.ownBlock]); have hrs := (BoxO.below (BoxO.below (BoxO.below (BoxO.new' (w := w) (lo := w.heap.size) (q := w.heap.size) rfl (Nat.le_refl _) _ _ _ _) ((Below.refl _ _).alloc (Nat.le_refl _) _)) ((Below.refl _ _).alloc (Nat.le_refl _) _)) ((Below.refl _ _).alloc (Nat.le_refl _) _)).kept hg (by simp [Value.ownBlock]; omega); have hew := World.ownsRow.kept (own_below' (own_below' (HOE.out (w.alloc _) (by simp)) ((Below.refl _ _).alloc (Nat.le_refl _) _)) ((Below.refl _ _).alloc (Nat.le_refl _) _)) hg (.inr (by simp [Value.ownBlock])); have hP := hbx.put2 (.slice AL x.ls.length cL); have HLO := Lib.hid (fun g (e : (Value.slice AL x.ls.length cL).ownBlock = some g) => (ho.lt g e).1); have H0 := Lib.hid (show KS (w.heap.size + 1) (w.heap.size + 1 + 1) _ _ (.slice AL x.ls.length cL) _ (some ⟨w.heap.size + 1, 0, none⟩) 0 0 [] from ⟨hP.1, World.ownsRow.kept hew hP.2 (.inr (by simp [Value.ownBlock])), by simp [Value.ownBlock]⟩); have HRS := Lib.hid (hrs.kept hP.2 (by simp; try omega)); have HLB := Lib.hid (World.ownsRow.kept ho hP.2 (.inr (fun e => by have := (ho.lt _ e).1; omega))); have HBL := Lib.hid (hb5.setCell (p := ⟨w.heap.size + 1 + 1, 2, none⟩) (by simp only []; omega) (.slice AL x.ls.length cL)); obtain ⟨q0, q1, q2, q3, qf2, qf3, ql⟩ := hbx.cells; clear ho hg hb5 hbx hrs hew hP)))
  clear q0 q1 q2 q3 qf2 qf3 ql HOE HOT HB4 HRV HV1
  go_loopw [6] (fun i wr => ∃ (j k : Nat) (A : Option Addr) (c : Nat), j ≤ x.es.length ∧ k ≤ j ∧ i = .int .i64 (j : Int) ∧ Hid (k = (rpT x xs j).length) ∧ Hid (KS (w.heap.size + 1) (w.heap.size + 1 + 1) (.int .i64 n) (.int .i64 (plI xs x.ini)) (.slice AL x.ls.length cL) wr A k c (rpT x xs j)) ∧ Hid (BoxO wr w.heap.size w.heap.size [.int .i64 0, .int .i64 0, .slice none 0 0, .slice none 0 0]) ∧ Hid (wr.ownsRow (w.heap.size + 1 + 1 + 1) 9 1 (.slice AL x.ls.length cL) x.ls.length vs) ∧ Hid (∀ g, (Value.slice AL x.ls.length cL).ownBlock = some g → (Value.slice A k c).ownBlock = some g → False) ∧ Hid (Below w.heap.size w wr)) (fun i _ => x.es.length - (intOf i).toNat)
  case atStart => exact ⟨0, 0, _, _, Nat.zero_le _, Nat.le_refl _, rfl, Lib.hid rfl, H0, HRS, HLB, Lib.hid (fun g e1 e2 => by have := HLO.out g e1; simp [Value.ownBlock] at e2; omega), HBL⟩
  case round =>
    clear H0 HRS HLB HBL
    obtain ⟨j, k, A, c, hj, hkj, rfl, HKL, HQ, HRS, HLB, HNE, HB⟩ := hrel
    have hsz := HB.out.size
    obtain ⟨⟨z0, z1, z2, z3⟩, hpr⟩ := Y.out _ HB.out
    obtain ⟨q0, q1, q2, q3, qf2, qf3, ql⟩ := HQ.out.box.cells
    by_cases hlt : j < x.es.length
    · obtain ⟨b, o, cs, v, rfl, hb, hR, hv, hc⟩ := (R2.out.keep (SameOn.of_below HB.out HS.out)).at_ (k := j) hlt
      have hR : cs = [Value.int .i64 v.f, Value.int .i64 v.l, Value.int .i64 v.t] := hR
      subst hR
      have f0 : wr.cell? ⟨b, o + j * 3, none⟩ = some (.int .i64 v.f) := hc 0 _ rfl
      have f1 : wr.cell? ⟨b, o + j * 3 + 1, none⟩ = some (.int .i64 v.l) := hc 1 _ rfl
      have f2 : wr.cell? ⟨b, o + j * 3 + 2, none⟩ = some (.int .i64 v.t) := hc 2 _ rfl
      have lb := World.block_lt_of_cell? wr _ f0
      clear hc
      have HB1 := Lib.hid (fun ob : Obj => HB.out.alloc hsz ob)
      have HB2 := Lib.hid (fun (ob : Obj) (u : Value) => (HB.out.alloc hsz ob).setCell (p := ⟨wr.heap.size, 0, none⟩) hsz u)
      have HQ1 := Lib.hid (fun o1 : Obj => HQ.out.below ((Below.refl wr.heap.size wr).alloc (Nat.le_refl _) o1))
      have HQ2 := Lib.hid (fun o1 o2 : Obj => HQ.out.below (((Below.refl wr.heap.size wr).alloc (Nat.le_refl _) o1).alloc (by simp) o2))
      have HRS1 := Lib.hid (fun o1 : Obj => HRS.out.below ((Below.refl wr.heap.size wr).alloc (Nat.le_refl _) o1))
      have HRS2 := Lib.hid (fun o1 o2 : Obj => own_below' HRS.out (((Below.refl wr.heap.size wr).alloc (Nat.le_refl _) o1).alloc (by simp) o2))
      have HLB1 := Lib.hid (fun o1 : Obj => own_below' HLB.out ((Below.refl wr.heap.size wr).alloc (Nat.le_refl _) o1))
      have HLB2 := Lib.hid (fun o1 o2 : Obj => own_below' HLB.out (((Below.refl wr.heap.size wr).alloc (Nat.le_refl _) o1).alloc (by simp) o2))
      have HBA := Lib.hid (fun o1 o2 : Obj => (HB.out.alloc hsz o1).alloc (by simp; omega) o2)
      by_cases e1 : 0 ≤ plI xs v.f
      · by_cases e2 : 0 ≤ plI xs v.t
        · have HT := Lib.hid (rpT_yes hv.out (show kpE xs v = true by simp [kpE, e1, e2]))
          go_wp2_with (first
            | (go_at_call 82; refine (CP.out _ _ (by first | exact HB1.out _ | exact HB2.out _ _)).mono ?_; rintro e w2 ⟨rfl, rfl⟩)
            | (at_builtin; go_loud (refine wpList_append_put el_ed rfl _ _ rfl _ (w.heap.size + 1) (.slice A k c) k (edCs (rpT x xs j)) rfl (by exact (HQ2.out _ _).row) ⟨wr.heap.size + 1, 0, none⟩ 1 1 (edC (reEd xs v)) rfl rfl (by decide) (by exact cells_ed _ (reEd xs v) _ (by simp)) (one_ed _) (by omega) (by simp <;> omega) ?_; intro A' c' w' ho hg hw; have HQ3 := Lib.hid ((HQ2.out _ _).put (es' := rpT x xs (j + 1)) (by rw [HT.out, edCs_snoc]; exact ho) hg hw); have HRS3 := Lib.hid ((HQ2.out _ _).other hg (HRS2.out _ _) (v2 := .slice A' (k + 1) c') (fun g e1 e2 => by have h1 := (HQ.out.row.lt g e2).1; simp [Value.ownBlock] at e1; omega) (by simp [Value.ownBlock] <;> omega)); have HLB3 := Lib.hid ((HQ2.out _ _).other hg (HLB2.out _ _) (v2 := .slice A' (k + 1) c') HNE.out (fun e => by have := HLO.out _ e; omega)); have HNE3 := Lib.hid (show ∀ g, (Value.slice AL x.ls.length cL).ownBlock = some g → (Value.slice A' (k + 1) c').ownBlock = some g → False from fun g e1 e2 => by (rcases hw g e2 with h1 | h1); exact HNE.out g e1 h1; have h2 := (HLB.out.lt g e1).2; simp at h1; omega); have HB3 := Lib.hid (((HBA.out _ _).grown hg (by simp; omega) (fun g e => by have := (HQ.out.row.lt g e).1; omega)).setCell (p := ⟨w.heap.size + 1 + 1, 3, none⟩) (by simp only []; omega) (.slice A' (k + 1) c')); obtain ⟨_, _, _, u3, _, uf3, ul⟩ := ((HQ2.out _ _).box.kept hg HQ.out.ne).cells; clear ho hg hw)))
          go_roundw
          case rel => exact ⟨j + 1, k + 1, A', c', by omega, by omega, by go_num, Lib.hid (by rw [HT.out, List.length_append, ← HKL.out]; rfl), HQ3, HRS3, HLB3, HNE3, HB3⟩
          case measure => simp [intOf]; omega
        · have HT := Lib.hid (rpT_no hv.out (show kpE xs v = false by simp [kpE, e2]))
          go_wp2_with (first
            | (go_at_call 82; refine (CP.out _ _ (by first | exact HB1.out _ | exact HB2.out _ _)).mono ?_; rintro e w2 ⟨rfl, rfl⟩))
          go_roundw
          case rel => exact ⟨j + 1, k, A, c, by omega, by omega, by go_num, Lib.hid (by rw [HT.out]; exact HKL.out), Lib.hid (by rw [HT.out]; exact HQ1.out _), Lib.hid (HRS1.out _), Lib.hid (HLB1.out _), HNE, Lib.hid (HB1.out _)⟩
          case measure => simp [intOf]; omega
      · have HT := Lib.hid (rpT_no hv.out (show kpE xs v = false by simp [kpE, e1]))
        go_wp2_with (first
          | (go_at_call 82; refine (CP.out _ _ (by first | exact HB1.out _ | exact HB2.out _ _)).mono ?_; rintro e w2 ⟨rfl, rfl⟩))
        go_roundw
        case rel => exact ⟨j + 1, k, A, c, by omega, by omega, by go_num, Lib.hid (by rw [HT.out]; exact HKL.out), Lib.hid (by rw [HT.out]; exact HQ1.out _), Lib.hid (HRS1.out _), Lib.hid (HLB1.out _), HNE, Lib.hid (HB1.out _)⟩
        case measure => simp [intOf]; omega
    · have HE := Lib.hid (rpT_all (xs := xs) (show x.es.length ≤ j by omega))
      have hk : k = (rpE x xs).length := by rw [← HE.out]; exact HKL.out
      subst hk
      have HRW := Lib.hid (show KS (w.heap.size + 1) (w.heap.size + 1 + 1) (.int .i64 n) (.int .i64 (plI xs x.ini)) (.slice AL x.ls.length cL) wr A (rpE x xs).length c (rpE x xs) by have h := HQ.out; rw [HE.out] at h; exact h)
      obtain ⟨s0, s1, s2, s3, sf2, sf3, sl⟩ := (show BoxO wr w.heap.size w.heap.size _ from HRS.out).cells
      obtain ⟨sf0, sf1⟩ := (show BoxO wr w.heap.size w.heap.size _ from HRS.out).fr
      go_wp2
      have hF := (show BoxO wr w.heap.size w.heap.size _ from HRS.out).fill (.int .i64 n) (.int .i64 (plI xs x.ini)) (.slice AL x.ls.length cL) (.slice A (rpE x xs).length c)
      have hg := hF.2
      obtain ⟨r0, r1, r2, r3, _, _, _⟩ := hF.1.cells
      have hlab := HVC.out _ _ _ _ 9 _ rfl (World.ownsRow.kept HLB.out hg (.inr (fun e => by have := HLO.out _ e; omega)))
      have hrow := ol_ed (World.ownsRow.kept HRW.out.row hg (.inr (fun e => by have := (HRW.out.row.lt _ e).1; omega))) rfl
      have hbl := HB.out.grown hg hsz (fun g e => by cases e; exact Nat.le_refl _)
      clear hF hg s0 s1 s2 s3 sf0 sf1 sf2 sf3
      generalize ((((wr.setCell ⟨w.heap.size, 0, none⟩ (.int .i64 n)).setCell ⟨w.heap.size, 1, none⟩ (.int .i64 (plI xs x.ini))).setCell ⟨w.heap.size, 2, none⟩ (.slice AL x.ls.length cL)).setCell ⟨w.heap.size, 3, none⟩ (.slice A (rpE x xs).length c)) = WF at *
      refine bodyPost_ret (v := .agg #[.int .i64 n, .int .i64 (plI xs x.ini), .slice AL x.ls.length cL, .slice A (rpE x xs).length c]) (by simp [results, Tryz.results50, go_sem, r0, r1, r2, r3]; (try rfl)) rfl ?_
      have hret := ret_lt (w := w) (w' := WF) (y := rpY x xs) hlab hrow (fun b hb => ⟨by have := hb.1; omega, hb.2⟩) (fun b hb => ⟨by have := hb.1; omega, hb.2⟩) HNE.out hbl
      have e1 : (rpY x xs).st = (n : Int) := by show (xs.length : Int) = n; rw [L.out]
      rw [e1] at hret
      exact hret
set_option maxRecDepth 100000 in
set_option maxHeartbeats 4000000 in
theorem specRp_any {x : Lt} {cs : List Value} {w : World} {S : Nat → Prop} (h : ltR.R w S x cs) (hS : ∀ b, S b → b < w.heap.size) (ok : okLt x) :
    Calls Tryz.prog 25 #[.agg cs.toArray] w (RetRp (rpR x) (rchR x) (rchC x) w) := by
  obtain ⟨A1, c1, A2, c2, rfl, ⟨m1, m3, r1⟩, ⟨m2, m4, r2⟩⟩ := h
  have HB := Lib.hid (fun o o2 : Obj => ((Below.refl w.heap.size w).alloc (Nat.le_refl _) o).alloc (by simp) o2)
  have C := Lib.hid (fun (W : World) (hW : Below w.heap.size w W) (q : Nat) (y : Box4 W q x A1 A2 c1 c2) => l11Is_any x q A1 A2 c1 c2 W S y.1 y.2.1 y.2.2.1 y.2.2.2 (r1.keep (SameOn.of_below hW hS)) (r2.keep (SameOn.of_below hW hS)) (fun b hb => Nat.lt_of_lt_of_le (hS b hb) hW.size) ok)
  have CR := Lib.hid (fun (tv : ltB x = true) (W : World) (hW : Below w.heap.size w W) (q : Nat) (y : Box4 W q x A1 A2 c1 c2) => l11Reach_any x q A2 c2 W S y.1 y.2.1 y.2.2.2 (r2.keep (SameOn.of_below hW hS)) (fun b hb => Nat.lt_of_lt_of_le (hS b hb) hW.size) tv)
  have CK := Lib.hid (fun (tv : ltB x = true) (q : Nat) (B : Option Addr) (d : Nat) (zs : List Int) (W : World) (hW : Below w.heap.size w W) (y : Box4 W q x A1 A2 c1 c2) (S2 : Nat → Prop) (hp : LRow intR W S2 B zs) (hS2 : ∀ b, S2 b → b < W.heap.size) (m : zs.length ≤ 1048576) => l11Keep_any x q A1 A2 c1 c2 B zs.length d zs W S S2 y (r1.keep (SameOn.of_below hW hS)) (r2.keep (SameOn.of_below hW hS)) (fun b hb => Nat.lt_of_lt_of_le (hS b hb) hW.size) hp hS2 rfl m ok tv)
  clear r1 r2 hS ok
  go_enter Tryz.func25, Tryz.ntmps25
  go_wp2_with fail
  refine (C.out _ (HB.out _ _) w.heap.size ⟨by simp [go_sem], by simp [go_sem], by simp [go_sem], by simp [go_sem]⟩).mono ?_
  rintro e w2 ⟨rfl, hb2⟩
  have Y2 := Lib.hid (show Box4 w2 w.heap.size x A1 A2 c1 c2 from Box4.next (x := x) (A1 := A1) (A2 := A2) (c1 := c1) (c2 := c2) ⟨by simp [go_sem], by simp [go_sem], by simp [go_sem], by simp [go_sem]⟩ hb2)
  have HRS := Lib.hid (BoxO.below (BoxO.new' (w := w.alloc _) (lo := w.heap.size + 1) (q := w.heap.size + 1) (by simp) (Nat.le_refl _) _ _ _ _) hb2)
  have HB2 := Lib.hid ((HB.out _ _).trans (hb2.mono (HB.out _ _).size))
  have HS2 := Lib.hid (show w.heap.size + 2 ≤ w2.heap.size from by have := hb2.size; simp at this; exact this)
  clear hb2
  rcases tv : ltB x with _ | _
  · have HF := Lib.hid (rchC_no tv)
    have HG := Lib.hid (rchR_no tv)
    have HR := Lib.hid (rpR_no tv)
    obtain ⟨s0, s1, s2, s3, sf2, sf3, sl⟩ := HRS.out.cells
    obtain ⟨sf0, sf1⟩ := HRS.out.fr
    clear tv
    go_wp2
    have hF := HRS.out.fill (.int .i64 0) (.int .i64 0) (.slice none 0 0) (.slice none 0 0)
    have hbl := HB2.out.grown hF.2 HB2.out.size (fun g e => by cases e; omega)
    obtain ⟨r0, r1, r2, r3, _, _, _⟩ := hF.1.cells
    clear hF s0 s1 s2 s3 sf0 sf1 sf2 sf3
    generalize ((((w2.setCell ⟨w.heap.size + 1, 0, none⟩ (.int .i64 0)).setCell ⟨w.heap.size + 1, 1, none⟩ (.int .i64 0)).setCell ⟨w.heap.size + 1, 2, none⟩ (.slice none 0 0)).setCell ⟨w.heap.size + 1, 3, none⟩ (.slice none 0 0)) = WF at *
    refine bodyPost_ret (v := .tuple #[.agg #[.int .i64 0, .int .i64 0, .slice none 0 0, .slice none 0 0], .slice none 0 0, .int .i64 1]) (by simp [results, Tryz.results25, go_sem, r0, r1, r2, r3]; (try rfl)) rfl ?_
    rw [HF.out, HG.out, HR.out]
    exact ⟨[.int .i64 0, .int .i64 0, .slice none 0 0, .slice none 0 0], none, 0, WF.heap.size, rfl, hbl.size, Nat.le_refl _, OL.nil, ltO_zero, hbl⟩
  · have HF := Lib.hid (rchC_yes tv)
    have HG := Lib.hid (rchR_yes tv)
    have HR := Lib.hid (rpR_yes tv)
    have C3 := Lib.hid (CR.out tv _ HB2.out w.heap.size Y2.out)
    have CK3 := Lib.hid (CK.out tv w.heap.size)
    have HLN := Lib.hid (show (rchL x).length ≤ 1048576 by have h1 := rchL_len x; have h2 := (ltB_parts tv).1; omega)
    clear tv
    go_wp2_with (first
      | (go_at_call 49; refine (C3.out).mono ?_; rintro e w3 ⟨A, c, rfl, hO, hb3⟩; have HO := Lib.hid hO; have HB3 := Lib.hid (HB2.out.trans (hb3.mono HB2.out.size)); have HS3 := Lib.hid hb3.size; have HRS3 := Lib.hid (HRS.out.below hb3); have C4 := Lib.hid (CK3.out A c (rchL x) w3 HB3.out (Y2.out.next hb3) _ hO.lrow (fun b hb => hb.2) HLN.out); clear hb3 hO)
      | (go_at_call 50; refine (C4.out).mono ?_; rintro e w4 ⟨cs, rfl, hO4, hb4⟩; obtain ⟨D1, d1, D2, d2, E, rfl, hE⟩ := hO4; have HE := Lib.hid hE; have HS4 := Lib.hid hb4.size; have HB4 := Lib.hid (HB3.out.trans (hb4.mono HB3.out.size)); have HRS4 := Lib.hid (HRS3.out.below hb4); have HO4 := Lib.hid (HO.out.keep (SameB.of_belowB hb4 fun b hb => hb.2)); obtain ⟨s0, s1, s2, s3, sf2, sf3, sl⟩ := HRS4.out.cells; obtain ⟨sf0, sf1⟩ := HRS4.out.fr; clear hb4 hE))
    have hF := HRS4.out.fill (.int .i64 (rpY x (rchL x)).st) (.int .i64 (rpY x (rchL x)).ini) (.slice D1 (rpY x (rchL x)).ls.length d1) (.slice D2 (rpY x (rchL x)).es.length d2)
    have hbl := HB4.out.grown hF.2 HB4.out.size (fun g e => by cases e; omega)
    have hs5 := hF.2.size
    have hL := HO4.out.keep (sameB_grown hF.2 (fun hb => by have h1 := hb.1; have h2 := HS2.out; omega))
    have hT := ltO.keep (show ltO.O w4 (In w3.heap.size w4.heap.size) (rpY x (rchL x)) [.int .i64 (rpY x (rchL x)).st, .int .i64 (rpY x (rchL x)).ini, .slice D1 (rpY x (rchL x)).ls.length d1, .slice D2 (rpY x (rchL x)).es.length d2] from ⟨D1, d1, D2, d2, E, rfl, HE.out⟩) (sameB_grown hF.2 (fun hb => by have h1 := hb.1; have h2 := HS2.out; have h3 := HS3.out; omega))
    obtain ⟨r0, r1, r2, r3, _, _, _⟩ := hF.1.cells
    clear hF s0 s1 s2 s3 sf0 sf1 sf2 sf3
    generalize ((((w4.setCell ⟨w.heap.size + 1, 0, none⟩ (.int .i64 (rpY x (rchL x)).st)).setCell ⟨w.heap.size + 1, 1, none⟩ (.int .i64 (rpY x (rchL x)).ini)).setCell ⟨w.heap.size + 1, 2, none⟩ (.slice D1 (rpY x (rchL x)).ls.length d1)).setCell ⟨w.heap.size + 1, 3, none⟩ (.slice D2 (rpY x (rchL x)).es.length d2)) = WF at *
    refine bodyPost_ret (v := .tuple #[.agg #[.int .i64 (rpY x (rchL x)).st, .int .i64 (rpY x (rchL x)).ini, .slice D1 (rpY x (rchL x)).ls.length d1, .slice D2 (rpY x (rchL x)).es.length d2], .slice A (rchL x).length c, .int .i64 0]) (by simp [results, Tryz.results25, go_sem, r0, r1, r2, r3]; (try rfl)) rfl ?_
    rw [HF.out, HG.out, HR.out]
    have h2 := HS2.out
    have h3 := HS3.out
    have h4 := HS4.out
    exact ⟨[.int .i64 (rpY x (rchL x)).st, .int .i64 (rpY x (rchL x)).ini, .slice D1 (rpY x (rchL x)).ls.length d1, .slice D2 (rpY x (rchL x)).es.length d2], A, c, w3.heap.size, rfl, by omega, by omega, hL.more (fun b hb => ⟨by have := hb.1; omega, hb.2⟩), ltO.more hT (fun b hb => ⟨hb.1, by have := hb.2; omega⟩), hbl⟩
end Go.Proofs.YtbailpfjgjcbdaaGreatDoor
