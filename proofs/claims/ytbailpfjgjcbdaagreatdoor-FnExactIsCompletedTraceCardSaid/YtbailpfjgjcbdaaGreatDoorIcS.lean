/- Closures over internal edges: the model. -/
import Derived.Test.YtbailpfjgjcbdaaGreatDoorRei
import Derived.Test.YtbailpfjgjcbdaaGreatDoorLtO
import Derived.Test.YtbailpfjgjcbdaaGreatDoorIcM
namespace Go.Proofs.YtbailpfjgjcbdaaGreatDoor
open Go.RowKit
set_option linter.unusedVariables false
set_option linter.unusedSimpArgs false
theorem l00In_a (k lo hi : Int) (w : World) : Calls Tryz.prog 57 #[.int .i64 k, .int .i64 lo, .int .i64 hi] w fun e w' => e = .returned (.bool (inR k lo hi)) ∧ w = w' := l00In_any k lo hi w
set_option maxRecDepth 100000 in
set_option maxHeartbeats 4000000 in
theorem l00Rises_any (B : Option Addr) (n d : Nat) (xs : List Int) (N : Int) (w : World) (S2 : Nat → Prop) (hp : LRow intR w S2 B xs) (l : xs.length = n) (m : n ≤ 1048576) (hS2 : ∀ b, S2 b → b < w.heap.size) :
    Calls Tryz.prog 30 #[.slice B n d, .int .i64 0, .int .i64 (N - 1)] w fun e w' => e = .returned (.bool (riB N xs)) ∧ Below w.heap.size w w' := by
  have HR := Lib.hid hp
  have HS2 := Lib.hid hS2
  have L := Lib.hid l
  obtain ⟨M, hM⟩ : ∃ M : Int, N - 1 = M := ⟨_, rfl⟩
  have HMM := Lib.hid hM
  rw [hM]
  clear hp hS2 l hM
  go_enter Tryz.func30, Tryz.ntmps30
  go_wp2
  go_loopw [7] (fun i wr => ∃ j : Nat, j ≤ n ∧ i = .int .i64 j ∧ Hid (Drawn w wr) ∧ Hid ((xs.take j).all (fun i => idxI i N) = true) ∧ Hid (inc cmI (xs.take j) = true)) (fun i _ => n - (intOf i).toNat)
  case atStart => exact ⟨0, Nat.zero_le _, rfl, Lib.hid (Drawn.refl _), Lib.hid rfl, Lib.hid rfl⟩
  case round =>
    obtain ⟨j, hk, rfl, HD, HE, HI⟩ := hrel
    have HBW := Lib.hid (HD.out.below w.heap.size)
    by_cases hlt : j < n
    · obtain ⟨b, o, i, rfl, hb, r0, hi⟩ := int_row (HR.out.keep (SameOn.of_drawn HD.out)) (k := j) (by rw [L.out]; exact hlt)
      have lb := World.block_lt_of_cell? wr _ r0
      have CI := Lib.hid (fun W : World => (show Calls Tryz.prog 57 #[.int .i64 i, .int .i64 0, .int .i64 M] W (fun e w' => e = .returned (.bool (idxI i N)) ∧ W = w') by have h := l00In_a i 0 (N - 1) W; rw [inR_idx, HMM.out] at h; exact h))
      rcases ta : idxI i N with _ | _
      · have HF := Lib.hid (riB_all (n := N) (all_false (p := fun i => idxI i N) hi.out ta))
        rw [ta] at CI
        clear ta
        go_wp2
        go_quiet ((go_at_call 57; exact quiet_same (CI.out _)))
        go_wp2
        go_ret
        exact ⟨by rw [HF.out]; rfl, HBW.out.trans (below_drewN _ _ _)⟩
      · have HN := Lib.hid (all_take_next (p := fun i => idxI i N) HE.out hi.out ta)
        rw [ta] at CI
        clear ta
        rcases Nat.eq_zero_or_pos j with h0 | h0
        · subst h0
          rw [Nat.add_zero] at r0
          have HC := Lib.hid (inc_short cmI xs)
          go_wp2
          go_quiet ((go_at_call 57; exact quiet_same (CI.out _)))
          go_wp2
          go_roundw
          case rel => exact ⟨0 + 1, by omega, by go_num, Lib.hid (HD.out.drewN _), HN, HC⟩
          case measure => simp [intOf]; omega
        · obtain ⟨k, hkj⟩ : ∃ k, j = k + 1 := ⟨j - 1, by omega⟩
          obtain ⟨b', o', i', eA, hb', r1, hi'⟩ := int_row (HR.out.keep (SameOn.of_drawn HD.out)) (k := k) (by rw [L.out]; omega)
          injection eA with eA
          injection eA with e1 e2
          subst e1 e2
          have hwk : IntKind.i64.wrap ((j : Int) - 1) = (k : Int) := by (rw [IntKind.wrap_i64]; omega)
          have hpos : (0 : Int) < (j : Int) := by omega
          have hkn : k < n := by omega
          have hv' := hi.out
          rw [hkj] at hv'
          have HV' := Lib.hid hv'
          have HJ := Lib.hid hkj
          clear hkj hv'
          by_cases tl : i' < i
          · have HC := Lib.hid (show inc cmI (xs.take (j + 1)) = true by have ht := HI.out; rw [HJ.out] at ht ⊢; rw [inc_step hi'.out HV'.out, ht, decide_eq_true (cmI_neg.2 tl)]; rfl)
            have hg : ¬ (i ≤ i') := by omega
            clear tl
            go_wp2
            go_quiet ((go_at_call 57; exact quiet_same (CI.out _)))
            go_wp2
            go_roundw
            case rel => exact ⟨j + 1, by omega, by go_num, Lib.hid (HD.out.drewN _), HN, HC⟩
            case measure => simp [intOf]; omega
          · have HF := Lib.hid (riB_inc (n := N) (inc_bad hi'.out HV'.out (fun e => tl (cmI_neg.1 e))))
            have hg : i ≤ i' := by omega
            clear tl
            go_wp2
            go_quiet ((go_at_call 57; exact quiet_same (CI.out _)))
            go_wp2
            go_ret
            exact ⟨by rw [HF.out]; rfl, HBW.out.trans (below_drewN _ _ _)⟩
    · have HF := Lib.hid (show riB N xs = true by
        have ht := HE.out
        have hc := HI.out
        rw [List.take_of_length_le (by rw [L.out]; omega)] at ht hc
        exact riB_yes hc ht)
      go_wp2
      go_ret
      exact ⟨by rw [HF.out]; rfl, HBW.out⟩
/-- A row of marks of the call's own. -/
def MkRow (w : World) (lo g N : Nat) (sb : List Bool) : Prop := w.ownsRow lo 4 1 (.slice (some ⟨g, 0, none⟩) N N) N (sb.map Value.bool)
set_option maxRecDepth 100000 in
set_option maxHeartbeats 4000000 in
theorem l12Marks_any (p : Nat) (B : Option Addr) (n d N : Nat) (st : Int) (xs : List Int) (w : World) (S2 : Nat → Prop) (y0 : w.cell? ⟨p, 0, none⟩ = some (.int .i64 st)) (hN : st = (N : Int)) (hN40 : N ≤ 40) (hp : LRow intR w S2 B xs) (l : xs.length = n) (m : n ≤ 1048576) (hS2 : ∀ b, S2 b → b < w.heap.size) (hin : ∀ k ∈ xs, 0 ≤ k ∧ k < (N : Int)) :
    Calls Tryz.prog 31 #[.pointer (some ⟨p, 0, none⟩), .slice B n d] w fun e w' => e = .returned (.slice (some ⟨w.heap.size, 0, none⟩) N N) ∧ (∃ sb, MkS N xs sb ∧ MkRow w' w.heap.size w.heap.size N sb) ∧ Below w.heap.size w w' := by
  obtain ⟨i0, hi, hz0, hz1, hz2⟩ := info_parts (show (Tryz.prog.info? 4).map (fun i => (i.zero, i.size, i.bytes)) = some (some (.bool false), 1, 1) by kernel_rfl)
  have hpt := World.block_lt_of_cell? w _ y0
  rw [hN] at y0
  have HR := Lib.hid hp
  have HS2 := Lib.hid hS2
  have L := Lib.hid l
  have HIN := Lib.hid hin
  clear hp hS2 l hN hin
  go_enter Tryz.func31, Tryz.ntmps31
  go_wp2_with (at_make; refine wpList_make_full _ rfl _ _ _ rfl w.heap.size 4 i0 (.bool false) 1 Tryz.underlying54 hi hz0 hz1 .i64 .i64 _ _ N rfl rfl rfl rfl (by rw [hz2]; omega) (by unfold maxLen; omega) (Nat.le_refl _) ?_; intro w1 hown1 hg1; have hb1 := Lib.hid (show Below w.heap.size w w1 from (Below.refl _ _).grown hg1 (Nat.le_refl _) (by simp)); have HO1 := Lib.hid hown1; clear hown1 hg1)
  have H0 := Lib.hid (show MkRow w1 w.heap.size w.heap.size N (List.replicate N false) by
    have h := HO1.out
    have e := toList_madeCells_one (.bool false) N
    have e2 : (Value.bool false).cells = #[.bool false] := rfl
    rw [e2, Nat.mul_one, e] at h
    unfold MkRow
    rw [List.map_replicate]
    exact h)
  clear hi hz0 hz1 hz2 HO1 y0
  go_loopw [6] (fun i wr => ∃ (j : Nat) (sb : List Bool), j ≤ n ∧ i = .int .i64 (j : Int) ∧ Hid (MkS N (xs.take j) sb) ∧ Hid (MkRow wr w.heap.size w.heap.size N sb) ∧ Hid (Below w.heap.size w wr)) (fun i _ => n - (intOf i).toNat)
  case atStart => exact ⟨0, _, Nat.zero_le _, rfl, Lib.hid (MkS.zero N), H0, hb1⟩
  case round =>
    clear H0 hb1
    obtain ⟨j, sb, hj, rfl, HM, HO, HB⟩ := hrel
    have hsz := HB.out.size
    by_cases hlt : j < n
    · obtain ⟨b, o, i, rfl, hb, r0, hi⟩ := int_row (HR.out.keep (SameOn.of_below HB.out HS2.out)) (k := j) (by rw [L.out]; exact hlt)
      obtain ⟨h0, h1⟩ := HIN.out i (List.mem_of_getElem? hi.out)
      obtain ⟨t, rfl⟩ : ∃ t : Nat, i = (t : Int) := ⟨i.toNat, by omega⟩
      have htN : t < N := by omega
      have HM2 := Lib.hid (show MkS N (xs.take (j + 1)) (sb.set t true) by rw [take_one _ _ _ hi.out]; exact HM.out.set htN)
      have hrow : wr.ownsRow w.heap.size 4 1 (.slice (some ⟨w.heap.size, 0, none⟩) N N) N (sb.map Value.bool) := HO.out
      obtain ⟨⟨old0, hx0⟩, hf0⟩ := own_some hrow (k := t) (by omega)
      have lw : w.heap.size < wr.heap.size := World.block_lt_of_cell? wr _ hx0
      have lb := World.block_lt_of_cell? wr _ r0
      have HO2 := Lib.hid (show MkRow (wr.setCell ⟨w.heap.size, t, none⟩ (.bool true)) w.heap.size w.heap.size N (sb.set t true) by unfold MkRow; rw [List.map_set]; exact (hrow.stored t (.bool true)).1)
      have HB2 := Lib.hid (HB.out.setCell (p := ⟨w.heap.size, t, none⟩) (Nat.le_refl _) (.bool true))
      clear hrow
      go_wp2
      go_roundw
      case rel => exact ⟨j + 1, _, by omega, by go_num, HM2, HO2, HB2⟩
      case measure => simp [intOf]; omega
    · have HE := Lib.hid (show xs.take j = xs from List.take_of_length_le (by rw [L.out]; omega))
      go_wp2
      go_ret
      exact ⟨rfl, ⟨sb, by have h := HM.out; rw [HE.out] at h; exact h, HO.out⟩, HB.out⟩
set_option maxRecDepth 100000 in
set_option maxHeartbeats 8000000 in
theorem l12Close_any (x : Lt) (p : Nat) (A2 : Option Addr) (c2 N lo g : Nat) (st : List Int) (sb0 : List Bool) (w : World) (S : Nat → Prop) (y3 : w.cell? ⟨p, 3, none⟩ = some (.slice A2 x.es.length c2)) (h2 : LRow edR w S A2 x.es) (hS : ∀ b, S b → b < lo) (hp : p < lo) (hlo : lo ≤ w.heap.size) (hlg : lo ≤ g) (tv : ltB x = true) (hN : x.st = (N : Int)) (hM : GMid N (tauE x) st sb0) (hO : MkRow w lo g N sb0) :
    Calls Tryz.prog 32 #[.pointer (some ⟨p, 0, none⟩), .slice (some ⟨g, 0, none⟩) N N] w fun e w' => (∃ v, e = .returned v) ∧ (∃ sb, GMid N (tauE x) st sb ∧ clo0 x sb x.es.length ∧ MkRow w' lo g N sb) ∧ Below lo w w' := by
  obtain ⟨hst, _, _, hm, _, hin⟩ := ltB_parts tv
  have HIN := Lib.hid (fun (e : Ed) (he : e ∈ x.es) => inE_iff.1 (List.all_eq_true.1 hin e he))
  have hN40 : N ≤ 40 := by omega
  have HN := Lib.hid hN
  have Y := Lib.hid (fun (W : World) (hW : Below lo w W) => (⟨(hW.cell (p := ⟨p, 3, none⟩) hp).trans y3, Nat.lt_of_lt_of_le hp (Nat.le_trans hlo hW.size)⟩ : W.cell? ⟨p, 3, none⟩ = some (.slice A2 x.es.length c2) ∧ p < W.heap.size))
  have R2 := Lib.hid h2
  have HS := Lib.hid hS
  have HM0 := Lib.hid hM
  have HO0 := Lib.hid hO
  have hpl := Nat.lt_of_lt_of_le hp hlo
  clear h2 hS hin y3 hst tv hM hO hN
  go_enter Tryz.func32, Tryz.ntmps32
  go_wp2
  go_loopw [4] (fun m wr => ∃ (b : Bool) (sb : List Bool), m = .bool b ∧ Hid (GMid N (tauE x) st sb) ∧ Hid (b = false → clo0 x sb x.es.length) ∧ Hid (MkRow wr lo g N sb) ∧ Hid (Below lo w wr)) (fun m wr => 2 * lowN wr g N + mOf m)
  case atStart => exact ⟨true, _, rfl, HM0, Lib.hid (fun e => by cases e), HO0, Lib.hid (Below.refl _ _)⟩
  case round =>
    clear HO0 HM0
    obtain ⟨b, sb, rfl, HM, HC, HO, HB⟩ := hrel
    obtain ⟨wo, rfl⟩ : ∃ wo : World, wo = wr := ⟨_, rfl⟩
    have hsz := HB.out.size
    have HL := Lib.hid (low_cnt (W := wo) (b := g) (sb := sb) (n := N) (fun j hj => World.ownsRow.cellAt (show wo.ownsRow lo 4 1 (.slice (some ⟨g, 0, none⟩) N N) N (sb.map Value.bool) from HO.out) j (by omega)))
    rcases b with _ | _
    case true =>
      go_wp2
      go_loopw [4, 5] (fun m i wr => ∃ (b : Bool) (j : Nat) (sb' : List Bool), j ≤ x.es.length ∧ i = .int .i64 (j : Int) ∧ m = .bool b ∧ Hid (GMid N (tauE x) st sb') ∧ Hid (b = false → clo0 x sb' j) ∧ Hid (cntF sb' N + (if b = true then 1 else 0) ≤ cntF sb N) ∧ Hid (MkRow wr lo g N sb') ∧ Hid (Below lo w wr)) (fun _ i _ => x.es.length - (intOf i).toNat)
      case atStart => exact ⟨false, 0, sb, Nat.zero_le _, rfl, rfl, HM, Lib.hid (fun _ => clo0_zero _ _), Lib.hid (by simp), HO, HB⟩
      case round =>
        clear HM HC HO HB hsz
        obtain ⟨b, j, sb', hj, rfl, rfl, HM, HC, HLE, HO, HB⟩ := hrel
        obtain ⟨z3, hpr⟩ := Y.out _ HB.out
        have hsz := HB.out.size
        have hszl := Nat.le_trans hlo hsz
        have hrow : wr.ownsRow lo 4 1 (.slice (some ⟨g, 0, none⟩) N N) N (sb'.map Value.bool) := HO.out
        by_cases hlt : j < x.es.length
        · obtain ⟨b2, o, cs, v, rfl, hb2, hR, hv, hc⟩ := (R2.out.keep (SameOn.of_below HB.out HS.out)).at_ (k := j) hlt
          have hR : cs = [Value.int .i64 v.f, Value.int .i64 v.l, Value.int .i64 v.t] := hR
          subst hR
          obtain ⟨⟨f0, f1⟩, _, ⟨t0, t1⟩⟩ := HIN.out v (List.mem_of_getElem? hv.out)
          rw [HN.out] at f1 t1
          obtain ⟨F, hF⟩ : ∃ F : Nat, v.f = (F : Int) := ⟨v.f.toNat, by omega⟩
          obtain ⟨T, hT⟩ : ∃ T : Nat, v.t = (T : Int) := ⟨v.t.toNat, by omega⟩
          have hFN : F < N := by omega
          have hTN : T < N := by omega
          have g0 : wr.cell? ⟨b2, o + j * 3, none⟩ = some (.int .i64 (F : Int)) := by rw [← hF]; exact hc 0 _ rfl
          have g1 : wr.cell? ⟨b2, o + j * 3 + 1, none⟩ = some (.int .i64 v.l) := hc 1 _ rfl
          have g2 : wr.cell? ⟨b2, o + j * 3 + 2, none⟩ = some (.int .i64 (T : Int)) := by rw [← hT]; exact hc 2 _ rfl
          have HFF := Lib.hid (show v.f.toNat = F by omega)
          have HTT := Lib.hid (show v.t.toNat = T by omega)
          have HVT := Lib.hid hT
          have lb := World.block_lt_of_cell? wr _ g0
          have hlen : sb'.length = N := HM.out.len
          obtain ⟨vF, hvF⟩ : ∃ vF, sb'[F]? = some vF := ⟨_, List.getElem?_eq_getElem (by omega)⟩
          obtain ⟨vT, hvT⟩ : ∃ vT, sb'[T]? = some vT := ⟨_, List.getElem?_eq_getElem (by omega)⟩
          have gF : wr.cell? ⟨g, F, none⟩ = some (.bool vF) := by rw [hrow.cellAt F (by omega), List.getElem?_map, hvF]; rfl
          have gT : wr.cell? ⟨g, T, none⟩ = some (.bool vT) := by rw [hrow.cellAt T (by omega), List.getElem?_map, hvT]; rfl
          have lw : g < wr.heap.size := World.block_lt_of_cell? wr _ gF
          have hfT := hrow.frozenAt T
          have HVF := Lib.hid hvF
          have HVTT := Lib.hid hvT
          have HBX := Lib.hid (fun ob : Obj => HB.out.alloc hszl ob)
          have HOX := Lib.hid (fun ob : Obj => (show MkRow (wr.alloc ob) lo g N sb' from hrow.alloc ob))
          have HOS := Lib.hid (fun ob : Obj => (show MkRow ((wr.alloc ob).setCell ⟨g, T, none⟩ (.bool true)) lo g N (sb'.set T true) by unfold MkRow; rw [List.map_set]; exact ((hrow.alloc ob).stored T (.bool true)).1))
          have HBS := Lib.hid (fun ob : Obj => (HB.out.alloc hszl ob).setCell (p := ⟨g, T, none⟩) hlg (.bool true))
          have HOT := Lib.hid (fun ob : Obj => (show MkRow ((wr.setCell ⟨g, T, none⟩ (.bool true)).alloc ob) lo g N (sb'.set T true) by unfold MkRow; rw [List.map_set]; exact ((hrow.stored T (.bool true)).1).alloc ob))
          have HBT := Lib.hid (fun ob : Obj => (HB.out.setCell (p := ⟨g, T, none⟩) hlg (.bool true)).alloc (by simp; omega) ob)
          clear hc hF hT hlen hvF hvT f0 f1 t0 t1 hrow
          rcases tl : (v.l == 0) with _ | _
          · have hne : ¬ v.l = 0 := by simpa using tl
            have HN2 := Lib.hid (fun e : b = false => clo0_next (HC.out e) hv.out (fun h => absurd h hne))
            clear hne
            go_wp2
            go_roundw
            case rel => exact ⟨b, j + 1, sb', by omega, by go_num, rfl, HM, HN2, HLE, Lib.hid (by first | exact HOX.out _ | exact HO.out), Lib.hid (by first | exact HBX.out _ | exact HB.out)⟩
            case measure => simp [intOf]; omega
          · have HL0 := Lib.hid (show v.l = 0 by simpa using tl)
            rcases vF with _ | _
            · have HN2 := Lib.hid (fun e : b = false => clo0_next (HC.out e) hv.out (by intro _; rw [HFF.out, HVF.out]; intro h; cases h))
              go_wp2
              go_roundw
              case rel => exact ⟨b, j + 1, sb', by omega, by go_num, rfl, HM, HN2, HLE, Lib.hid (by first | exact HOX.out _ | exact HO.out), Lib.hid (by first | exact HBX.out _ | exact HB.out)⟩
              case measure => simp [intOf]; omega
            · rcases vT with _ | _
              · have HM2 := Lib.hid (HM.out.set (mem_tauE.2 ⟨List.mem_of_getElem? hv.out, HL0.out⟩) (by rw [HFF.out]; exact HVF.out) (by have := (HIN.out v (List.mem_of_getElem? hv.out)).1.1; exact this) HVT.out)
                have HLE2 := Lib.hid (show cntF (sb'.set T true) N + (if true = true then 1 else 0) ≤ cntF sb N by
                  have h1 := cntF_set HVTT.out hTN
                  have h2 := HLE.out
                  rw [if_pos rfl]; omega)
                go_wp2
                go_roundw
                case rel => exact ⟨true, j + 1, sb'.set T true, by omega, by go_num, rfl, HM2, Lib.hid (fun e => by cases e), HLE2, Lib.hid (by first | exact HOS.out _ | exact HOT.out _), Lib.hid (by first | exact HBS.out _ | exact HBT.out _)⟩
                case measure => simp [intOf]; omega
              · have HN2 := Lib.hid (fun e : b = false => clo0_next (HC.out e) hv.out (by intro _ _; rw [HTT.out]; exact HVTT.out))
                go_wp2
                go_roundw
                case rel => exact ⟨b, j + 1, sb', by omega, by go_num, rfl, HM, HN2, HLE, Lib.hid (by first | exact HOX.out _ | exact HO.out), Lib.hid (by first | exact HBX.out _ | exact HB.out)⟩
                case measure => simp [intOf]; omega
        · have HL2 := Lib.hid (low_cnt (W := wr) (b := g) (sb := sb') (n := N) (fun j hj => hrow.cellAt j (by omega)))
          have hje : j = x.es.length := by omega
          have HC2 := Lib.hid (fun e : b = false => (show clo0 x sb' x.es.length from hje ▸ HC.out e))
          clear hje hrow
          go_wp2
          go_roundw
          case rel => exact ⟨b, sb', rfl, HM, HC2, HO, HB⟩
          case measure =>
            have h1 := HL.out
            have h2 := HL2.out
            have h3 := HLE.out
            simp only [h1, h2]
            rcases b with _ | _ <;> simp [mOf] at h3 ⊢ <;> omega
    case false =>
      have HCC := Lib.hid (HC.out rfl)
      go_wp2
      go_end0
      exact ⟨⟨_, rfl⟩, ⟨sb, HM.out, HCC.out, HO.out⟩, HB.out⟩
set_option maxRecDepth 100000 in
set_option maxHeartbeats 4000000 in
theorem l14List_any (N lo g : Nat) (sb : List Bool) (w : World) (hN40 : N ≤ 40) (hl : sb.length = N) (hO : MkRow w lo g N sb) :
    Calls Tryz.prog 33 #[.slice (some ⟨g, 0, none⟩) N N] w fun e w' => ∃ A c, e = .returned (.slice A (selB sb N).length c) ∧ OL intO 2 w' (In w.heap.size w'.heap.size) A (selB sb N).length c (selB sb N) ∧ Below w.heap.size w w' := by
  have hrow0 : w.ownsRow lo 4 1 (.slice (some ⟨g, 0, none⟩) N N) N (sb.map Value.bool) := hO
  have CL := Lib.hid (fun (j : Nat) (hj : j < N) => (hrow0.cellAt j (by omega) : w.cell? ⟨g, j, none⟩ = (sb.map Value.bool)[j]?))
  have HSL := Lib.hid hl
  have H0 := Lib.hid (World.ownsRow_made w #[] 0 (e := 2) (size := 1) (base := w.heap.size) (Nat.le_refl _) (Nat.zero_le _) rfl)
  have HB0 := Lib.hid ((Below.refl w.heap.size w).alloc (Nat.le_refl _) (.cells #[] 2))
  clear hrow0 hO hl
  go_enter Tryz.func33, Tryz.ntmps33
  go_wp2
  go_loopw [3, 4] (fun v i wr => ∃ (j n : Nat) (A : Option Addr) (c : Nat), j ≤ N ∧ n ≤ j ∧ i = .int .i64 (j : Int) ∧ v = .slice A n c ∧ Hid (n = (selB sb j).length) ∧ Hid (wr.ownsRow w.heap.size 2 1 (.slice A n c) n ((selB sb j).map (Value.int .i64))) ∧ Hid (Below w.heap.size w wr)) (fun _ i _ => N - (intOf i).toNat)
  case atStart => exact ⟨0, 0, _, _, Nat.zero_le _, Nat.le_refl _, rfl, rfl, Lib.hid rfl, Lib.hid H0.out, HB0⟩
  case round =>
    clear H0 HB0
    obtain ⟨j, n, A, c, hj, hnj, rfl, rfl, HNN, HO, HB⟩ := hrel
    have hszw := HB.out.size
    by_cases hlt : j < N
    · obtain ⟨vJ, hvJ⟩ : ∃ vJ, sb[j]? = some vJ := ⟨_, List.getElem?_eq_getElem (by rw [HSL.out]; exact hlt)⟩
      have gJ0 : w.cell? ⟨g, j, none⟩ = some (.bool vJ) := by rw [CL.out j hlt, List.getElem?_map, hvJ]; rfl
      have gJ : wr.cell? ⟨g, j, none⟩ = some (.bool vJ) := (HB.out.cell (p := ⟨g, j, none⟩) (World.block_lt_of_cell? w _ gJ0)).trans gJ0
      have lw : g < wr.heap.size := World.block_lt_of_cell? wr _ gJ
      clear gJ0
      rcases vJ with _ | _
      · have HT := Lib.hid (selB_no hvJ)
        clear hvJ
        go_wp2
        go_roundw
        case rel => exact ⟨j + 1, n, A, c, by omega, by omega, by go_num, rfl, Lib.hid (by rw [HT.out]; exact HNN.out), Lib.hid (by rw [HT.out]; exact HO.out), HB⟩
        case measure => simp [intOf]; omega
      · have HT := Lib.hid (selB_yes hvJ)
        have HO2 := Lib.hid (fun ob : Obj => HO.out.alloc ob)
        clear hvJ
        go_wp2_with (at_builtin; refine wpList_append_vs el_int rfl _ _ rfl _ w.heap.size (.slice A n c) n ((selB sb j).map (Value.int .i64)) rfl (by exact HO2.out _) (fun _ => True) (some ⟨wr.heap.size, 0, none⟩) 1 1 [.int .i64 (j : Int)] rfl (by exact srow_int _ _ _) rfl (one_int _) (by omega) (by simp <;> omega) ?_; intro A' c' w' ho hg; have HO3 := Lib.hid ho; have HG3 := Lib.hid hg; clear ho hg)
        go_roundw
        case rel => exact ⟨j + 1, n + 1, A', c', by omega, by omega, by go_num, rfl, Lib.hid (by rw [HT.out, List.length_append, ← HNN.out]; rfl), Lib.hid (by rw [HT.out, List.map_append]; exact HO3.out), Lib.hid ((HB.out.alloc hszw _).grown HG3.out (by simp; omega) (fun g e => (HO.out.lt g e).1))⟩
        case measure => simp [intOf]; omega
    · have hjN : j = N := by omega
      have HE := Lib.hid (show selB sb j = selB sb N by rw [hjN])
      clear hjN
      go_wp2
      go_ret
      have hl : (selB sb N).length = n := by rw [← HE.out, HNN.out]
      refine ⟨A, c, by rw [hl]; rfl, ?_, HB.out⟩
      rw [hl]
      exact ol_int (by rw [← HE.out]; exact HO.out) hl
set_option maxRecDepth 100000 in
set_option maxHeartbeats 4000000 in
theorem specIc_any {x : Lt} {cs : List Value} {B : Option Addr} {p : List Int} {w : World} {S S2 : Nat → Prop} (h : ltR.R w S x cs) (hp : LRow intR w S2 B p) (hS : ∀ b, S b → b < w.heap.size) (hS2 : ∀ b, S2 b → b < w.heap.size) (ok : okLt x) (okp : okList okAny p) :
    Calls Tryz.prog 8 #[.agg cs.toArray, .slice B p.length p.length] w fun e w' => ∃ A c, e = .returned (.tuple #[.slice A (icR x p).length c, .int .i64 (icC x p)]) ∧ OL intO 2 w' (In w.heap.size w'.heap.size) A (icR x p).length c (icR x p) ∧ Below w.heap.size w w' := by
  obtain ⟨A1, c1, A2, c2, rfl, ⟨_, _, r1⟩, ⟨_, _, r2⟩⟩ := h
  have HB := Lib.hid (fun o : Obj => (Below.refl w.heap.size w).alloc (Nat.le_refl _) o)
  have C := Lib.hid (fun (W : World) (hW : Below w.heap.size w W) (q : Nat) (y0 : W.cell? ⟨q, 0, none⟩ = some (.int .i64 x.st)) (y1 : W.cell? ⟨q, 1, none⟩ = some (.int .i64 x.ini)) (y2 : W.cell? ⟨q, 2, none⟩ = some (.slice A1 x.ls.length c1)) (y3 : W.cell? ⟨q, 3, none⟩ = some (.slice A2 x.es.length c2)) => l11Is_any x q A1 A2 c1 c2 W S y0 y1 y2 y3 (r1.keep (SameOn.of_below hW hS)) (r2.keep (SameOn.of_below hW hS)) (fun b hb => Nat.lt_of_lt_of_le (hS b hb) hW.size) ok)
  have CR := Lib.hid (fun (W : World) (hW : Below w.heap.size w W) => l00Rises_any B p.length p.length p x.st W S2 (hp.keep (SameOn.of_below hW hS2)) rfl okp.1 (fun b hb => Nat.lt_of_lt_of_le (hS2 b hb) hW.size))
  have CM := Lib.hid (fun (N : Nat) (hN : x.st = (N : Int)) (hN40 : N ≤ 40) (hin : ∀ k ∈ p, 0 ≤ k ∧ k < (N : Int)) (W : World) (hW : Below w.heap.size w W) (y0 : W.cell? ⟨w.heap.size, 0, none⟩ = some (.int .i64 x.st)) => l12Marks_any w.heap.size B p.length p.length N x.st p W S2 y0 hN hN40 (hp.keep (SameOn.of_below hW hS2)) rfl okp.1 (fun b hb => Nat.lt_of_lt_of_le (hS2 b hb) hW.size) hin)
  have CC := Lib.hid (fun (tv : ltB x = true) (N lo g : Nat) (sb0 : List Bool) (hN : x.st = (N : Int)) (W : World) (hW : Below w.heap.size w W) (hl0 : w.heap.size < lo) (hlo : lo ≤ W.heap.size) (hlg : lo ≤ g) (y3 : W.cell? ⟨w.heap.size, 3, none⟩ = some (.slice A2 x.es.length c2)) (hM : GMid N (tauE x) p sb0) (hO : MkRow W lo g N sb0) => l12Close_any x w.heap.size A2 c2 N lo g p sb0 W S y3 (r2.keep (SameOn.of_below hW hS)) (fun b hb => Nat.lt_trans (hS b hb) hl0) hl0 hlo hlg tv hN hM hO)
  clear r1 r2 hS ok hp hS2 okp
  go_enter Tryz.func8, Tryz.ntmps8
  go_wp2_with fail
  refine (C.out _ (HB.out _) w.heap.size (by simp [go_sem]) (by simp [go_sem]) (by simp [go_sem]) (by simp [go_sem])).mono ?_
  rintro e w2 ⟨rfl, hb2⟩
  have hs2 := hb2.size
  simp at hs2
  obtain ⟨hcc, _⟩ := bcell hb2
  have HB2 := Lib.hid ((HB.out _).trans (hb2.mono (HB.out _).size))
  have y0 : w2.cell? ⟨w.heap.size, 0, none⟩ = some (.int .i64 x.st) := (hcc _ _ (by simp)).trans (by simp [go_sem])
  have y3 : w2.cell? ⟨w.heap.size, 3, none⟩ = some (.slice A2 x.es.length c2) := (hcc _ _ (by simp)).trans (by simp [go_sem])
  have hpb : w.heap.size < w2.heap.size := by omega
  clear hb2 hcc hs2
  rcases tv : ltB x with _ | _
  · have HF := Lib.hid (icC_inv (xs := p) tv)
    have HG := Lib.hid (icR_no (x := x) (xs := p) (by rw [HF.out]; decide))
    clear tv
    go_wp2
    go_ret2
    exact ⟨none, 0, by rw [HF.out, HG.out]; rfl, by rw [HG.out]; exact OL.nil, HB2.out⟩
  · have hst := (ltB_parts tv).1
    have hwl : IntKind.i64.wrap (x.st - 1) = x.st - 1 := by rw [IntKind.wrap_i64]; omega
    obtain ⟨N, hN⟩ : ∃ N : Nat, x.st = (N : Int) := ⟨x.st.toNat, by omega⟩
    have hN40 : N ≤ 40 := by omega
    have HNN := Lib.hid (show x.st.toNat = N by omega)
    have HTV := Lib.hid tv
    have HNX := Lib.hid hN
    clear tv hst hN
    have CR2 := Lib.hid (CR.out w2 HB2.out)
    rcases tr : riB x.st p with _ | _
    · have HF := Lib.hid (icC_rng HTV.out tr)
      have HG := Lib.hid (icR_no (x := x) (xs := p) (by rw [HF.out]; decide))
      rw [tr] at CR2
      clear tr
      go_wp2_with (go_at_call 30; refine (CR2.out).mono ?_; rintro e w3 ⟨rfl, hb3⟩; have HB3 := Lib.hid (HB2.out.trans (hb3.mono HB2.out.size)); clear hb3)
      go_ret2
      exact ⟨none, 0, by rw [HF.out, HG.out]; rfl, by rw [HG.out]; exact OL.nil, HB3.out⟩
    · have HF := Lib.hid (icC_ok HTV.out tr)
      have HG := Lib.hid (icR_ok HF.out)
      have HIN := Lib.hid (riB_in tr)
      have HIN2 := Lib.hid (show ∀ k ∈ p, 0 ≤ k ∧ k < (N : Int) from fun k hk => by have := HIN.out k hk; have := HNX.out; omega)
      rw [tr] at CR2
      clear tr
      go_wp2_with fail
      refine (CR2.out).mono ?_
      rintro e w3 ⟨rfl, hb3⟩
      have z0 := (hb3.cell (p := ⟨w.heap.size, 0, none⟩) hpb).trans y0
      have z3 := (hb3.cell (p := ⟨w.heap.size, 3, none⟩) hpb).trans y3
      have hpb3 := Nat.lt_of_lt_of_le hpb hb3.size
      have HB3 := Lib.hid (HB2.out.trans (hb3.mono HB2.out.size))
      have CM3 := Lib.hid (CM.out N HNX.out hN40 HIN2.out w3 HB3.out z0)
      clear hb3 y0 y3 CR2
      go_wp2_with fail
      refine (CM3.out).mono ?_
      rintro e w4 ⟨rfl, ⟨sb, hmk, hrow⟩, hb4⟩
      have u3 := (hb4.cell (p := ⟨w.heap.size, 3, none⟩) hpb3).trans z3
      have HB4 := Lib.hid (HB3.out.trans (hb4.mono HB3.out.size))
      have C4 := Lib.hid (CC.out HTV.out N w3.heap.size w3.heap.size sb HNX.out w4 HB4.out hpb3 hb4.size (Nat.le_refl _) u3 (hmk.mid HIN2.out) hrow)
      clear hb4 z0 z3 CM3 hmk hrow
      go_wp2_with fail
      refine (C4.out).mono ?_
      rintro e w5 ⟨⟨v, rfl⟩, ⟨sb2, hmid, hclo, hrow⟩, hb5⟩
      have HB5 := Lib.hid (HB4.out.trans (hb5.mono (Nat.le_of_lt hpb3)))
      have HSL := Lib.hid (show selB sb2 N = cloL x p by rw [← HNN.out] at hmid ⊢; exact gmid_all hmid hclo)
      have C5 := Lib.hid (l14List_any N w3.heap.size w3.heap.size sb2 w5 hN40 hmid.len hrow)
      have HS5 := Lib.hid HB5.out.size
      clear hb5 hmid hclo hrow C4
      rw [HSL.out] at C5
      go_wp2_with (go_at_call 33; refine (C5.out).mono ?_; rintro e w6 ⟨A, c, rfl, hO, hb6⟩; have HB6 := Lib.hid (HB5.out.trans (hb6.mono HB5.out.size)); have HO := Lib.hid (hO.more (S' := In w.heap.size w6.heap.size) (fun b hb => ⟨Nat.le_trans HS5.out hb.1, hb.2⟩)); clear hb6 hO)
      go_ret2
      exact ⟨A, c, by (rw [HG.out, HF.out]; rfl), by rw [HG.out]; exact HO.out, HB6.out⟩
end Go.Proofs.YtbailpfjgjcbdaaGreatDoor
