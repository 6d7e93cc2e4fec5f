/- Paths of a transition system: the program. -/
import Derived.Deep.RegionHeld3
import Derived.Test.YtfmnanaeegfgdaaGreatDoorLtV
import Derived.Test.YtfmnanaeegfgdaaGreatDoorPthM
namespace Go.Proofs.YtfmnanaeegfgdaaGreatDoor
open Go.RowKit
/-- The numbers of a row, one at a time. -/
theorem int_at {w : World} {S : Nat → Prop} {B : Option Addr} {p : List Int} (h : LRow intR w S B p) {k : Nat} (hk : k < p.length) : ∃ b o i, B = some ⟨b, o, none⟩ ∧ S b ∧ w.cell? ⟨b, o + k, none⟩ = some (.int .i64 i) ∧ Hid (p[k]? = some i) := by
  obtain ⟨b, o, cs, i, rfl, hb, hR, hi, hc⟩ := h.at_ (k := k) hk
  have hR : cs = [Value.int .i64 i] := hR
  subst hR
  exact ⟨b, o, i, rfl, hb, by have := hc 0 _ rfl; simpa [intR] using this, hi⟩
theorem take_row {w : World} {S : Nat → Prop} {B : Option Addr} {p : List Int} (h : LRow intR w S B p) (k : Nat) : LRow intR w S B (p.take k) := by
  obtain ⟨vs, h1, h2, h3⟩ := h
  have e : vs.length = p.length := by simpa [intR] using h2
  refine ⟨vs.take k, fun hp => ?_, by simp [intR, e], fun j y hy => ?_⟩
  · obtain ⟨b, off, e1, hb, hc⟩ := h1 (by rw [List.length_take] at hp; omega)
    exact ⟨b, off, e1, hb, fun i v hv => hc i v (by
      rw [List.getElem?_take] at hv
      split at hv
      · exact hv
      · cases hv)⟩
  · rw [List.getElem?_take] at hy
    split at hy
    · rename_i hj
      have h4 := h3 j y hy
      have hj2 := (List.getElem?_eq_some_iff.1 hy).1
      have e2 : ((vs.take k).drop (j * 1)).take 1 = (vs.drop (j * 1)).take 1 := by
        apply List.ext_getElem?
        intro i
        rw [List.getElem?_take, List.getElem?_take]
        split
        · rw [List.getElem?_drop, List.getElem?_drop, List.getElem?_take, if_pos (by omega)]
        · rfl
      show intR.R w S y (((vs.take k).drop (j * 1)).take 1)
      rw [e2]
      exact h4
    · cases hy
set_option maxRecDepth 100000 in
set_option maxHeartbeats 2000000 in
theorem endOf_any (x : Lt) (A1 A2 : Option Addr) (c1 c2 : Nat) (B : Option Addr) (n d : Nat) (p : List Int) (w : World) (S S2 : Nat → Prop) (h2 : LRow edR w S A2 x.es) (hp : LRow intR w S2 B p) (l : p.length = n) (m : n ≤ maxLen) (hS : ∀ b, S b → b < w.heap.size) (hS2 : ∀ b, S2 b → b < w.heap.size) (hr : rngB x p = true) :
    Calls Tryz.prog 29 #[ltCells x A1 A2 c1 c2, .slice B n d] w fun e w' => e = .returned (.int .i64 (endP x p)) ∧ Below w.heap.size w w' := by
  have HBX := Lib.hid (fun o : Obj => (Below.refl w.heap.size w).alloc (Nat.le_refl _) o)
  unfold maxLen at m
  rcases Nat.eq_zero_or_pos n with h0 | h0
  · subst h0
    obtain rfl : p = [] := List.eq_nil_of_length_eq_zero l
    clear h2 hp hS hS2 hr l
    go_enter Tryz.func29, Tryz.ntmps29
    go_wp2
    go_ret
    exact ⟨rfl, HBX.out _⟩
  · obtain ⟨k, hk⟩ : ∃ k, n = k + 1 := ⟨n - 1, by omega⟩
    obtain ⟨b, o, i, rfl, hb, r0, hi⟩ := int_at hp (k := k) (by omega)
    obtain ⟨hi0, hi1⟩ := rngB_at hr hi.out
    obtain ⟨q, rfl⟩ : ∃ q : Nat, i = (q : Int) := ⟨i.toNat, by omega⟩
    have hq : q < x.es.length := by omega
    obtain ⟨b2, o2, cs, v, rfl, hb2, hR, hv, hc⟩ := h2.at_ (k := q) hq
    have hR : cs = [Value.int .i64 v.f, Value.int .i64 v.l, Value.int .i64 v.t] := hR
    subst hR
    have r2 : w.cell? ⟨b2, o2 + q * 3 + 2, none⟩ = some (.int .i64 v.t) := hc 2 _ rfl
    have lb := hS2 b hb
    have lb2 := hS b2 hb2
    have HE := Lib.hid (show endP x p = v.t by
      have e : p = p.take (k + 1) := by rw [List.take_of_length_le (by omega)]
      rw [e, endP_take hi.out, edAt_of hv.out])
    have hn0 : ((n : Int) == 0) = false := by simp; omega
    have hwk : IntKind.i64.wrap ((n : Int) - 1) = (k : Int) := by rw [IntKind.wrap_i64]; omega
    have hkn : k < n := by omega
    clear h2 hp hS hS2 hr l hc hi hv hb hb2 hk
    go_enter Tryz.func29, Tryz.ntmps29
    go_wp2
    go_quiet (fail)
    go_wp2
    go_ret
    exact ⟨by rw [HE.out]; rfl, (HBX.out _).trans (below_drewN _ _ _)⟩
set_option maxRecDepth 100000 in
theorem faultC_any (bx : Nat) (A2 : Option Addr) (c2 n2 : Nat) (i : Int) (w : World) (y3 : w.cell? ⟨bx, 3, none⟩ = some (.slice A2 n2 c2)) :
    Calls Tryz.prog 47 #[.int .i64 i, .pointer (some ⟨bx, 0, none⟩)] w fun e w' => e = .returned (.bool (!(idxI i n2))) ∧ w = w' := by
  have hb := World.block_lt_of_cell? w _ y3
  go_enter Tryz.func47, Tryz.ntmps47
  go_wp2_with (go_at_call 48; refine (isIndex_any _ _ _).mono ?_; rintro e w' ⟨rfl, rfl⟩)
  go_ret
  exact ⟨rfl, rfl⟩
set_option maxRecDepth 100000 in
set_option maxHeartbeats 2000000 in
theorem idxP_any (bx : Nat) (A2 : Option Addr) (c2 n2 : Nat) (B : Option Addr) (n d : Nat) (p : List Int) (w : World) (S2 : Nat → Prop) (hp : LRow intR w S2 B p) (l : p.length = n) (m : n ≤ maxLen) (y3 : w.cell? ⟨bx, 3, none⟩ = some (.slice A2 n2 c2)) :
    Calls Tryz.prog 58 #[.slice B n d, .func (.func 47) #[] #[.pointer (some ⟨bx, 0, none⟩)]] w (IdxAll (fun i => idxI i n2) p w) := by
  unfold maxLen at m
  have L := Lib.hid l
  have HR := Lib.hid hp
  clear hp l
  have C := Lib.hid (fun i : Int => faultC_any bx A2 c2 n2 i w y3)
  clear y3
  go_enter Tryz.func58, Tryz.ntmps58
  go_wp2
  go_loop [8] (fun i => ∃ k : Nat, k ≤ n ∧ i = .int .i64 k ∧ Hid ((p.take k).all (fun i => idxI i n2) = true)) (fun i => n - (intOf i).toNat)
  case atStart => exact ⟨0, Nat.zero_le _, rfl, Lib.hid rfl⟩
  case round =>
    obtain ⟨k, hk, rfl, HE⟩ := hrel
    by_cases hlt : k < n
    · obtain ⟨b, o, u, rfl, hb, r0, hu⟩ := int_at HR.out (k := k) (by rw [L.out]; exact hlt)
      rcases ta : idxI u n2 with _ | _
      · have HF := Lib.hid (all_false (p := fun i => idxI i n2) hu.out ta)
        have TA := Lib.hid ta
        clear ta
        go_wp2_with (go_at_call 47; refine (C.out _).mono ?_; rw [TA.out]; rintro e w3 ⟨rfl, rfl⟩)
        go_ret
        exact ⟨_, rfl, .inr ⟨HF.out, by omega⟩, Below.refl _ _⟩
      · have HN := Lib.hid (all_take_next (p := fun i => idxI i n2) HE.out hu.out ta)
        have TA := Lib.hid ta
        clear ta
        go_wp2_with (go_at_call 47; refine (C.out _).mono ?_; rw [TA.out]; rintro e w3 ⟨rfl, rfl⟩)
        go_round
        case rel => exact ⟨k + 1, by omega, by go_num, HN⟩
        case measure => simp [intOf]; omega
    · have HF := Lib.hid (show p.all (fun i => idxI i n2) = true by
        have ht := HE.out
        rwa [List.take_of_length_le (by rw [L.out]; omega)] at ht)
      go_wp2
      go_ret
      exact ⟨_, rfl, .inl ⟨HF.out, rfl⟩, Below.refl _ _⟩
theorem conP_any (bx : Nat) (A2 : Option Addr) (c2 n2 : Nat) (B : Option Addr) (n d : Nat) (p : List Int) (w : World) (S2 : Nat → Prop) (hp : LRow intR w S2 B p) (l : p.length = n) (m : n ≤ maxLen) (y3 : w.cell? ⟨bx, 3, none⟩ = some (.slice A2 n2 c2)) :
    Calls Tryz.prog 46 #[.slice B n d, .func (.func 47) #[] #[.pointer (some ⟨bx, 0, none⟩)]] w fun e w' => e = .returned (.bool (!(p.all fun i => idxI i n2))) ∧ Below w.heap.size w w' := by
  have C := Lib.hid (idxP_any bx A2 c2 n2 B n d p w S2 hp l m y3)
  clear hp l y3
  go_enter Tryz.func46, Tryz.ntmps46
  go_wp2_with fail
  refine (C.out).mono ?_
  rintro e w2 ⟨r, rfl, (⟨h1, rfl⟩ | ⟨h1, h2⟩), hb⟩
  · have HB := Lib.hid hb
    have H1 := Lib.hid h1
    clear hb h1
    go_wp2
    go_ret
    exact ⟨by rw [H1.out]; rfl, HB.out⟩
  · have HB := Lib.hid hb
    have H1 := Lib.hid h1
    clear hb h1
    go_wp2
    go_ret
    exact ⟨by rw [H1.out]; rfl, HB.out⟩
set_option maxRecDepth 100000 in
set_option maxHeartbeats 4000000 in
theorem pathFault_any (x : Lt) (A1 A2 : Option Addr) (c1 c2 : Nat) (B : Option Addr) (n d : Nat) (p : List Int) (w : World) (S S2 : Nat → Prop) (h1 : LRow txtR w S A1 x.ls) (h2 : LRow edR w S A2 x.es) (hp : LRow intR w S2 B p) (l : p.length = n) (m : n ≤ maxLen) (md : n ≤ d) (hS : ∀ b, S b → b < w.heap.size) (hS2 : ∀ b, S2 b → b < w.heap.size) (ok : okLt x) (ht : TxtTabs w) :
    Calls Tryz.prog 28 #[ltCells x A1 A2 c1 c2, .slice B n d] w fun e w' => e = .returned (.int .i64 (pathC x p)) ∧ Below w.heap.size w w' := by
  have HBX := Lib.hid (fun o : Obj => (Below.refl w.heap.size w).alloc (Nat.le_refl _) o)
  have CV := Lib.hid (fun (W : World) (hW : Below w.heap.size w W) => implValidC_any x A1 A2 c1 c2 W S (h1.keep (SameOn.of_below hW hS)) (h2.keep (SameOn.of_below hW hS)) (fun b hb => Nat.lt_of_lt_of_le (hS b hb) hW.size) ok (ht.below hW))
  rcases tv : ltB x with _ | _
  · have HF := Lib.hid (pathC_inv (p := p) tv)
    have TV := Lib.hid tv
    clear h1 h2 hp hS hS2 ok ht l tv
    go_enter Tryz.func28, Tryz.ntmps28
    go_wp2_with (go_at_call 21; refine (CV.out _ (HBX.out _)).mono ?_; rw [TV.out]; rintro e w2 ⟨rfl, hb2⟩; have HB2 := Lib.hid ((HBX.out _).trans (hb2.mono (HBX.out _).size)); clear hb2)
    go_ret
    exact ⟨by rw [HF.out]; rfl, HB2.out⟩
  have TV := Lib.hid tv
  have HR := Lib.hid hp
  have HS2 := Lib.hid hS2
  have H2 := Lib.hid h2
  have HS := Lib.hid hS
  have L := Lib.hid l
  clear h1 h2 hp hS hS2 ok ht l
  go_enter Tryz.func28, Tryz.ntmps28
  go_wp2_with fail
  refine (CV.out _ (HBX.out _)).mono ?_
  rw [TV.out]
  rintro e w2 ⟨rfl, hb2⟩
  have hs2 := hb2.size
  simp at hs2
  obtain ⟨hcc, _⟩ := bcell hb2
  have HB2 := Lib.hid ((HBX.out _).trans (hb2.mono (HBX.out _).size))
  have y0 : w2.cell? ⟨w.heap.size, 0, none⟩ = some (.int .i64 x.st) := (hcc _ _ (by simp)).trans (by simp [go_sem])
  have y1 : w2.cell? ⟨w.heap.size, 1, none⟩ = some (.int .i64 x.ini) := (hcc _ _ (by simp)).trans (by simp [go_sem])
  have y2 : w2.cell? ⟨w.heap.size, 2, none⟩ = some (.slice A1 x.ls.length c1) := (hcc _ _ (by simp)).trans (by simp [go_sem])
  have y3 : w2.cell? ⟨w.heap.size, 3, none⟩ = some (.slice A2 x.es.length c2) := (hcc _ _ (by simp)).trans (by simp [go_sem])
  have hpb : w.heap.size < w2.heap.size := by omega
  clear hb2 hcc hs2
  have CP := Lib.hid (conP_any w.heap.size A2 c2 x.es.length B n d p w2 S2 (HR.out.keep (SameOn.of_below HB2.out HS2.out)) L.out m y3)
  have HRG := Lib.hid (show (p.all fun i => idxI i x.es.length) = rngB x p from rfl)
  rcases tr : rngB x p with _ | _
  · have HF := Lib.hid (pathC_rng tv tr)
    have TR := Lib.hid tr
    clear tv tr
    go_wp2_with (go_at_call 46; refine (CP.out).mono ?_; rw [HRG.out, TR.out]; rintro e w3 ⟨rfl, hb3⟩; have HB3 := Lib.hid (HB2.out.trans (hb3.mono HB2.out.size)); clear hb3)
    go_ret
    exact ⟨by rw [HF.out]; rfl, HB3.out⟩
  have TR := Lib.hid tr
  go_wp2_with fail
  refine (CP.out).mono ?_
  rw [HRG.out, TR.out]
  rintro e w3 ⟨rfl, hb3⟩
  have HB3 := Lib.hid (HB2.out.trans (hb3.mono HB2.out.size))
  have BX := Lib.hid ((Bx.of4 hpb y0 y1 y2 y3).next hb3)
  have TV2 := Lib.hid tv
  clear hb3 y0 y1 y2 y3 CP tv tr
  unfold maxLen at m
  go_wp2
  go_loopw [17] (fun i wr => ∃ j : Nat, j ≤ n ∧ i = .int .i64 j ∧ Hid (Below w3.heap.size w3 wr) ∧ Hid (stB x p j = true)) (fun i _ => n - (intOf i).toNat)
  case atStart => exact ⟨0, Nat.zero_le _, rfl, Lib.hid (Below.refl _ _), Lib.hid rfl⟩
  case round =>
    obtain ⟨j, hk, rfl, HB, HT⟩ := hrel
    have HBW := Lib.hid (HB3.out.trans (HB.out.mono HB3.out.size))
    have BR := Lib.hid (BX.out.next HB.out)
    obtain ⟨z0, z1, z2, z3⟩ := BR.out.four
    have hpr := BR.out.1
    by_cases hlt : j < n
    · obtain ⟨b, o, i, rfl, hb, r0, hi⟩ := int_at (HR.out.keep (SameOn.of_below HBW.out HS2.out)) (k := j) (by rw [L.out]; exact hlt)
      obtain ⟨hi0, hi1⟩ := rngB_at TR.out hi.out
      obtain ⟨q, rfl⟩ : ∃ q : Nat, i = (q : Int) := ⟨i.toNat, by omega⟩
      have hq : q < x.es.length := by omega
      obtain ⟨b2, o2, cs, v, eA2, hb2, hR, hv, hc⟩ := (H2.out.keep (SameOn.of_below HBW.out HS.out)).at_ (k := q) hq
      have hR : cs = [Value.int .i64 v.f, Value.int .i64 v.l, Value.int .i64 v.t] := hR
      subst hR
      have f0 : wr.cell? ⟨b2, o2 + q * 3, none⟩ = some (.int .i64 v.f) := hc 0 _ rfl
      have lb2 := World.block_lt_of_cell? wr _ f0
      rw [eA2] at z3
      have CE := Lib.hid (fun (W : World) (hW : Below wr.heap.size wr W) => (endOf_any x A1 A2 c1 c2 (some ⟨b, o, none⟩) j d (p.take j) W S S2 (H2.out.keep (SameOn.of_below (HBW.out.trans (hW.mono HBW.out.size)) HS.out)) (take_row (HR.out.keep (SameOn.of_below (HBW.out.trans (hW.mono HBW.out.size)) HS2.out)) j) (by rw [List.length_take, L.out]; omega) (by unfold maxLen; omega) (fun b hb => Nat.lt_of_lt_of_le (HS.out b hb) (Nat.le_trans HBW.out.size hW.size)) (fun b hb => Nat.lt_of_lt_of_le (HS2.out b hb) (Nat.le_trans HBW.out.size hW.size)) (rngB_take TR.out j)))
      have HED := Lib.hid (edAt_of hv.out)
      obtain ⟨ep, hep⟩ : ∃ ep, ep = endP x (p.take j) := ⟨_, rfl⟩
      rw [← hep, eA2] at CE
      have HEP := Lib.hid hep
      have hjd : j ≤ d := by omega
      have HSX := Lib.hid (fun (W : World) (hW : Below wr.heap.size wr W) => (⟨hW, (hW.cell (p := ⟨b2, o2 + q * 3, none⟩) lb2).trans f0, (hW.cell (p := ⟨w.heap.size, 0, none⟩) hpr).trans z0, (hW.cell (p := ⟨w.heap.size, 1, none⟩) hpr).trans z1, (hW.cell (p := ⟨w.heap.size, 2, none⟩) hpr).trans z2, (hW.cell (p := ⟨w.heap.size, 3, none⟩) hpr).trans z3⟩ : Below wr.heap.size wr W ∧ W.cell? ⟨b2, o2 + q * 3, none⟩ = some (.int .i64 v.f) ∧ W.cell? ⟨w.heap.size, 0, none⟩ = some (.int .i64 x.st) ∧ W.cell? ⟨w.heap.size, 1, none⟩ = some (.int .i64 x.ini) ∧ W.cell? ⟨w.heap.size, 2, none⟩ = some (.slice A1 x.ls.length c1) ∧ W.cell? ⟨w.heap.size, 3, none⟩ = some (.slice (some ⟨b2, o2, none⟩) x.es.length c2)))
      have HV := Lib.hid (Below.refl wr.heap.size wr)
      clear hc hep eA2
      rcases te : (v.f == ep) with _ | _
      · have HF := Lib.hid (pathC_ord TV2.out TR.out (stB_no hi.out (by rw [HED.out, ← HEP.out]; exact te)))
        have hne : (v.f != ep) = true := by simp [bne, te]
        clear te
        go_wp2
        go_region_held3 (fun W => Below wr.heap.size wr W ∧ W.cell? ⟨b2, o2 + q * 3, none⟩ = some (.int .i64 v.f) ∧ W.cell? ⟨w.heap.size, 0, none⟩ = some (.int .i64 x.st) ∧ W.cell? ⟨w.heap.size, 1, none⟩ = some (.int .i64 x.ini) ∧ W.cell? ⟨w.heap.size, 2, none⟩ = some (.slice A1 x.ls.length c1) ∧ W.cell? ⟨w.heap.size, 3, none⟩ = some (.slice (some ⟨b2, o2, none⟩) x.es.length c2)) (exact HSX.out _ (by first | exact HV.out.drew | exact HV.out)) (first
          | (go_at_call 29; (with_reducible refine (CE.out _ (by first | exact HV.out.drew | exact HV.out)).mono ?_); rintro e w5 ⟨rfl, b3⟩; have HV := Lib.hid (Below.trans (by first | exact HV.out | exact HV.out.drew) (b3.mono (by first | exact Nat.le_refl _ | exact HV.out.size))); clear b3))
        go_wp2
        go_ret
        exact ⟨by rw [HF.out]; rfl, HBW.out.trans (HV.out.mono HBW.out.size)⟩
      · have HN := Lib.hid (show stB x p (j + 1) = true by rw [stB_succ hi.out, HT.out, HED.out, ← HEP.out, te]; rfl)
        have hne : (v.f != ep) = false := by simp [bne, te]
        clear te
        go_wp2
        go_region_held3 (fun W => Below wr.heap.size wr W ∧ W.cell? ⟨b2, o2 + q * 3, none⟩ = some (.int .i64 v.f) ∧ W.cell? ⟨w.heap.size, 0, none⟩ = some (.int .i64 x.st) ∧ W.cell? ⟨w.heap.size, 1, none⟩ = some (.int .i64 x.ini) ∧ W.cell? ⟨w.heap.size, 2, none⟩ = some (.slice A1 x.ls.length c1) ∧ W.cell? ⟨w.heap.size, 3, none⟩ = some (.slice (some ⟨b2, o2, none⟩) x.es.length c2)) (exact HSX.out _ (by first | exact HV.out.drew | exact HV.out)) (first
          | (go_at_call 29; (with_reducible refine (CE.out _ (by first | exact HV.out.drew | exact HV.out)).mono ?_); rintro e w5 ⟨rfl, b3⟩; have HV := Lib.hid (Below.trans (by first | exact HV.out | exact HV.out.drew) (b3.mono (by first | exact Nat.le_refl _ | exact HV.out.size))); clear b3))
        go_wp2
        go_roundw
        case rel => exact ⟨j + 1, by omega, by go_num, Lib.hid (HB.out.trans (HV.out.mono HB.out.size)), HN⟩
        case measure => simp [intOf]; omega
    · have HF := Lib.hid (pathC_ok TV2.out TR.out (by
        have h := HT.out
        have e : p.length = j := by rw [L.out]; omega
        rw [e]; exact h))
      go_wp2
      go_ret
      exact ⟨by rw [HF.out]; rfl, HBW.out⟩
end Go.Proofs.YtfmnanaeegfgdaaGreatDoor
