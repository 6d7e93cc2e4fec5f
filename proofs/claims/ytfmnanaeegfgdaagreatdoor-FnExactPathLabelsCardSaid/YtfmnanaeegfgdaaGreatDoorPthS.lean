/- Paths of a transition system: the model; where a path ends, both sides. -/
import Derived.Test.YtfmnanaeegfgdaaGreatDoorLtO
import Derived.Test.YtfmnanaeegfgdaaGreatDoorPthI
namespace Go.Proofs.YtfmnanaeegfgdaaGreatDoor
open Go.RowKit
set_option linter.unusedVariables false
set_option maxRecDepth 100000 in
set_option maxHeartbeats 4000000 in
theorem l10Walk_any (x : Lt) (pt : Nat) (A1 A2 : Option Addr) (c1 c2 : Nat) (B : Option Addr) (n d : Nat) (p : List Int) (w : World) (S S2 : Nat → Prop) (y1 : w.cell? ⟨pt, 1, none⟩ = some (.int .i64 x.ini)) (y3 : w.cell? ⟨pt, 3, none⟩ = some (.slice A2 x.es.length c2)) (h2 : LRow edR w S A2 x.es) (hp : LRow intR w S2 B p) (l : p.length = n) (m : n ≤ 1048576) (hS : ∀ b, S b → b < w.heap.size) (hS2 : ∀ b, S2 b → b < w.heap.size) (ok : okLt x) (tv : ltB x = true) :
    Calls Tryz.prog 25 #[.pointer (some ⟨pt, 0, none⟩), .slice B n d] w fun e w' => e = .returned (.tuple #[.int .i64 (pathE x p), .int .i64 (pathC x p)]) ∧ Below w.heap.size w w' := by
  have hpt := World.block_lt_of_cell? w _ y1
  have m2 := ok.2.1
  have hwl : IntKind.i64.wrap ((x.es.length : Int) - 1) = (x.es.length : Int) - 1 := by rw [IntKind.wrap_i64]; omega
  have Y := Lib.hid (fun (W : World) (hW : Below w.heap.size w W) => (⟨(hW.cell (p := ⟨pt, 1, none⟩) hpt).trans y1, (hW.cell (p := ⟨pt, 3, none⟩) hpt).trans y3, Nat.lt_of_lt_of_le hpt hW.size⟩ : W.cell? ⟨pt, 1, none⟩ = some (.int .i64 x.ini) ∧ W.cell? ⟨pt, 3, none⟩ = some (.slice A2 x.es.length c2) ∧ pt < W.heap.size))
  have HR := Lib.hid hp
  have HS2 := Lib.hid hS2
  have H2 := Lib.hid h2
  have HS := Lib.hid hS
  have L := Lib.hid l
  have TV := Lib.hid tv
  clear y1 y3 h2 hp hS hS2 l ok tv
  go_enter Tryz.func25, Tryz.ntmps25
  go_wp2
  go_loopw [6] (fun i wr => ∃ j : Nat, j ≤ n ∧ i = .int .i64 j ∧ Hid (Drawn w wr) ∧ Hid ((p.take j).all (fun i => idxI i x.es.length) = true)) (fun i _ => n - (intOf i).toNat)
  case atStart => exact ⟨0, Nat.zero_le _, rfl, Lib.hid (Drawn.refl _), Lib.hid rfl⟩
  case round =>
    obtain ⟨j, hk, rfl, HD, HE⟩ := hrel
    have HBW := Lib.hid (HD.out.below w.heap.size)
    obtain ⟨z1, z3, hpr⟩ := Y.out _ HBW.out
    by_cases hlt : j < n
    · obtain ⟨b, o, i, rfl, hb, r0, hi⟩ := int_at (HR.out.keep (SameOn.of_drawn HD.out)) (k := j) (by rw [L.out]; exact hlt)
      have CI := Lib.hid (fun W : World => (show Calls Tryz.prog 42 #[.int .i64 i, .int .i64 0, .int .i64 ((x.es.length : Int) - 1)] W (fun e w' => e = .returned (.bool (idxI i x.es.length)) ∧ W = w') by have h := l00In_any i 0 ((x.es.length : Int) - 1) W; rw [inR_idx] at h; exact h))
      rcases ta : idxI i x.es.length with _ | _
      · have HF := Lib.hid (pathC_rng TV.out (show rngB x p = false from all_false (p := fun i => idxI i x.es.length) hi.out ta))
        have HG := Lib.hid (pathE_no (x := x) (p := p) (by rw [HF.out]; decide))
        rw [ta] at CI
        clear ta
        go_wp2
        go_quiet ((go_at_call 42; exact quiet_same (CI.out _)))
        go_wp2
        go_ret2
        exact ⟨by rw [HF.out, HG.out]; rfl, HBW.out.trans (below_drewN _ _ _)⟩
      · have HN := Lib.hid (all_take_next (p := fun i => idxI i x.es.length) HE.out hi.out ta)
        rw [ta] at CI
        clear ta
        go_wp2
        go_quiet ((go_at_call 42; exact quiet_same (CI.out _)))
        go_wp2
        go_roundw
        case rel => exact ⟨j + 1, by omega, by go_num, Lib.hid (HD.out.drewN _), HN⟩
        case measure => simp [intOf]; omega
    · have TR := Lib.hid (show rngB x p = true by
        have ht := HE.out
        rwa [List.take_of_length_le (by rw [L.out]; omega)] at ht)
      clear HE
      obtain ⟨wo, rfl⟩ : ∃ wo, wo = wr := ⟨_, rfl⟩
      go_wp2
      clear z1 z3 hpr
      go_loopw [7, 8] (fun a i wr => ∃ j : Nat, j ≤ n ∧ i = .int .i64 j ∧ a = .int .i64 (endP x (p.take j)) ∧ Hid (Below w.heap.size w wr) ∧ Hid (stB x p j = true)) (fun _ i _ => n - (intOf i).toNat)
      case atStart => exact ⟨0, Nat.zero_le _, rfl, rfl, HBW, Lib.hid rfl⟩
      case round =>
        clear HD HBW
        obtain ⟨j2, hk2, rfl, rfl, HB, HT⟩ := hrel
        obtain ⟨z1, z3, hpr⟩ := Y.out _ HB.out
        have hsz := HB.out.size
        by_cases hlt2 : j2 < n
        · obtain ⟨b, o, i, rfl, hb, r0, hi⟩ := int_at (HR.out.keep (SameOn.of_below HB.out HS2.out)) (k := j2) (by rw [L.out]; exact hlt2)
          obtain ⟨hi0, hi1⟩ := rngB_at TR.out hi.out
          obtain ⟨q, rfl⟩ : ∃ q : Nat, i = (q : Int) := ⟨i.toNat, by omega⟩
          have hq : q < x.es.length := by omega
          obtain ⟨b2, o2, cs, v, rfl, hb2, hR, hv, hc⟩ := (H2.out.keep (SameOn.of_below HB.out HS.out)).at_ (k := q) hq
          have hR : cs = [Value.int .i64 v.f, Value.int .i64 v.l, Value.int .i64 v.t] := hR
          subst hR
          have f0 : wr.cell? ⟨b2, o2 + q * 3, none⟩ = some (.int .i64 v.f) := hc 0 _ rfl
          have f1 : wr.cell? ⟨b2, o2 + q * 3 + 1, none⟩ = some (.int .i64 v.l) := hc 1 _ rfl
          have f2 : wr.cell? ⟨b2, o2 + q * 3 + 2, none⟩ = some (.int .i64 v.t) := hc 2 _ rfl
          have lb2 := World.block_lt_of_cell? wr _ f0
          have lb := World.block_lt_of_cell? wr _ r0
          have HED := Lib.hid (edAt_of hv.out)
          have HBX := Lib.hid (fun o : Obj => (HB.out.alloc hsz o).drew)
          obtain ⟨ep, hep⟩ : ∃ ep, ep = endP x (p.take j2) := ⟨_, rfl⟩
          rw [← hep]
          have HEP := Lib.hid hep
          clear hc hep
          rcases te : (v.f == ep) with _ | _
          · have HF := Lib.hid (pathC_ord TV.out TR.out (stB_no hi.out (by rw [HED.out, ← HEP.out]; exact te)))
            have HG := Lib.hid (pathE_no (x := x) (p := p) (by rw [HF.out]; decide))
            have hne : (v.f != ep) = true := by simp [bne, te]
            clear te
            go_wp2
            go_region
            go_wp2
            go_ret2
            exact ⟨by rw [HF.out, HG.out]; rfl, HBX.out _⟩
          · have HN := Lib.hid (show stB x p (j2 + 1) = true by rw [stB_succ hi.out, HT.out, HED.out, ← HEP.out, te]; rfl)
            have HEN := Lib.hid (show endP x (p.take (j2 + 1)) = v.t by rw [endP_take hi.out, HED.out])
            have hne : (v.f != ep) = false := by simp [bne, te]
            clear te
            go_wp2
            go_region
            go_wp2
            go_roundw
            case rel => exact ⟨j2 + 1, by omega, by go_num, by rw [HEN.out], Lib.hid (HBX.out _), HN⟩
            case measure => simp [intOf]; omega
        · have hj2 : j2 = n := by omega
          have HF := Lib.hid (pathC_ok TV.out TR.out (by
            have h := HT.out
            have e : p.length = j2 := by rw [L.out, hj2]
            rw [e]; exact h))
          have HG := Lib.hid (pathE_ok HF.out)
          have HTK := Lib.hid (show p.take j2 = p from List.take_of_length_le (by rw [L.out]; omega))
          go_wp2
          go_ret2
          exact ⟨by rw [HF.out, HG.out, HTK.out]; rfl, HB.out⟩
set_option maxRecDepth 100000 in
set_option maxHeartbeats 2000000 in
theorem specEnd_any {x : Lt} {cs : List Value} {B : Option Addr} {p : List Int} {w : World} {S S2 : Nat → Prop} (h : ltR.R w S x cs) (hp : LRow intR w S2 B p) (hS : ∀ b, S b → b < w.heap.size) (hS2 : ∀ b, S2 b → b < w.heap.size) (ok : okLt x) (okp : okList okAny p) :
    Calls Tryz.prog 7 #[.agg cs.toArray, .slice B p.length p.length] w fun e w' => e = .returned (.tuple #[.int .i64 (pathE x p), .int .i64 (pathC x p)]) ∧ Below w.heap.size w w' := by
  obtain ⟨A1, c1, A2, c2, rfl, ⟨_, _, r1⟩, ⟨_, _, r2⟩⟩ := h
  have HB := Lib.hid (fun o : Obj => (Below.refl w.heap.size w).alloc (Nat.le_refl _) o)
  have C := Lib.hid (fun (W : World) (hW : Below w.heap.size w W) (q : Nat) (y0 : W.cell? ⟨q, 0, none⟩ = some (.int .i64 x.st)) (y1 : W.cell? ⟨q, 1, none⟩ = some (.int .i64 x.ini)) (y2 : W.cell? ⟨q, 2, none⟩ = some (.slice A1 x.ls.length c1)) (y3 : W.cell? ⟨q, 3, none⟩ = some (.slice A2 x.es.length c2)) => l11Is_any x q A1 A2 c1 c2 W S y0 y1 y2 y3 (r1.keep (SameOn.of_below hW hS)) (r2.keep (SameOn.of_below hW hS)) (fun b hb => Nat.lt_of_lt_of_le (hS b hb) hW.size) ok)
  have CW := Lib.hid (fun (tv : ltB x = true) (W : World) (hW : Below w.heap.size w W) (q : Nat) (y1 : W.cell? ⟨q, 1, none⟩ = some (.int .i64 x.ini)) (y3 : W.cell? ⟨q, 3, none⟩ = some (.slice A2 x.es.length c2)) => l10Walk_any x q A1 A2 c1 c2 B p.length p.length p W S S2 y1 y3 (r2.keep (SameOn.of_below hW hS)) (hp.keep (SameOn.of_below hW hS2)) rfl okp.1 (fun b hb => Nat.lt_of_lt_of_le (hS b hb) hW.size) (fun b hb => Nat.lt_of_lt_of_le (hS2 b hb) hW.size) ok tv)
  clear r1 r2 hS ok hp hS2 okp
  go_enter Tryz.func7, Tryz.ntmps7
  go_wp2_with fail
  refine (C.out _ (HB.out _) w.heap.size (by simp [go_sem]) (by simp [go_sem]) (by simp [go_sem]) (by simp [go_sem])).mono ?_
  rintro e w2 ⟨rfl, hb2⟩
  obtain ⟨hcc, _⟩ := bcell hb2
  have HB2 := Lib.hid ((HB.out _).trans (hb2.mono (HB.out _).size))
  have y1 : w2.cell? ⟨w.heap.size, 1, none⟩ = some (.int .i64 x.ini) := (hcc _ _ (by simp)).trans (by simp [go_sem])
  have y3 : w2.cell? ⟨w.heap.size, 3, none⟩ = some (.slice A2 x.es.length c2) := (hcc _ _ (by simp)).trans (by simp [go_sem])
  clear hb2 hcc
  rcases tv : ltB x with _ | _
  · have HF := Lib.hid (pathC_inv (p := p) tv)
    have HG := Lib.hid (pathE_no (x := x) (p := p) (by rw [HF.out]; decide))
    clear tv
    go_wp2
    go_ret2
    exact ⟨by rw [HF.out, HG.out]; rfl, HB2.out⟩
  · have C2 := Lib.hid (CW.out tv w2 HB2.out w.heap.size y1 y3)
    clear tv y1 y3
    go_wp2_with (go_at_call 25; refine (C2.out).mono ?_; rintro e w3 ⟨rfl, hb3⟩; have HB3 := Lib.hid (HB2.out.trans (hb3.mono HB2.out.size)); clear hb3)
    go_ret2
    exact ⟨rfl, HB3.out⟩
set_option maxRecDepth 100000 in
set_option maxHeartbeats 2000000 in
theorem implEnd_any {x : Lt} {cs : List Value} {B : Option Addr} {p : List Int} {w : World} {S S2 : Nat → Prop} (h : ltR.R w S x cs) (hp : LRow intR w S2 B p) (hS : ∀ b, S b → b < w.heap.size) (hS2 : ∀ b, S2 b → b < w.heap.size) (ok : okLt x) (okp : okList okAny p) (ht : TxtTabs w) :
    Calls Tryz.prog 10 #[.agg cs.toArray, .slice B p.length p.length] w fun e w' => e = .returned (.tuple #[.int .i64 (pathE x p), .int .i64 (pathC x p)]) ∧ Below w.heap.size w w' := by
  obtain ⟨A1, c1, A2, c2, rfl, ⟨_, _, r1⟩, ⟨_, _, r2⟩⟩ := h
  have hpm : p.length ≤ maxLen := by have := okp.1; unfold maxLen; omega
  have HB := Lib.hid (fun o : Obj => (Below.refl w.heap.size w).alloc (Nat.le_refl _) o)
  have C := Lib.hid (fun (W : World) (hW : Below w.heap.size w W) => pathFault_any x A1 A2 c1 c2 B p.length p.length p W S S2 (r1.keep (SameOn.of_below hW hS)) (r2.keep (SameOn.of_below hW hS)) (hp.keep (SameOn.of_below hW hS2)) rfl hpm (Nat.le_refl _) (fun b hb => Nat.lt_of_lt_of_le (hS b hb) hW.size) (fun b hb => Nat.lt_of_lt_of_le (hS2 b hb) hW.size) ok (ht.below hW))
  have CE := Lib.hid (fun (hr : rngB x p = true) (W : World) (hW : Below w.heap.size w W) => endOf_any x A1 A2 c1 c2 B p.length p.length p W S S2 (r2.keep (SameOn.of_below hW hS)) (hp.keep (SameOn.of_below hW hS2)) rfl hpm (fun b hb => Nat.lt_of_lt_of_le (hS b hb) hW.size) (fun b hb => Nat.lt_of_lt_of_le (hS2 b hb) hW.size) hr)
  clear r1 r2 hS ok hp hS2 okp ht
  go_enter Tryz.func10, Tryz.ntmps10
  go_wp2_with fail
  refine (C.out _ (HB.out _)).mono ?_
  rintro e w2 ⟨rfl, hb2⟩
  have hs2 := hb2.size
  simp at hs2
  obtain ⟨hcc, _⟩ := bcell hb2
  have HB2 := Lib.hid ((HB.out _).trans (hb2.mono (HB.out _).size))
  have y0 : w2.cell? ⟨w.heap.size, 0, none⟩ = some (.int .i64 x.st) := (hcc _ _ (by simp)).trans (by simp [go_sem])
  have y1 : w2.cell? ⟨w.heap.size, 1, none⟩ = some (.int .i64 x.ini) := (hcc _ _ (by simp)).trans (by simp [go_sem])
  have y2 : w2.cell? ⟨w.heap.size, 2, none⟩ = some (.slice A1 x.ls.length c1) := (hcc _ _ (by simp)).trans (by simp [go_sem])
  have y3 : w2.cell? ⟨w.heap.size, 3, none⟩ = some (.slice A2 x.es.length c2) := (hcc _ _ (by simp)).trans (by simp [go_sem])
  have hpb : w.heap.size < w2.heap.size := by omega
  clear hb2 hcc
  by_cases hc : pathC x p = 0
  · have hne : (pathC x p != 0) = false := by simp [hc]
    have HG := Lib.hid (pathE_ok hc)
    have HC := Lib.hid hc
    have hr : rngB x p = true := by
      unfold pathC at hc
      split at hc
      · split at hc
        · assumption
        · cases hc
      · cases hc
    have CE2 := Lib.hid (CE.out hr w2 HB2.out)
    clear hc hr
    go_wp2_with (go_at_call 29; refine (CE2.out).mono ?_; rintro e w3 ⟨rfl, hb3⟩; have HB3 := Lib.hid (HB2.out.trans (hb3.mono HB2.out.size)); clear hb3)
    go_ret2
    exact ⟨by rw [HG.out, HC.out]; rfl, HB3.out⟩
  · have hne : (pathC x p != 0) = true := by simp [hc]
    have HG := Lib.hid (pathE_no hc)
    clear hc
    go_wp2
    go_ret2
    exact ⟨by rw [HG.out]; rfl, HB2.out⟩
end Go.Proofs.YtfmnanaeegfgdaaGreatDoor
