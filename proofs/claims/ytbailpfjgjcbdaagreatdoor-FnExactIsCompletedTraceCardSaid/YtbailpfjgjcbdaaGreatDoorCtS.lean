/- Completed traces: the model. -/
import Derived.Test.YtbailpfjgjcbdaaGreatDoorOu
import Derived.Test.YtbailpfjgjcbdaaGreatDoorRei
import Derived.Test.YtbailpfjgjcbdaaGreatDoorAfA
namespace Go.Proofs.YtbailpfjgjcbdaaGreatDoor
open Go.RowKit
set_option linter.unusedVariables false
set_option linter.unusedSimpArgs false
noncomputable def ctB (x : Lt) (tr : List ByteArray) : Bool := !((afR x tr).all fun k => !(dedB x k))
theorem ctB_no {x : Lt} {tr : List ByteArray} (h : ¬ afC x tr = 0) : ctB x tr = false := by unfold ctB; rw [afR_no h]; rfl
set_option maxRecDepth 100000 in
set_option maxHeartbeats 4000000 in
theorem specCt_any {x : Lt} {cs : List Value} {B : Option Addr} {d : Nat} {tr : List ByteArray} {w : World} {S S2 : Nat → Prop} (h : ltR.R w S x cs) (hp : LRow txtR w S2 B tr) (hS : ∀ b, S b → b < w.heap.size) (hS2 : ∀ b, S2 b → b < w.heap.size) (ok : okLt x) (okp : okList okTx tr) :
    Calls Tryz.prog 23 #[.agg cs.toArray, .slice B tr.length d] w fun e w' => e = .returned (.tuple #[.bool (ctB x tr), .int .i64 (afC x tr)]) ∧ Below w.heap.size w w' := by
  have CA := Lib.hid (fun (W : World) (hW : Below w.heap.size w W) => specAf_any (d := d) (ltR.keep h (SameOn.of_below hW hS)) (LRow.keep (F := txtR) hp (SameOn.of_below hW hS2)) (fun b hb => Nat.lt_of_lt_of_le (hS b hb) hW.size) (fun b hb => Nat.lt_of_lt_of_le (hS2 b hb) hW.size) ok okp)
  obtain ⟨A1, c1, A2, c2, rfl, ⟨_, _, r1⟩, ⟨_, _, r2⟩⟩ := h
  have HB := Lib.hid (fun o : Obj => (Below.refl w.heap.size w).alloc (Nat.le_refl _) o)
  have CU := Lib.hid (fun (k : Int) (W : World) (hW : Below w.heap.size w W) (y3 : W.cell? ⟨w.heap.size, 3, none⟩ = some (.slice A2 x.es.length c2)) => l11Out_any x w.heap.size k A2 c2 W S y3 (r2.keep (SameOn.of_below hW hS)) (fun b hb => Nat.lt_of_lt_of_le (hS b hb) hW.size) ok)
  clear r1 r2 hS ok hp hS2 okp
  go_enter Tryz.func23, Tryz.ntmps23
  go_wp2_with fail
  refine (CA.out _ (HB.out _)).mono ?_
  rintro e w2 ⟨A, c, rfl, hO, hb2⟩
  have hs2 := hb2.size
  simp at hs2
  obtain ⟨hcc, _⟩ := bcell hb2
  have HB2 := Lib.hid ((HB.out _).trans (hb2.mono (HB.out _).size))
  have y3 : w2.cell? ⟨w.heap.size, 3, none⟩ = some (.slice A2 x.es.length c2) := (hcc _ _ (by simp)).trans (by simp [go_sem])
  have hpb : w.heap.size < w2.heap.size := by omega
  have HL := Lib.hid (hO.lrow)
  have HTOP := Lib.hid (fun (b : Nat) (hb : In (w.alloc (.cells #[.int .i64 x.st, .int .i64 x.ini, .slice A1 x.ls.length c1, .slice A2 x.es.length c2] 32)).heap.size w2.heap.size b) => hb.2)
  clear hb2 hcc hs2 hO CA
  by_cases hc : afC x tr = 0
  · have hne : (afC x tr != 0) = false := by simp [hc]
    have HC := Lib.hid hc
    have HLEN := Lib.hid (afR_len x tr)
    obtain ⟨ss, hss⟩ : ∃ ss, ss = afR x tr := ⟨_, rfl⟩
    have HCT := Lib.hid (show ctB x tr = !(ss.all fun k => !(dedB x k)) by unfold ctB; rw [hss])
    rw [← hss] at HL HLEN ⊢
    clear hc hss
    have hle := HLEN.out
    have Y := Lib.hid (fun (W : World) (hW : Below w2.heap.size w2 W) => (hW.cell (p := ⟨w.heap.size, 3, none⟩) hpb).trans y3)
    go_wp2
    go_loopw [8] (fun i wr => ∃ j : Nat, j ≤ ss.length ∧ i = .int .i64 (j : Int) ∧ Hid (Below w2.heap.size w2 wr) ∧ Hid ((ss.take j).all (fun k => !(dedB x k)) = true)) (fun i _ => ss.length - (intOf i).toNat)
    case atStart => exact ⟨0, Nat.zero_le _, rfl, Lib.hid (Below.refl _ _), Lib.hid rfl⟩
    case round =>
      obtain ⟨j, hj, rfl, HBW, HE⟩ := hrel
      have hsz := HBW.out.size
      have HBX := Lib.hid (HB2.out.trans (HBW.out.mono HB2.out.size))
      have z3 := Y.out _ HBW.out
      by_cases hlt : j < ss.length
      · obtain ⟨b, o, k, rfl, hb, r0, hk⟩ := int_row (HL.out.keep (SameOn.of_below HBW.out (fun b hb => HTOP.out b hb))) (k := j) hlt
        have lb := World.block_lt_of_cell? wr _ r0
        have CU1 := Lib.hid (CU.out k wr HBX.out z3)
        have HDO := Lib.hid (dedB_out x k)
        have hol : (outE x k).length ≤ x.es.length := List.length_filter_le _ _
        obtain ⟨q, hq⟩ : ∃ q, q = (outE x k).length := ⟨_, rfl⟩
        rw [← hq] at CU1 HDO hol
        clear hq
        rcases td : dedB x k with _ | _
        · have HN := Lib.hid (all_take_next (p := fun k => !(dedB x k)) HE.out hk.out (by rw [td]; rfl))
          have hq1 : ¬ q = 0 := by
            have h := HDO.out
            rw [td] at h
            simpa using h
          have hq0 : ((q : Int) == 0) = false := beq_eq_false_iff_ne.2 (by omega)
          clear hq1
          clear td
          go_wp2_with (go_at_call 46; refine (CU1.out).mono ?_; rintro e w3 ⟨A3, c3, rfl, hO3, hb3⟩; have HB3 := Lib.hid (HBW.out.trans (hb3.mono hsz)); clear hb3 hO3)
          go_roundw
          case rel => exact ⟨j + 1, by omega, by go_num, HB3, HN⟩
          case measure => simp [intOf]; omega
        · have HN := Lib.hid (all_false (p := fun k => !(dedB x k)) hk.out (by rw [td]; rfl))
          have hq0 : q = 0 := by
            have h := HDO.out
            rw [td] at h
            simpa using h
          subst hq0
          clear td
          go_wp2_with (go_at_call 46; refine (CU1.out).mono ?_; rintro e w3 ⟨A3, c3, rfl, hO3, hb3⟩; have HB3 := Lib.hid (HBX.out.trans (hb3.mono HBX.out.size)); clear hb3 hO3)
          go_ret2
          exact ⟨by rw [HCT.out, HN.out, HC.out]; rfl, HB3.out⟩
      · have HN := Lib.hid (show ss.all (fun k => !(dedB x k)) = true by
          have ht := HE.out
          rwa [List.take_of_length_le (by omega)] at ht)
        go_wp2
        go_ret2
        exact ⟨by rw [HCT.out, HN.out, HC.out]; rfl, HBX.out⟩
  · have hne : (afC x tr != 0) = true := by simp [hc]
    have HG := Lib.hid (ctB_no hc)
    clear hc
    go_wp2
    go_ret2
    exact ⟨by rw [HG.out]; rfl, HB2.out⟩
end Go.Proofs.YtbailpfjgjcbdaaGreatDoor
