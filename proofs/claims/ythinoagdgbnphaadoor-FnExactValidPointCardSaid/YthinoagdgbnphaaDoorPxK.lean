/- A whole body: the program's look at it. -/
import Derived.Test.YthinoagdgbnphaaDoorPxJ
namespace Go.Proofs.YthinoagdgbnphaaDoor
open Go.RowKit
/-- What is said of the first part that is not valid. -/
noncomputable def pV (q : Int × Int) : Value := if q.2 = 0 then .nilIface else .iface 89 (.agg #[.iface 87 (.int .i64 q.2), .int .i64 q.1])
noncomputable def ckV (ls : List Df) (k : Int) : Value :=
  if 4 < ls.length then .iface 85 (.int .i64 5) else if idxB k ls.length = false then .iface 85 (.int .i64 2) else if ls.all psB = false then .iface 85 (.int .i64 2) else pV (bodyF ls (ls.getD k.toNat default))
theorem firstR_none {ls : List Df} {l : List An} {k : Nat} (h : l.length ≤ k) (i : Int) : firstR ls (l.drop k) i = (0, 0) := by rw [List.drop_of_length_le h]; rfl
set_option maxRecDepth 100000 in
set_option maxHeartbeats 8000000 in
theorem implBody_any (A : Option Addr) (c : Nat) (ls : List Df) (k : Int) (w : World) (S : Nat → Prop) (h : LRow dfR w S A ls) (hS : ∀ b, S b → b < w.heap.size) (hok : okList okDf ls) (ht : FormTab w) :
    Calls Tryd.prog 30 #[.slice A ls.length c, .int .i64 k] w fun e w' => e = .returned (ckV ls k) ∧ Below w.heap.size w w' := by
  by_cases h4 : 4 < ls.length
  · have HF := Lib.hid (show ckV ls k = .iface 85 (.int .i64 5) by unfold ckV; rw [if_pos h4])
    have hl := hok.1
    clear h hS hok ht
    go_enter Tryd.func30, Tryd.ntmps30
    go_wp2
    go_ret
    exact ⟨by rw [HF.out]; rfl, (by repeat (first | exact Below.refl _ _ | refine Below.setCell ?_ (by simp) _ | refine Below.alloc ?_ (by simp <;> omega) _))⟩
  have hn4 : ls.length ≤ 4 := by omega
  rcases tx : idxB k ls.length with _ | _
  · have HF := Lib.hid (show ckV ls k = .iface 85 (.int .i64 2) by unfold ckV; rw [if_neg h4, if_pos tx])
    have CX := Lib.hid (fun (W : World) => implIndex_any k ls.length W (by omega))
    have TX := Lib.hid tx
    clear h hS hok ht tx
    go_enter Tryd.func30, Tryd.ntmps30
    go_wp2_with (go_at_call 31; refine (CX.out _).mono ?_; rw [TX.out]; rintro e w2 ⟨rfl, hb⟩; have HB := Lib.hid hb; clear hb)
    go_ret
    exact ⟨by rw [HF.out]; rfl, HB.out⟩
  have CX := Lib.hid (fun (W : World) => implIndex_any k ls.length W (by omega))
  have TX := Lib.hid tx
  obtain ⟨hk0, hkn⟩ : 0 ≤ k ∧ k < ls.length := by unfold idxB at tx; simpa using tx
  obtain ⟨j, rfl⟩ : ∃ j : Nat, k = j := ⟨k.toNat, by omega⟩
  have hj : j < ls.length := by omega
  clear tx hk0 hkn
  have HR := Lib.hid h
  have HS := Lib.hid hS
  have HOK := Lib.hid hok
  have HT := Lib.hid ht
  generalize hL : ls.length = n at *
  have HL := Lib.hid hL
  clear h hS hok ht hL
  go_enter Tryd.func30, Tryd.ntmps30
  go_wp2_with (go_at_call 31; refine (CX.out _).mono ?_; rw [TX.out]; rintro e w1 ⟨rfl, hb⟩; have HB1 := Lib.hid hb; clear hb)
  go_loopw [22] (fun iv wr => ∃ i : Nat, i ≤ n ∧ iv = .int .i64 i ∧ Hid (Below w.heap.size w wr) ∧ Hid ((ls.take i).all psB = true)) (fun iv _ => n - (intOf iv).toNat)
  case atStart => exact ⟨0, Nat.zero_le _, rfl, HB1, Lib.hid rfl⟩
  case round =>
    obtain ⟨i, hi, rfl, HB, HP⟩ := hrel
    have hsz := HB.out.size
    by_cases hlt : i < n
    · obtain ⟨b0, o0, cs0, d, rfl, hb0, hR0, hd, hc0⟩ := (HR.out.keep (SameOn.of_below HB.out HS.out)).at_ (k := i) (by rw [HL.out]; exact hlt)
      obtain ⟨B, cb, rfl, _, _, _, _⟩ := hR0
      have z0 : wr.cell? ⟨b0, o0 + i * 3, none⟩ = some (.string d.nm) := hc0 0 _ rfl
      have z1 : wr.cell? ⟨b0, o0 + i * 3 + 1, none⟩ = some (.int .i64 d.ps) := hc0 1 _ rfl
      have z2 : wr.cell? ⟨b0, o0 + i * 3 + 2, none⟩ = some (.slice B d.body.length cb) := hc0 2 _ rfl
      have l0 : b0 < wr.heap.size := World.block_lt_of_cell? wr _ z0
      have C := Lib.hid (fun (W : World) => implParams_any d B cb W)
      clear hc0
      rcases tp : psB d with _ | _
      · have HF := Lib.hid (show ckV ls j = .iface 85 (.int .i64 2) by unfold ckV; rw [if_neg (by rw [HL.out]; omega), if_neg (by rw [HL.out, TX.out]; simp), if_pos (all_bad hd.out tp)])
        have TP := Lib.hid tp
        clear tp
        go_wp2_with (go_at_call 45; refine (C.out _).mono ?_; rw [TP.out]; rintro e w2 ⟨rfl, hb⟩; have HB2 := Lib.hid (Below.trans (b := wr.alloc _) (HB.out.alloc hsz _) (hb.mono (by simp; omega))); clear hb)
        go_ret
        exact ⟨by rw [HF.out]; rfl, HB2.out⟩
      · have HN := Lib.hid (take_all HP.out hd.out tp)
        have TP := Lib.hid tp
        clear tp
        go_wp2_with (go_at_call 45; refine (C.out _).mono ?_; rw [TP.out]; rintro e w2 ⟨rfl, hb⟩; have HB2 := Lib.hid (Below.trans (b := wr.alloc _) (HB.out.alloc hsz _) (hb.mono (by simp; omega))); clear hb)
        go_roundw
        case rel => exact ⟨i + 1, by omega, by go_num, HB2, HN⟩
        case measure => simp [intOf]; omega
    · have hin : i = n := by omega
      have HA := Lib.hid (show ls.all psB = true by have h := HP.out; rwa [List.take_of_length_le (by rw [HL.out]; omega)] at h)
      obtain ⟨wo, rfl⟩ : ∃ wo : World, wo = wr := ⟨_, rfl⟩
      clear HP hin
      obtain ⟨b0, o0, cs0, d, rfl, hb0, hR0, hd, hc0⟩ := (HR.out.keep (SameOn.of_below HB.out HS.out)).at_ (k := j) (by rw [HL.out]; exact hj)
      obtain ⟨B, cb, rfl, _, _, _, hrb⟩ := hR0
      have z0 : wo.cell? ⟨b0, o0 + j * 3, none⟩ = some (.string d.nm) := hc0 0 _ rfl
      have z1 : wo.cell? ⟨b0, o0 + j * 3 + 1, none⟩ = some (.int .i64 d.ps) := hc0 1 _ rfl
      have z2 : wo.cell? ⟨b0, o0 + j * 3 + 2, none⟩ = some (.slice B d.body.length cb) := hc0 2 _ rfl
      have l0 : b0 < wo.heap.size := World.block_lt_of_cell? wo _ z0
      have HV := Lib.hid (show ckV ls j = pV (bodyF ls d) by
        unfold ckV
        rw [if_neg (by rw [HL.out]; omega), if_neg (by rw [HL.out, TX.out]; simp), if_neg (by rw [HA.out]; simp)]
        rw [List.getD_eq_getElem?_getD, Int.toNat_natCast, hd.out]; rfl)
      have hps : 0 ≤ d.ps ∧ d.ps ≤ 3 := by
        have h := List.all_eq_true.1 HA.out d (List.mem_of_getElem? hd.out)
        unfold psB at h; simpa using h
      have HOD := Lib.hid (HOK.out.2 d (List.mem_of_getElem? hd.out))
      have CS := Lib.hid (fun (W : World) (hW : Below wo.heap.size wo W) => Calls.mono (implShape_any d B cb W S (hrb.keep (SameOn.of_below hW fun b hb => Nat.lt_of_lt_of_le (HS.out b hb) hsz)) (fun b hb => Nat.lt_of_lt_of_le (HS.out b hb) (Nat.le_trans hsz hW.size)) (HT.out.below (HB.out.trans (hW.mono hsz)))) (fun e w' ⟨he, hb⟩ => (⟨he, hW.trans (Below.mono hb hW.size)⟩ : e = Ending.returned (.bool (shapeB d.body)) ∧ Below wo.heap.size wo w')))
      have HRB := Lib.hid hrb
      clear hc0 hrb
      rcases ts : shapeB d.body with _ | _
      · have HF := Lib.hid (show pV (bodyF ls d) = .iface 89 (.agg #[.iface 87 (.int .i64 1), .int .i64 0]) by unfold bodyF; rw [if_neg (by rw [ts]; simp)]; rfl)
        have TS := Lib.hid ts
        clear ts
        go_wp2_with (go_at_call 46; refine (CS.out _ (by first | exact Below.refl _ _ | exact (Below.refl _ _).drew)).mono ?_; rw [TS.out]; rintro e w2 ⟨rfl, hb⟩; have HB2 := Lib.hid (HB.out.trans (hb.mono hsz)); clear hb)
        go_ret
        exact ⟨by rw [HV.out, HF.out]; rfl, HB2.out⟩
      · have HF := Lib.hid (show bodyF ls d = firstR ls (annOf d) 0 by unfold bodyF; rw [if_pos ts])
        have TS := Lib.hid ts
        clear ts
        go_wp2_with (go_at_call 46; refine (CS.out _ (by first | exact Below.refl _ _ | exact (Below.refl _ _).drew)).mono ?_; rw [TS.out]; rintro e w2 ⟨rfl, hb⟩; have HW2 := Lib.hid hb; have y0 := (hb.cell (p := ⟨b0, o0 + j * 3, none⟩) l0).trans z0; have y1 := (hb.cell (p := ⟨b0, o0 + j * 3 + 1, none⟩) l0).trans z1; have y2 := (hb.cell (p := ⟨b0, o0 + j * 3 + 2, none⟩) l0).trans z2; clear hb)
        have hs2 := HW2.out.size
        have CP := Lib.hid (implPlaced_any d B cb w2 S (HRB.out.keep (SameOn.of_below HW2.out fun b hb => Nat.lt_of_lt_of_le (HS.out b hb) hsz)) (fun b hb => Nat.lt_of_lt_of_le (HS.out b hb) (Nat.le_trans hsz hs2)) TS.out hps.1 hps.2 (HT.out.below (HB.out.trans (HW2.out.mono hsz))))
        clear z0 z1 z2 y0 y1 y2
        go_wp2_with (go_at_call 32; refine CP.out.mono ?_; rintro e w3 ⟨A3, rfl, hr3, hb3, hl3⟩; have HR3 := Lib.hid hr3; have HB3 := Lib.hid ((HB.out.trans (HW2.out.mono hsz)).trans (hb3.mono (Nat.le_trans hsz hs2))); have hs3 := hb3.size; clear hr3 hb3)
        have hal := annOf_len TS.out
        have h20 := (pxOf_ok TS.out).2.2
        rw [← Px.flat_len, (pxOf_ok TS.out).1] at h20
        generalize hN : (annOf d).length = m at *
        have HNl := Lib.hid hN
        have hm20 : m ≤ 20 := by omega
        clear hN hal h20
        go_loopw [46] (fun iv wr => ∃ i : Nat, i ≤ m ∧ iv = .int .i64 i ∧ Hid (Below w3.heap.size w3 wr) ∧ Hid (firstR ls (annOf d) 0 = firstR ls ((annOf d).drop i) i)) (fun iv _ => m - (intOf iv).toNat)
        case atStart => exact ⟨0, Nat.zero_le _, rfl, Lib.hid (Below.refl _ _), Lib.hid (by rw [List.drop_zero]; rfl)⟩
        case round =>
          obtain ⟨i2, hi2, rfl, HBr, HE⟩ := hrel
          have hsr := HBr.out.size
          have hS3 : ∀ b, (S b ∨ b = w2.heap.size + 1) → b < w3.heap.size := fun b hb => by
            rcases hb with hb | hb
            · have := HS.out b hb; omega
            · omega
          by_cases hlt2 : i2 < m
          · obtain ⟨b5, o5, cs5, a, rfl, hb5, hR5, ha, hc5⟩ := (HR3.out.keep (SameOn.of_below HBr.out hS3)).at_ (k := i2) (by rw [HNl.out]; exact hlt2)
            obtain ⟨E, ce, rfl, _, _, _, hre⟩ := hR5
            have p0 : wr.cell? ⟨b5, o5 + i2 * 7, none⟩ = some (.int .i64 a.p.k) := hc5 0 _ rfl
            have p1 : wr.cell? ⟨b5, o5 + i2 * 7 + 1, none⟩ = some (.int .i64 a.p.n) := hc5 1 _ rfl
            have p2 : wr.cell? ⟨b5, o5 + i2 * 7 + 2, none⟩ = some (.string a.p.nm) := hc5 2 _ rfl
            have p3 : wr.cell? ⟨b5, o5 + i2 * 7 + 3, none⟩ = some (.slice E a.p.args.length ce) := hc5 3 _ rfl
            have p4 : wr.cell? ⟨b5, o5 + i2 * 7 + 4, none⟩ = some (.int .i64 a.e) := hc5 4 _ rfl
            have p5 : wr.cell? ⟨b5, o5 + i2 * 7 + 5, none⟩ = some (.int .i64 a.s) := hc5 5 _ rfl
            have p6 : wr.cell? ⟨b5, o5 + i2 * 7 + 6, none⟩ = some (.bool a.c) := hc5 6 _ rfl
            have l5 : b5 < wr.heap.size := World.block_lt_of_cell? wr _ p0
            have hbd := annOf_part TS.out ha.out
            have hop := HOD.out.2.2 a.p (List.mem_of_getElem? hbd)
            have hsb := annOf_sbd TS.out hps.1 hps.2 ha.out
            have hSr : ∀ b, (S b ∨ b = w2.heap.size + 1) → b < wr.heap.size := fun b hb => Nat.lt_of_lt_of_le (hS3 b hb) hsr
            have HBw := Lib.hid (HB3.out.trans (HBr.out.mono (by omega)))
            have CK := Lib.hid (fun (W : World) (hW : Below wr.heap.size wr W) => Calls.mono (implCheck_any a E ce a.e (some ⟨b0, o0, none⟩) c ls W (fun b => S b ∨ b = w2.heap.size + 1) (by rw [HL.out]; exact hn4) ((HR.out.keep (SameOn.of_below (HBw.out.trans (hW.mono (by omega))) HS.out)).more fun b hb => .inl hb) (hre.keep (SameOn.of_below hW hSr)) (fun b hb => Nat.lt_of_lt_of_le (hSr b hb) hW.size) hsb hop.2 (HT.out.below (HBw.out.trans (hW.mono (by omega))))) (fun e w' ⟨he, hb⟩ => (⟨he, hW.trans (Below.mono hb hW.size)⟩ : e = Ending.returned (chkV (rsn ls a)) ∧ Below wr.heap.size wr w')))
            have hst := HE.out
            rw [firstR_drop _ ha.out] at hst
            clear hc5 hre hbd hop hsb hS3 hSr
            by_cases hr0 : rsn ls a = 0
            · rw [if_pos hr0] at hst
              have HN := Lib.hid hst
              have HR0 := Lib.hid (show chkV (rsn ls a) = .nilIface by unfold chkV; rw [if_pos hr0])
              clear hst hr0
              go_wp2_with (go_at_call 47; rw [HL.out] at CK; refine (CK.out _ (by repeat (first | exact Below.refl _ _ | refine Below.alloc ?_ (by simp <;> omega) _))).mono ?_; rw [HR0.out]; rintro e w5 ⟨rfl, hb⟩; have HB5 := Lib.hid (HBr.out.trans (hb.mono hsr)); clear hb)
              go_roundw
              case rel => exact ⟨i2 + 1, by omega, by go_num, HB5, HN⟩
              case measure => simp [intOf]; omega
            · rw [if_neg hr0] at hst
              have HF2 := Lib.hid (show pV (bodyF ls d) = .iface 89 (.agg #[.iface 87 (.int .i64 (rsn ls a)), .int .i64 i2]) by rw [HF.out, hst]; unfold pV; rw [if_neg hr0])
              have HR0 := Lib.hid (show chkV (rsn ls a) = .iface 87 (.int .i64 (rsn ls a)) by unfold chkV; rw [if_neg hr0])
              clear hst hr0
              go_wp2_with (go_at_call 47; rw [HL.out] at CK; refine (CK.out _ (by repeat (first | exact Below.refl _ _ | refine Below.alloc ?_ (by simp <;> omega) _))).mono ?_; rw [HR0.out]; rintro e w5 ⟨rfl, hb⟩; have HB5 := Lib.hid (HB3.out.trans ((HBr.out.trans (hb.mono hsr)).mono (by omega))); clear hb)
              go_ret
              exact ⟨by rw [HV.out, HF2.out]; rfl, HB5.out⟩
          · have HF2 := Lib.hid (show pV (bodyF ls d) = .nilIface by rw [HF.out, HE.out, firstR_none (by rw [HNl.out]; omega)]; rfl)
            have HB5 := Lib.hid (HB3.out.trans (HBr.out.mono (by omega)))
            clear hS3
            go_wp2
            go_ret
            exact ⟨by rw [HV.out, HF2.out]; rfl, HB5.out⟩
end Go.Proofs.YthinoagdgbnphaaDoor
