/- A whole body: the program's look at it. -/
/- A whole body: the program's look at it. -/
/- Definitions: the program's look at them. -/
import Derived.Test.YtdgcpaeneafejaaGreatDoorPxGI
import Derived.Deep.RegionHeld3
import Derived.Test.YtdgcpaeneafejaaGreatDoorPxWX
import Derived.Maps.OwnSet
import Derived.Maps.OwnOps
import Derived.StringKeys
namespace Go.Proofs.YtdgcpaeneafejaaGreatDoor
open Go.RowKit
def psB (d : Df) : Bool := decide (0 ≤ d.ps) && decide (d.ps ≤ 3)
theorem implParams_any (d : Df) (E : Option Addr) (ce : Nat) (w : World) :
    Calls Tryz.prog 158 #[.agg #[.string d.nm, .int .i64 d.ps, .slice E d.body.length ce]] w fun e w' => e = .returned (.bool (psB d)) ∧ Below w.heap.size w w' := by
  by_cases h0 : 0 ≤ d.ps
  · by_cases h3 : d.ps ≤ 3
    · have HF := Lib.hid (show psB d = true by unfold psB; simp [h0, h3])
      go_enter Tryz.func158, Tryz.ntmps158
      go_wp2
      go_ret
      exact ⟨by rw [HF.out]; rfl, (by repeat (first | exact Below.refl _ _ | refine Below.setCell ?_ (by simp) _ | refine Below.alloc ?_ (by simp <;> omega) _))⟩
    · have HF := Lib.hid (show psB d = false by unfold psB; simp [h3])
      go_enter Tryz.func158, Tryz.ntmps158
      go_wp2
      go_ret
      exact ⟨by rw [HF.out]; rfl, (by repeat (first | exact Below.refl _ _ | refine Below.setCell ?_ (by simp) _ | refine Below.alloc ?_ (by simp <;> omega) _))⟩
  · have HF := Lib.hid (show psB d = false by unfold psB; simp [h0])
    go_enter Tryz.func158, Tryz.ntmps158
    go_wp2
    go_ret
    exact ⟨by rw [HF.out]; rfl, (by repeat (first | exact Below.refl _ _ | refine Below.setCell ?_ (by simp) _ | refine Below.alloc ?_ (by simp <;> omega) _))⟩
theorem shape_pf {es : List Pt} (h : es.length ≤ 20) : shapeB es = (pf es 1 0 == (es.length : Int)) := by
  have h1 := nd_pf es 1 0 (by omega) (by omega)
  unfold shapeB
  rw [decide_eq_true h, Bool.true_and]
  rcases e : nd es 1 with _ | _
  · symm
    rw [e] at h1
    refine ib_ne fun hp => ?_
    have hne : es ≠ [] := by intro hn; rw [hn] at hp; simp [pf] at hp
    exact absurd (h1.2 ⟨hne, by omega⟩) (by simp)
  · symm
    exact ib_eq (by have := (h1.1 e).2; omega)
set_option maxRecDepth 100000 in
set_option maxHeartbeats 8000000 in
theorem implShape_any (d : Df) (E : Option Addr) (ce : Nat) (w : World) (S : Nat → Prop) (h : LRow ptR w S E d.body) (hS : ∀ b, S b → b < w.heap.size) (ht : FormTab w) :
    Calls Tryz.prog 159 #[.agg #[.string d.nm, .int .i64 d.ps, .slice E d.body.length ce]] w fun e w' => e = .returned (.bool (shapeB d.body)) ∧ Below w.heap.size w w' := by
  by_cases h20 : d.body.length ≤ 20
  · have HF := Lib.hid (shape_pf h20)
    have C := Lib.hid (fun (W : World) (hW : Below w.heap.size w W) => Calls.mono (implEnd_any E d.body.length ce d.body W S (h.keep (SameOn.of_below hW hS)) rfl (fun b hb => Nat.lt_of_lt_of_le (hS b hb) hW.size) h20 (FormTab.below ht hW)) (fun e w' ⟨he, hb⟩ => (⟨he, hb⟩ : e = Ending.returned (.int .i64 (pf d.body 1 0)) ∧ Below W.heap.size W w')))
    clear h hS ht
    rcases tb : (pf d.body 1 0 == (d.body.length : Int)) with _ | _
    · rw [tb] at HF
      go_enter Tryz.func159, Tryz.ntmps159
      go_wp2
      obtain ⟨v, hv⟩ : ∃ v, v = w.alloc (.cells #[.string d.nm, .int .i64 d.ps, .slice E d.body.length ce] 88) := ⟨_, rfl⟩
      rw [← hv]
      have hB0 : Below w.heap.size w v := by rw [hv]; exact (Below.refl _ _).alloc (Nat.le_refl _) _
      have k2 : v.cell? ⟨w.heap.size, 2, none⟩ = some (.slice E d.body.length ce) := by rw [hv]; simp [go_sem]
      have hl : w.heap.size < v.heap.size := by rw [hv]; simp
      clear hv
      have HB0 := Lib.hid hB0
      have HV := Lib.hid (Below.refl v.heap.size v)
      have HS2 := Lib.hid (fun (W : World) (hW : Below v.heap.size v W) => (⟨hW, (hW.cell (p := ⟨w.heap.size, 2, none⟩) hl).trans k2⟩ : Below v.heap.size v W ∧ W.cell? ⟨w.heap.size, 2, none⟩ = some (.slice E d.body.length ce)))
      have C := Lib.hid (fun (W : World) (hW : Below v.heap.size v W) => Calls.mono (C.out W (HB0.out.trans (hW.mono HB0.out.size))) (fun e w' ⟨he, hb⟩ => (⟨he, hW.trans (Below.mono hb hW.size)⟩ : e = Ending.returned (.int .i64 (pf d.body 1 0)) ∧ Below v.heap.size v w')))
      have h20i : (d.body.length : Int) ≤ 20 := by omega
      clear hB0 HS2
      go_region_with (go_at_call 171; refine (C.out _ (by first | exact HV.out | exact HV.out.drew)).mono ?_; rintro e v2 ⟨rfl, hb⟩; have k2 := (hb.cell (p := ⟨w.heap.size, 2, none⟩) hl).trans k2; have HV := Lib.hid hb; clear hb)
      all_goals
        go_wp2
        go_ret
        exact ⟨by rw [HF.out]; rfl, HB0.out.trans (HV.out.mono HB0.out.size)⟩
    · rw [tb] at HF
      go_enter Tryz.func159, Tryz.ntmps159
      go_wp2
      obtain ⟨v, hv⟩ : ∃ v, v = w.alloc (.cells #[.string d.nm, .int .i64 d.ps, .slice E d.body.length ce] 88) := ⟨_, rfl⟩
      rw [← hv]
      have hB0 : Below w.heap.size w v := by rw [hv]; exact (Below.refl _ _).alloc (Nat.le_refl _) _
      have k2 : v.cell? ⟨w.heap.size, 2, none⟩ = some (.slice E d.body.length ce) := by rw [hv]; simp [go_sem]
      have hl : w.heap.size < v.heap.size := by rw [hv]; simp
      clear hv
      have HB0 := Lib.hid hB0
      have HV := Lib.hid (Below.refl v.heap.size v)
      have HS2 := Lib.hid (fun (W : World) (hW : Below v.heap.size v W) => (⟨hW, (hW.cell (p := ⟨w.heap.size, 2, none⟩) hl).trans k2⟩ : Below v.heap.size v W ∧ W.cell? ⟨w.heap.size, 2, none⟩ = some (.slice E d.body.length ce)))
      have C := Lib.hid (fun (W : World) (hW : Below v.heap.size v W) => Calls.mono (C.out W (HB0.out.trans (hW.mono HB0.out.size))) (fun e w' ⟨he, hb⟩ => (⟨he, hW.trans (Below.mono hb hW.size)⟩ : e = Ending.returned (.int .i64 (pf d.body 1 0)) ∧ Below v.heap.size v w')))
      have h20i : (d.body.length : Int) ≤ 20 := by omega
      clear hB0 HS2
      go_region_with (go_at_call 171; refine (C.out _ (by first | exact HV.out | exact HV.out.drew)).mono ?_; rintro e v2 ⟨rfl, hb⟩; have k2 := (hb.cell (p := ⟨w.heap.size, 2, none⟩) hl).trans k2; have HV := Lib.hid hb; clear hb)
      all_goals
        go_wp2
        go_ret
        exact ⟨by rw [HF.out]; rfl, HB0.out.trans (HV.out.mono HB0.out.size)⟩
  · have HF := Lib.hid (show shapeB d.body = false by unfold shapeB; rw [decide_eq_false h20]; rfl)
    clear h hS ht
    go_enter Tryz.func159, Tryz.ntmps159
    have h20i : ((d.body.length : Int) ≤ 20) = False := eq_false (by omega)
    have h20d : decide ((d.body.length : Int) ≤ 20) = false := decide_eq_false (by omega)
    clear h20
    go_wp2
    go_region
    all_goals
      go_wp2
      go_ret
      exact ⟨by rw [HF.out]; rfl, by repeat (first | exact Below.refl _ _ | refine Below.drew ?_ | refine Below.alloc ?_ (by simp <;> omega) _)⟩
def idxB (k : Int) (n : Nat) : Bool := decide (0 ≤ k) && decide (k < n)
theorem implIndex_any (k : Int) (n : Nat) (w : World) (_ : n ≤ 1048576) :
    Calls Tryz.prog 70 #[.int .i64 k, .int .i64 n] w fun e w' => e = .returned (.bool (idxB k n)) ∧ Below w.heap.size w w' := by
  by_cases h0 : 0 ≤ k
  · by_cases h1 : k < n
    · have HF := Lib.hid (show idxB k n = true by unfold idxB; simp [h0, h1])
      go_enter Tryz.func70, Tryz.ntmps70
      go_wp2
      go_ret
      exact ⟨by rw [HF.out]; rfl, (by repeat (first | exact Below.refl _ _ | refine Below.setCell ?_ (by simp) _ | refine Below.alloc ?_ (by simp <;> omega) _))⟩
    · have HF := Lib.hid (show idxB k n = false by unfold idxB; simp [h1])
      go_enter Tryz.func70, Tryz.ntmps70
      go_wp2
      go_ret
      exact ⟨by rw [HF.out]; rfl, (by repeat (first | exact Below.refl _ _ | refine Below.setCell ?_ (by simp) _ | refine Below.alloc ?_ (by simp <;> omega) _))⟩
  · have HF := Lib.hid (show idxB k n = false by unfold idxB; simp [h0])
    go_enter Tryz.func70, Tryz.ntmps70
    go_wp2
    go_ret
    exact ⟨by rw [HF.out]; rfl, (by repeat (first | exact Below.refl _ _ | refine Below.setCell ?_ (by simp) _ | refine Below.alloc ?_ (by simp <;> omega) _))⟩
end Go.Proofs.YtdgcpaeneafejaaGreatDoor

namespace Go.Proofs.YtdgcpaeneafejaaGreatDoor
open Go.RowKit
/-- What is said of the first part that is not valid. -/
noncomputable def pV (q : Int × Int) : Value := if q.2 = 0 then .nilIface else .iface 198 (.agg #[.iface 196 (.int .i64 q.2), .int .i64 q.1])
noncomputable def ckV (ls : List Df) (k : Int) : Value :=
  if 4 < ls.length then .iface 195 (.int .i64 5) else if idxB k ls.length = false then .iface 195 (.int .i64 2) else if ls.all psB = false then .iface 195 (.int .i64 2) else pV (bodyF ls (ls.getD k.toNat default))
theorem firstR_none {ls : List Df} {l : List An} {k : Nat} (h : l.length ≤ k) (i : Int) : firstR ls (l.drop k) i = (0, 0) := by rw [List.drop_of_length_le h]; rfl
set_option maxRecDepth 100000 in
set_option maxHeartbeats 8000000 in
theorem implBody_any (A : Option Addr) (c : Nat) (ls : List Df) (k : Int) (w : World) (S : Nat → Prop) (h : LRow dfR w S A ls) (hS : ∀ b, S b → b < w.heap.size) (hok : okList okDf ls) (ht : FormTab w) :
    Calls Tryz.prog 135 #[.slice A ls.length c, .int .i64 k] w fun e w' => e = .returned (ckV ls k) ∧ Below w.heap.size w w' := by
  by_cases h4 : 4 < ls.length
  · have HF := Lib.hid (show ckV ls k = .iface 195 (.int .i64 5) by unfold ckV; rw [if_pos h4])
    have hl := hok.1
    clear h hS hok ht
    go_enter Tryz.func135, Tryz.ntmps135
    go_wp2
    go_ret
    exact ⟨by rw [HF.out]; rfl, (by repeat (first | exact Below.refl _ _ | refine Below.setCell ?_ (by simp) _ | refine Below.alloc ?_ (by simp <;> omega) _))⟩
  have hn4 : ls.length ≤ 4 := by omega
  rcases tx : idxB k ls.length with _ | _
  · have HF := Lib.hid (show ckV ls k = .iface 195 (.int .i64 2) by unfold ckV; rw [if_neg h4, if_pos tx])
    have CX := Lib.hid (fun (W : World) => implIndex_any k ls.length W (by omega))
    have TX := Lib.hid tx
    clear h hS hok ht tx
    go_enter Tryz.func135, Tryz.ntmps135
    go_wp2_with (go_at_call 70; refine (CX.out _).mono ?_; rw [TX.out]; rintro e w2 ⟨rfl, hb⟩; have HB := Lib.hid hb; clear hb)
    go_ret
    exact ⟨by rw [HF.out]; rfl, HB.out⟩
  have CX := Lib.hid (fun (W : World) => implIndex_any k ls.length W (by omega))
  have TX := Lib.hid tx
  obtain ⟨hk0, hkn⟩ : 0 ≤ k ∧ k < ls.length := by unfold idxB at tx; simpa using tx
  obtain ⟨j, rfl⟩ : ∃ j : Nat, k = j := ⟨k.toNat, by omega⟩
  have hj : j < ls.length := by omega
  clear tx hk0 hkn
  have HR := Lib.hid h
  have HS := Lib.hid hS
  have HOK := Lib.hid hok
  have HT := Lib.hid ht
  generalize hL : ls.length = n at *
  have HL := Lib.hid hL
  clear h hS hok ht hL
  go_enter Tryz.func135, Tryz.ntmps135
  go_wp2_with (go_at_call 70; refine (CX.out _).mono ?_; rw [TX.out]; rintro e w1 ⟨rfl, hb⟩; have HB1 := Lib.hid hb; clear hb)
  go_loopw [22] (fun iv wr => ∃ i : Nat, i ≤ n ∧ iv = .int .i64 i ∧ Hid (Below w.heap.size w wr) ∧ Hid ((ls.take i).all psB = true)) (fun iv _ => n - (intOf iv).toNat)
  case atStart => exact ⟨0, Nat.zero_le _, rfl, HB1, Lib.hid rfl⟩
  case round =>
    obtain ⟨i, hi, rfl, HB, HP⟩ := hrel
    have hsz := HB.out.size
    by_cases hlt : i < n
    · obtain ⟨b0, o0, cs0, d, rfl, hb0, hR0, hd, hc0⟩ := (HR.out.keep (SameOn.of_below HB.out HS.out)).at_ (k := i) (by rw [HL.out]; exact hlt)
      obtain ⟨B, cb, rfl, _, _, _, _⟩ := hR0
      have z0 : wr.cell? ⟨b0, o0 + i * 3, none⟩ = some (.string d.nm) := hc0 0 _ rfl
      have z1 : wr.cell? ⟨b0, o0 + i * 3 + 1, none⟩ = some (.int .i64 d.ps) := hc0 1 _ rfl
      have z2 : wr.cell? ⟨b0, o0 + i * 3 + 2, none⟩ = some (.slice B d.body.length cb) := hc0 2 _ rfl
      have l0 : b0 < wr.heap.size := World.block_lt_of_cell? wr _ z0
      have C := Lib.hid (fun (W : World) => implParams_any d B cb W)
      clear hc0
      rcases tp : psB d with _ | _
      · have HF := Lib.hid (show ckV ls j = .iface 195 (.int .i64 2) by unfold ckV; rw [if_neg (by rw [HL.out]; omega), if_neg (by rw [HL.out, TX.out]; simp), if_pos (all_bad hd.out tp)])
        have TP := Lib.hid tp
        clear tp
        go_wp2_with (go_at_call 158; refine (C.out _).mono ?_; rw [TP.out]; rintro e w2 ⟨rfl, hb⟩; have HB2 := Lib.hid (Below.trans (b := wr.alloc _) (HB.out.alloc hsz _) (hb.mono (by simp; omega))); clear hb)
        go_ret
        exact ⟨by rw [HF.out]; rfl, HB2.out⟩
      · have HN := Lib.hid (take_all HP.out hd.out tp)
        have TP := Lib.hid tp
        clear tp
        go_wp2_with (go_at_call 158; refine (C.out _).mono ?_; rw [TP.out]; rintro e w2 ⟨rfl, hb⟩; have HB2 := Lib.hid (Below.trans (b := wr.alloc _) (HB.out.alloc hsz _) (hb.mono (by simp; omega))); clear hb)
        go_roundw
        case rel => exact ⟨i + 1, by omega, by go_num, HB2, HN⟩
        case measure => simp [intOf]; omega
    · have hin : i = n := by omega
      have HA := Lib.hid (show ls.all psB = true by have h := HP.out; rwa [List.take_of_length_le (by rw [HL.out]; omega)] at h)
      obtain ⟨wo, rfl⟩ : ∃ wo : World, wo = wr := ⟨_, rfl⟩
      clear HP hin
      obtain ⟨b0, o0, cs0, d, rfl, hb0, hR0, hd, hc0⟩ := (HR.out.keep (SameOn.of_below HB.out HS.out)).at_ (k := j) (by rw [HL.out]; exact hj)
      obtain ⟨B, cb, rfl, _, _, _, hrb⟩ := hR0
      have z0 : wo.cell? ⟨b0, o0 + j * 3, none⟩ = some (.string d.nm) := hc0 0 _ rfl
      have z1 : wo.cell? ⟨b0, o0 + j * 3 + 1, none⟩ = some (.int .i64 d.ps) := hc0 1 _ rfl
      have z2 : wo.cell? ⟨b0, o0 + j * 3 + 2, none⟩ = some (.slice B d.body.length cb) := hc0 2 _ rfl
      have l0 : b0 < wo.heap.size := World.block_lt_of_cell? wo _ z0
      have HV := Lib.hid (show ckV ls j = pV (bodyF ls d) by
        unfold ckV
        rw [if_neg (by rw [HL.out]; omega), if_neg (by rw [HL.out, TX.out]; simp), if_neg (by rw [HA.out]; simp)]
        rw [List.getD_eq_getElem?_getD, Int.toNat_natCast, hd.out]; rfl)
      have hps : 0 ≤ d.ps ∧ d.ps ≤ 3 := by
        have h := List.all_eq_true.1 HA.out d (List.mem_of_getElem? hd.out)
        unfold psB at h; simpa using h
      have HOD := Lib.hid (HOK.out.2 d (List.mem_of_getElem? hd.out))
      have CS := Lib.hid (fun (W : World) (hW : Below wo.heap.size wo W) => Calls.mono (implShape_any d B cb W S (hrb.keep (SameOn.of_below hW fun b hb => Nat.lt_of_lt_of_le (HS.out b hb) hsz)) (fun b hb => Nat.lt_of_lt_of_le (HS.out b hb) (Nat.le_trans hsz hW.size)) (HT.out.below (HB.out.trans (hW.mono hsz)))) (fun e w' ⟨he, hb⟩ => (⟨he, hW.trans (Below.mono hb hW.size)⟩ : e = Ending.returned (.bool (shapeB d.body)) ∧ Below wo.heap.size wo w')))
      have HRB := Lib.hid hrb
      clear hc0 hrb
      rcases ts : shapeB d.body with _ | _
      · have HF := Lib.hid (show pV (bodyF ls d) = .iface 198 (.agg #[.iface 196 (.int .i64 1), .int .i64 0]) by unfold bodyF; rw [if_neg (by rw [ts]; simp)]; rfl)
        have TS := Lib.hid ts
        clear ts
        go_wp2_with (go_at_call 159; refine (CS.out _ (by first | exact Below.refl _ _ | exact (Below.refl _ _).drew)).mono ?_; rw [TS.out]; rintro e w2 ⟨rfl, hb⟩; have HB2 := Lib.hid (HB.out.trans (hb.mono hsz)); clear hb)
        go_ret
        exact ⟨by rw [HV.out, HF.out]; rfl, HB2.out⟩
      · have HF := Lib.hid (show bodyF ls d = firstR ls (annOf d) 0 by unfold bodyF; rw [if_pos ts])
        have TS := Lib.hid ts
        clear ts
        go_wp2_with (go_at_call 159; refine (CS.out _ (by first | exact Below.refl _ _ | exact (Below.refl _ _).drew)).mono ?_; rw [TS.out]; rintro e w2 ⟨rfl, hb⟩; have HW2 := Lib.hid hb; have y0 := (hb.cell (p := ⟨b0, o0 + j * 3, none⟩) l0).trans z0; have y1 := (hb.cell (p := ⟨b0, o0 + j * 3 + 1, none⟩) l0).trans z1; have y2 := (hb.cell (p := ⟨b0, o0 + j * 3 + 2, none⟩) l0).trans z2; clear hb)
        have hs2 := HW2.out.size
        have CP := Lib.hid (implPlaced_any d B cb w2 S (HRB.out.keep (SameOn.of_below HW2.out fun b hb => Nat.lt_of_lt_of_le (HS.out b hb) hsz)) (fun b hb => Nat.lt_of_lt_of_le (HS.out b hb) (Nat.le_trans hsz hs2)) TS.out hps.1 hps.2 (HT.out.below (HB.out.trans (HW2.out.mono hsz))))
        clear z0 z1 z2 y0 y1 y2
        go_wp2_with (go_at_call 129; refine CP.out.mono ?_; rintro e w3 ⟨A3, rfl, hr3, hb3, hl3⟩; have HR3 := Lib.hid hr3; have HB3 := Lib.hid ((HB.out.trans (HW2.out.mono hsz)).trans (hb3.mono (Nat.le_trans hsz hs2))); have hs3 := hb3.size; clear hr3 hb3)
        have hal := annOf_len TS.out
        have h20 := (pxOf_ok TS.out).2.2
        rw [← Px.flat_len, (pxOf_ok TS.out).1] at h20
        generalize hN : (annOf d).length = m at *
        have HNl := Lib.hid hN
        have hm20 : m ≤ 20 := by omega
        clear hN hal h20
        go_loopw [46] (fun iv wr => ∃ i : Nat, i ≤ m ∧ iv = .int .i64 i ∧ Hid (Below w3.heap.size w3 wr) ∧ Hid (firstR ls (annOf d) 0 = firstR ls ((annOf d).drop i) i)) (fun iv _ => m - (intOf iv).toNat)
        case atStart => exact ⟨0, Nat.zero_le _, rfl, Lib.hid (Below.refl _ _), Lib.hid (by rw [List.drop_zero]; rfl)⟩
        case round =>
          obtain ⟨i2, hi2, rfl, HBr, HE⟩ := hrel
          have hsr := HBr.out.size
          have hS3 : ∀ b, (S b ∨ b = w2.heap.size + 1) → b < w3.heap.size := fun b hb => by
            rcases hb with hb | hb
            · have := HS.out b hb; omega
            · omega
          by_cases hlt2 : i2 < m
          · obtain ⟨b5, o5, cs5, a, rfl, hb5, hR5, ha, hc5⟩ := (HR3.out.keep (SameOn.of_below HBr.out hS3)).at_ (k := i2) (by rw [HNl.out]; exact hlt2)
            obtain ⟨E, ce, rfl, _, _, _, hre⟩ := hR5
            have p0 : wr.cell? ⟨b5, o5 + i2 * 7, none⟩ = some (.int .i64 a.p.k) := hc5 0 _ rfl
            have p1 : wr.cell? ⟨b5, o5 + i2 * 7 + 1, none⟩ = some (.int .i64 a.p.n) := hc5 1 _ rfl
            have p2 : wr.cell? ⟨b5, o5 + i2 * 7 + 2, none⟩ = some (.string a.p.nm) := hc5 2 _ rfl
            have p3 : wr.cell? ⟨b5, o5 + i2 * 7 + 3, none⟩ = some (.slice E a.p.args.length ce) := hc5 3 _ rfl
            have p4 : wr.cell? ⟨b5, o5 + i2 * 7 + 4, none⟩ = some (.int .i64 a.e) := hc5 4 _ rfl
            have p5 : wr.cell? ⟨b5, o5 + i2 * 7 + 5, none⟩ = some (.int .i64 a.s) := hc5 5 _ rfl
            have p6 : wr.cell? ⟨b5, o5 + i2 * 7 + 6, none⟩ = some (.bool a.c) := hc5 6 _ rfl
            have l5 : b5 < wr.heap.size := World.block_lt_of_cell? wr _ p0
            have hbd := annOf_part TS.out ha.out
            have hop := HOD.out.2.2 a.p (List.mem_of_getElem? hbd)
            have hsb := annOf_sbd TS.out hps.1 hps.2 ha.out
            have hSr : ∀ b, (S b ∨ b = w2.heap.size + 1) → b < wr.heap.size := fun b hb => Nat.lt_of_lt_of_le (hS3 b hb) hsr
            have HBw := Lib.hid (HB3.out.trans (HBr.out.mono (by omega)))
            have CK := Lib.hid (fun (W : World) (hW : Below wr.heap.size wr W) => Calls.mono (implCheck_any a E ce a.e (some ⟨b0, o0, none⟩) c ls W (fun b => S b ∨ b = w2.heap.size + 1) (by rw [HL.out]; exact hn4) ((HR.out.keep (SameOn.of_below (HBw.out.trans (hW.mono (by omega))) HS.out)).more fun b hb => .inl hb) (hre.keep (SameOn.of_below hW hSr)) (fun b hb => Nat.lt_of_lt_of_le (hSr b hb) hW.size) hsb hop.2 (HT.out.below (HBw.out.trans (hW.mono (by omega))))) (fun e w' ⟨he, hb⟩ => (⟨he, hW.trans (Below.mono hb hW.size)⟩ : e = Ending.returned (chkV (rsn ls a)) ∧ Below wr.heap.size wr w')))
            have hst := HE.out
            rw [firstR_drop _ ha.out] at hst
            clear hc5 hre hbd hop hsb hS3 hSr
            by_cases hr0 : rsn ls a = 0
            · rw [if_pos hr0] at hst
              have HN := Lib.hid hst
              have HR0 := Lib.hid (show chkV (rsn ls a) = .nilIface by unfold chkV; rw [if_pos hr0])
              clear hst hr0
              go_wp2_with (go_at_call 160; rw [HL.out] at CK; refine (CK.out _ (by repeat (first | exact Below.refl _ _ | refine Below.alloc ?_ (by simp <;> omega) _))).mono ?_; rw [HR0.out]; rintro e w5 ⟨rfl, hb⟩; have HB5 := Lib.hid (HBr.out.trans (hb.mono hsr)); clear hb)
              go_roundw
              case rel => exact ⟨i2 + 1, by omega, by go_num, HB5, HN⟩
              case measure => simp [intOf]; omega
            · rw [if_neg hr0] at hst
              have HF2 := Lib.hid (show pV (bodyF ls d) = .iface 198 (.agg #[.iface 196 (.int .i64 (rsn ls a)), .int .i64 i2]) by rw [HF.out, hst]; unfold pV; rw [if_neg hr0])
              have HR0 := Lib.hid (show chkV (rsn ls a) = .iface 196 (.int .i64 (rsn ls a)) by unfold chkV; rw [if_neg hr0])
              clear hst hr0
              go_wp2_with (go_at_call 160; rw [HL.out] at CK; refine (CK.out _ (by repeat (first | exact Below.refl _ _ | refine Below.alloc ?_ (by simp <;> omega) _))).mono ?_; rw [HR0.out]; rintro e w5 ⟨rfl, hb⟩; have HB5 := Lib.hid (HB3.out.trans ((HBr.out.trans (hb.mono hsr)).mono (by omega))); clear hb)
              go_ret
              exact ⟨by rw [HV.out, HF2.out]; rfl, HB5.out⟩
          · have HF2 := Lib.hid (show pV (bodyF ls d) = .nilIface by rw [HF.out, HE.out, firstR_none (by rw [HNl.out]; omega)]; rfl)
            have HB5 := Lib.hid (HB3.out.trans (HBr.out.mono (by omega)))
            clear hS3
            go_wp2
            go_ret
            exact ⟨by rw [HV.out, HF2.out]; rfl, HB5.out⟩
end Go.Proofs.YtdgcpaeneafejaaGreatDoor

namespace Go.Proofs.YtdgcpaeneafejaaGreatDoor
open Go.RowKit Go.Maps
theorem name_bytes (a b : ByteArray) : (a.toList == b.toList) = decide (a.data.toList = b.data.toList) := by
  rw [ByteArray.toList_eq, ByteArray.toList_eq]
  rw [Bool.eq_iff_iff, beq_iff_eq, decide_eq_true_iff]
def kS (s : ByteArray) : Lit := .string s.data.toList
theorem kS_key (s : ByteArray) : WideAt.IsKeyLit (kS s) := trivial
theorem kS_ne {a b : ByteArray} (h : (a.toList == b.toList) = false) : kS a ≠ kS b := by
  rw [name_bytes] at h
  intro e
  unfold kS at e
  injection e with e
  rw [e] at h; simp at h
theorem kS_eq {a b : ByteArray} (h : (a.toList == b.toList) = true) : kS a = kS b := by
  rw [name_bytes] at h
  unfold kS
  rw [of_decide_eq_true h]
/-- The map holds the names of a list of definitions. -/
def Named (D : DataW Unit) (l : List Df) : Prop := ∀ q : Df, D.atKey (kS q.nm) (.lit (.bool false)) = .lit (.bool (!(l.all fun d => !(sameN d q))))
theorem Named.nil : Named (.map []) [] := fun _ => rfl
theorem Named.snoc {D : DataW Unit} {l : List Df} (h : Named D l) (ht : Maps.IsMap D) (d : Df) : Named (D.put (kS d.nm) (.lit (.bool true))) (l ++ [d]) := by
  intro q
  rw [List.all_append, List.all_cons, List.all_nil, Bool.and_true]
  rcases e : sameN d q with _ | _
  · rw [Maps.atKey_put_other (fun e2 => kS_ne e e2.symm), h q]; simp
  · rw [← kS_eq e, Maps.atKey_put_same ht (kS_key _)]; simp
theorem plainElem_bool_inv {H : Type} {P : Program} {e : TypeId} (he : P.underlying e = some .bool) {v : Value} {z : DataW H × List MemPlace} (h : plainElem P e v = some z) : ∃ a, v = .bool a ∧ z = (.lit (.bool a), []) := by
  unfold plainElem at h
  rw [he] at h
  cases v <;> simp at h
  subst h
  exact ⟨_, rfl, rfl⟩
theorem lookup_bool {H : Type} {P : Program} {k e t : TypeId} {w : World} {b n : Nat} {D : DataW H} (h : w.ownsMap P k (plainElem P e) b n D) (K : Keyed P k) (ht : P.underlying t = some (.map k e)) (he : P.underlying e = some .bool) (hz : (zeroValue e).run P w = .ok (.bool false) w)
    {key : Value} {kl : Lit} (hkey : keyOf P k key = some kl) {x : Bool} (hx : D.atKey kl (.lit (.bool false)) = .lit (.bool x)) : (Instr.lookup t (.map (some b)) key false).run P w = .ok (.bool x) w := by
  obtain ⟨v, ps, hrun, hv⟩ := h.lookup K ht hz (plainElem_bool he false) hkey
  obtain ⟨c, rfl, hc⟩ := plainElem_bool_inv he hv
  simp only [Prod.mk.injEq] at hc
  rw [hx] at hc
  have := hc.1
  simp only [DataW.lit.injEq, Lit.bool.injEq] at this
  rw [this]; exact hrun
theorem owns_below {H : Type} {P : Program} {k : TypeId} {R : Value → Option (DataW H × List MemPlace)} {w w' : World} {b n : Nat} {D : DataW H} (h : w.ownsMap P k R b n D) (hb : Below w.heap.size w w') : w'.ownsMap P k R b n D :=
  h.kept (row := none) ⟨hb.os, hb.tape, hb.output, hb.size, fun k hk _ => hb.block k hk⟩ (by simp)
theorem zeroB (w : World) : (zeroValue 4).run Tryz.prog w = .ok (.bool false) w := by kernel_rfl
theorem ckV_yes {ls : List Df} {i : Nat} {d : Df} (h4 : ls.length ≤ 4) (hd : ls[i]? = some d) (hp : ls.all psB = true) (hb : (bodyF ls d).2 = 0) : ckV ls i = .nilIface := by
  have hi := (List.getElem?_eq_some_iff.1 hd).1
  unfold ckV idxB
  rw [if_neg (by omega), if_neg (by simp; exact hi), if_neg (by rw [hp]; simp), List.getD_eq_getElem?_getD, Int.toNat_natCast, hd]
  show pV (bodyF ls d) = _
  unfold pV; rw [if_pos hb]
theorem ckV_no {ls : List Df} {i : Nat} {d : Df} (h4 : ls.length ≤ 4) (hd : ls[i]? = some d) (hp : ls.all psB = true) (hb : (bodyF ls d).2 ≠ 0) : ckV ls i = .iface 198 (.agg #[.iface 196 (.int .i64 (bodyF ls d).2), .int .i64 (bodyF ls d).1]) := by
  have hi := (List.getElem?_eq_some_iff.1 hd).1
  unfold ckV idxB
  rw [if_neg (by omega), if_neg (by simp; exact hi), if_neg (by rw [hp]; simp), List.getD_eq_getElem?_getD, Int.toNat_natCast, hd]
  show pV (bodyF ls d) = _
  unfold pV; rw [if_neg hb]
theorem ckV_ps {ls : List Df} {i : Nat} {d : Df} (h4 : ls.length ≤ 4) (hd : ls[i]? = some d) (hp : ls.all psB = false) : ckV ls i = .iface 195 (.int .i64 2) := by
  have hi := (List.getElem?_eq_some_iff.1 hd).1
  unfold ckV idxB
  rw [if_neg (by omega), if_neg (by simp; exact hi), if_pos hp]
theorem hdB_ps {d : Df} : hdB d = (nameB d.nm.data.toList && psB d) := by
  unfold hdB psB
  rw [show decide (0 ≤ d.ps ∧ d.ps ≤ 3) = (decide (0 ≤ d.ps) && decide (d.ps ≤ 3)) by simp]
theorem all_hdB (ls : List Df) : ls.all hdB = (ls.all (fun d => nameB d.nm.data.toList) && ls.all psB) := by
  induction ls with
  | nil => rfl
  | cons d l ih => rw [List.all_cons, List.all_cons, List.all_cons, ih, hdB_ps]; cases nameB d.nm.data.toList <;> cases psB d <;> simp
theorem sameN_some {l : List Df} {q : Df} (h : (l.all fun d => !(sameN d q)) = false) : ∃ (j : Nat) (d : Df), l[j]? = some d ∧ sameN d q = true := by
  rw [Bool.eq_false_iff] at h
  apply Classical.byContradiction
  intro hn
  refine h (List.all_eq_true.2 fun d hd => ?_)
  obtain ⟨j, hj⟩ := List.mem_iff_getElem?.1 hd
  rcases e : sameN d q with _ | _
  · rfl
  · exact absurd ⟨j, d, hj, e⟩ hn
set_option maxRecDepth 100000 in
set_option maxHeartbeats 8000000 in
theorem implDefs_any (A : Option Addr) (c : Nat) (ls : List Df) (w : World) (S : Nat → Prop) (h : LRow dfR w S A ls) (hS : ∀ b, S b → b < w.heap.size) (hok : okList okDf ls) (ht : FormTab w) :
    Calls Tryz.prog 117 #[.slice A ls.length c] w fun e w' => e = .returned (.bool (vdB ls)) ∧ Below w.heap.size w w' := by
  by_cases h1 : ls.length < 1
  · have HF := Lib.hid (show vdB ls = false by unfold vdB; rw [decide_eq_false (by omega)]; rfl)
    have h1i : (ls.length : Int) < 1 := by omega
    have hl := hok.1
    clear h hS hok ht
    go_enter Tryz.func117, Tryz.ntmps117
    go_wp2
    go_ret
    exact ⟨ret_bool HF.out.symm, by first | exact Below.refl _ _ | exact (Below.refl _ _).drew⟩
  by_cases h4 : 4 < ls.length
  · have HF := Lib.hid (show vdB ls = false by unfold vdB; rw [decide_eq_false (by omega)]; rfl)
    have h1i : ¬ (ls.length : Int) < 1 := by omega
    have h4i : (4 : Int) < (ls.length : Int) := by omega
    have hl := hok.1
    clear h hS hok ht
    go_enter Tryz.func117, Tryz.ntmps117
    go_wp2
    go_ret
    exact ⟨ret_bool HF.out.symm, by first | exact Below.refl _ _ | exact (Below.refl _ _).drew⟩
  have h1i : ¬ (ls.length : Int) < 1 := by omega
  have h4i : ¬ (4 : Int) < (ls.length : Int) := by omega
  have hn4 : ls.length ≤ 4 := by omega
  have HV := Lib.hid (show vdB ls = (ls.all hdB && (diffB ls && ls.all fun d => (bodyF ls d).2 == 0)) by unfold vdB; rw [decide_eq_true (by omega), headB_eq]; rfl)
  have hmm := @run_makeMap Tryz.prog
  have law := string_keyed Tryz.underlying9
  have HR := Lib.hid h
  have HS := Lib.hid hS
  have HOK := Lib.hid hok
  have HT := Lib.hid ht
  have CB := Lib.hid (fun (i : Nat) (W : World) (hW : Below w.heap.size w W) => Calls.mono (implBody_any A c ls i W S (h.keep (SameOn.of_below hW hS)) (fun b hb => Nat.lt_of_lt_of_le (hS b hb) hW.size) hok (ht.below hW)) (fun e w' ⟨he, hb⟩ => (⟨he, hb⟩ : e = Ending.returned (ckV ls i) ∧ Below W.heap.size W w')))
  have h4' := hn4
  clear h hS hok ht
  generalize hL : ls.length = n at *
  have HL := Lib.hid hL
  clear hL
  go_enter Tryz.func117, Tryz.ntmps117
  go_wp2
  have hm0 : (w.alloc (.map #[] 0)).ownsMap Tryz.prog 9 (plainElem (H := Unit) Tryz.prog 4) w.heap.size 0 (.map []) := World.ownsMap_made w _ _ _
  go_loopw [17] (fun iv wr => ∃ (i : Nat) (Dm : DataW Unit), i ≤ n ∧ iv = .int .i64 i ∧ Hid (Below w.heap.size w wr) ∧ Hid (Named Dm (ls.take i)) ∧ Hid (wr.ownsMap Tryz.prog 9 (plainElem (H := Unit) Tryz.prog 4) w.heap.size i Dm) ∧ Hid ((ls.take i).all (fun d => nameB d.nm.data.toList) = true) ∧ Hid (i = 0 ∨ ls.all psB = true) ∧ Hid (diffB (ls.take i) = true) ∧ Hid (((ls.take i).all fun d => (bodyF ls d).2 == 0) = true)) (fun iv _ => n - (intOf iv).toNat)
  case atStart => exact ⟨0, _, Nat.zero_le _, rfl, Lib.hid (by repeat (first | exact Below.refl _ _ | refine Below.alloc ?_ (by simp <;> omega) _)), Lib.hid Named.nil, Lib.hid hm0, Lib.hid rfl, Lib.hid (.inl rfl), Lib.hid rfl, Lib.hid rfl⟩
  case round =>
    obtain ⟨i, Dm, hi, rfl, HB, HM, HO, HN, HP, HD, HE⟩ := hrel
    have hsz := HB.out.size
    clear hm0 hmm
    by_cases hlt : i < n
    · obtain ⟨b0, o0, cs0, d, rfl, hb0, hR0, hd, hc0⟩ := (HR.out.keep (SameOn.of_below HB.out HS.out)).at_ (k := i) (by rw [HL.out]; exact hlt)
      obtain ⟨B, cb, rfl, hnz, _, _, _⟩ := hR0
      have z0 : wr.cell? ⟨b0, o0 + i * 3, none⟩ = some (.string d.nm) := hc0 0 _ rfl
      have z1 : wr.cell? ⟨b0, o0 + i * 3 + 1, none⟩ = some (.int .i64 d.ps) := hc0 1 _ rfl
      have z2 : wr.cell? ⟨b0, o0 + i * 3 + 2, none⟩ = some (.slice B d.body.length cb) := hc0 2 _ rfl
      have l0 : b0 < wr.heap.size := World.block_lt_of_cell? wr _ z0
      have hkey : keyOf Tryz.prog 9 (.string d.nm) = some (kS d.nm) := WideMaps.keyOf_string_mk Tryz.underlying9 hnz
      have HKEY := Lib.hid hkey
      clear hc0 hkey
      rcases tn : nameB d.nm.data.toList with _ | _
      · have HF := Lib.hid (show vdB ls = false by rw [HV.out, all_bad (p := hdB) hd.out (by rw [hdB_ps, tn]; rfl)]; rfl)
        have TN := Lib.hid tn
        clear tn
        go_wp2_with (go_at_call 74; refine (implName_any _ _).mono ?_; rw [TN.out]; rintro e w2 ⟨rfl, hb⟩; have HB2 := Lib.hid (Below.trans (b := wr.alloc _) (HB.out.alloc hsz _) (hb.mono (by simp; omega))); clear hb)
        go_ret
        exact ⟨ret_bool HF.out.symm, HB2.out⟩
      have HN2 := Lib.hid (take_all (p := fun d => nameB d.nm.data.toList) HN.out hd.out tn)
      have TN := Lib.hid tn
      clear tn
      rcases ts : (ls.take i).all (fun x => !(sameN x d)) with _ | _
      · have HF := Lib.hid (show vdB ls = false by
          obtain ⟨j, q, hq, he⟩ := sameN_some ts
          have hji := (List.getElem?_eq_some_iff.1 hq).1
          rw [List.length_take] at hji
          rw [List.getElem?_take, if_pos (by omega)] at hq
          rw [HV.out, diffB_bad (by omega) hd.out hq he]; simp)
        have HX := Lib.hid (show Dm.atKey (kS d.nm) (.lit (.bool false)) = .lit (.bool true) by rw [HM.out d, ts]; rfl)
        clear ts
        go_wp2_with (go_at_call 74; refine (implName_any _ _).mono ?_; rw [TN.out]; rintro e w2 ⟨rfl, hb⟩; have HB2 := Lib.hid (Below.trans (b := wr.alloc _) (HB.out.alloc hsz _) (hb.mono (by simp; omega))); have hlk := lookup_bool (owns_below (HO.out.alloc _) hb) law Tryz.underlying170 Tryz.underlying4 (zeroB _) HKEY.out HX.out; have k0 := (hb.cell (p := ⟨wr.heap.size, 0, none⟩) (by simp)).trans (show _ = some (.string d.nm) by simp [go_sem]); have lk : wr.heap.size < w2.heap.size := World.block_lt_of_cell? w2 _ k0; clear hb)
        go_ret
        exact ⟨ret_bool HF.out.symm, HB2.out⟩
      have HX := Lib.hid (show Dm.atKey (kS d.nm) (.lit (.bool false)) = .lit (.bool false) by rw [HM.out d, ts]; rfl)
      have HD2 := Lib.hid (diffB_take HD.out hd.out ts)
      rcases tp : ls.all psB with _ | _
      · have HF := Lib.hid (show vdB ls = false by rw [HV.out, all_hdB, tp]; simp)
        have HC := Lib.hid (ckV_ps (by rw [HL.out]; exact hn4) hd.out tp)
        clear tp
        clear ts
        go_wp2_with (first | (go_at_call 74; refine (implName_any _ _).mono ?_; rw [TN.out]; rintro e w2 ⟨rfl, hb⟩; have HB2 := Lib.hid (Below.trans (b := wr.alloc _) (HB.out.alloc hsz _) (hb.mono (by simp; omega))); have hlk := lookup_bool (owns_below (HO.out.alloc _) hb) law Tryz.underlying170 Tryz.underlying4 (zeroB _) HKEY.out HX.out; have k0 := (hb.cell (p := ⟨wr.heap.size, 0, none⟩) (by simp)).trans (show _ = some (.string d.nm) by simp [go_sem]); have lk : wr.heap.size < w2.heap.size := World.block_lt_of_cell? w2 _ k0; have HO2 := Lib.hid (owns_below (HO.out.alloc _) hb); clear hb) | (go_at_call 135; refine (CB.out i _ HB2.out).mono ?_; rw [HC.out]; rintro e w3 ⟨rfl, hb⟩; have HB3 := Lib.hid (HB2.out.trans (hb.mono (HB2.out.size))); clear hb))
        go_ret
        exact ⟨ret_bool HF.out.symm, HB3.out⟩
      by_cases hz : (bodyF ls d).2 = 0
      rotate_left
      · have HF := Lib.hid (show vdB ls = false by rw [HV.out, all_bad (p := fun d => (bodyF ls d).2 == 0) hd.out (ib_ne hz)]; simp)
        have HC := Lib.hid (ckV_no (by rw [HL.out]; exact hn4) hd.out tp hz)
        clear tp hz
        clear ts
        go_wp2_with (first | (go_at_call 74; refine (implName_any _ _).mono ?_; rw [TN.out]; rintro e w2 ⟨rfl, hb⟩; have HB2 := Lib.hid (Below.trans (b := wr.alloc _) (HB.out.alloc hsz _) (hb.mono (by simp; omega))); have hlk := lookup_bool (owns_below (HO.out.alloc _) hb) law Tryz.underlying170 Tryz.underlying4 (zeroB _) HKEY.out HX.out; have k0 := (hb.cell (p := ⟨wr.heap.size, 0, none⟩) (by simp)).trans (show _ = some (.string d.nm) by simp [go_sem]); have lk : wr.heap.size < w2.heap.size := World.block_lt_of_cell? w2 _ k0; have HO2 := Lib.hid (owns_below (HO.out.alloc _) hb); clear hb) | (go_at_call 135; refine (CB.out i _ HB2.out).mono ?_; rw [HC.out]; rintro e w3 ⟨rfl, hb⟩; have HB3 := Lib.hid (HB2.out.trans (hb.mono (HB2.out.size))); clear hb))
        go_ret
        exact ⟨ret_bool HF.out.symm, HB3.out⟩
      have HE2 := Lib.hid (take_all (p := fun d => (bodyF ls d).2 == 0) HE.out hd.out (ib_eq hz))
      have HC := Lib.hid (ckV_yes (by rw [HL.out]; exact hn4) hd.out tp hz)
      have HP2 := Lib.hid tp
      have hin : i < maxLen := by unfold maxLen; omega
      have HT2 := Lib.hid HO.out.isMap
      clear tp hz ts
      go_wp2_with (first | (go_at_call 74; refine (implName_any _ _).mono ?_; rw [TN.out]; rintro e w2 ⟨rfl, hb⟩; have HB2 := Lib.hid (Below.trans (b := wr.alloc _) (HB.out.alloc hsz _) (hb.mono (by simp; omega))); have hlk := lookup_bool (owns_below (HO.out.alloc _) hb) law Tryz.underlying170 Tryz.underlying4 (zeroB _) HKEY.out HX.out; have k0 := (hb.cell (p := ⟨wr.heap.size, 0, none⟩) (by simp)).trans (show _ = some (.string d.nm) by simp [go_sem]); have lk : wr.heap.size < w2.heap.size := World.block_lt_of_cell? w2 _ k0; have HO2 := Lib.hid (owns_below (HO.out.alloc _) hb); clear hb) | (go_at_call 135; refine (CB.out i _ HB2.out).mono ?_; rw [HC.out]; rintro e w3 ⟨rfl, hb⟩; have HB3 := Lib.hid (HB2.out.trans (hb.mono (HB2.out.size))); have k0 := (hb.cell (p := ⟨wr.heap.size, 0, none⟩) lk).trans k0; have lk3 : wr.heap.size < w3.heap.size := World.block_lt_of_cell? w3 _ k0; have HO3 := Lib.hid (owns_below HO2.out hb); clear hlk; clear hb) | (at_mapUpdate; refine wpList_mapUpdate_own _ rfl _ _ _ 170 rfl 9 4 law Tryz.underlying170 _ w.heap.size i Dm rfl HO3.out hin _ _ (kS d.nm) rfl rfl HKEY.out _ [] (plainElem_bool Tryz.underlying4 true) ?_; intro w4 hmap4 hg4; have HM4 := Lib.hid hmap4; have HG4 := Lib.hid hg4; clear hmap4 hg4))
      go_roundw
      case rel => exact ⟨i + 1, _, by omega, by go_num, Lib.hid (HB3.out.grown HG4.out HB3.out.size (fun j hj => by cases hj; exact Nat.le_refl _)), Lib.hid (by rw [take_one _ _ _ hd.out]; exact HM.out.snoc HT2.out d), HM4, HN2, Lib.hid (by first | exact Or.inr HP2.out | exact Or.inr trivial), HD2, HE2⟩
      case measure => simp [intOf]; omega
    · have hin : i = n := by omega
      have HF := Lib.hid (show vdB ls = true by
        have e1 := HN.out
        have e2 := HD.out
        have e3 := HE.out
        rw [List.take_of_length_le (by rw [HL.out]; omega)] at e1 e2 e3
        have e4 : ls.all psB = true := by
          rcases HP.out with h | h
          · omega
          · exact h
        rw [HV.out, all_hdB, e1, e2, e3, e4]; rfl)
      go_wp2
      go_ret
      exact ⟨ret_bool HF.out.symm, HB.out⟩
end Go.Proofs.YtdgcpaeneafejaaGreatDoor
