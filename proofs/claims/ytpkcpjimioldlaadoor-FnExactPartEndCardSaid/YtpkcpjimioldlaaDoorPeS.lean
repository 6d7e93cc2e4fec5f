/- What is asked of definitions, one of them and a part of it: the model. -/
import Derived.Test.YtpkcpjimioldlaaDoorPeM
import Derived.Test.YtpkcpjimioldlaaDoorL00
namespace Go.Proofs.YtpkcpjimioldlaaDoor
open Go.RowKit
set_option maxRecDepth 100000 in
set_option maxHeartbeats 2000000 in
theorem specAsk_any (A : Option Addr) (n c : Nat) (ls : List Df) (k part : Int) (w : World) (S : Nat → Prop) (h : LRow dfR w S A ls) (l : ls.length = n) (hS : ∀ b, S b → b < w.heap.size) (hok : okList okDf ls) :
    Calls Tryd.prog 21 #[.slice A n c, .int .i64 k, .int .i64 part] w fun e w' => e = .returned (.int .i64 (askC ls k part)) ∧ Below w.heap.size w w' := by
  subst l
  have CD := Lib.hid (specDefs_any A _ c ls w S h rfl hS hok)
  rcases tv : vdB ls with _ | _
  · have HF := Lib.hid (askC_inv (k := k) (part := part) tv)
    have TV := Lib.hid tv
    clear h hS hok tv
    go_enter Tryd.func21, Tryd.ntmps21
    go_wp2_with (go_at_call 16; refine CD.out.mono ?_; rw [TV.out]; rintro e w2 ⟨rfl, hb⟩; have HB := Lib.hid hb; clear hb)
    go_ret
    exact ⟨by rw [HF.out]; rfl, HB.out⟩
  have TV := Lib.hid tv
  rcases tk : idxB k ls.length with _ | _
  · have HF := Lib.hid (askC_k (part := part) tv tk)
    have hk := idxB_no tk
    have C0 := Lib.hid (fun (W : World) => l00In_no k 0 ((ls.length : Int) - 1) hk W)
    have hl4 : ls.length ≤ 4 := by
      have h := tv
      unfold vdB at h
      rw [Bool.and_eq_true] at h
      exact (of_decide_eq_true h.1).2
    clear h hS hok tv tk
    go_enter Tryd.func21, Tryd.ntmps21
    go_wp2_with (first | (go_at_call 16; refine CD.out.mono ?_; rw [TV.out]; rintro e w2 ⟨rfl, hb⟩; have HB := Lib.hid hb; clear hb) | (go_at_call 27; refine (C0.out _).mono ?_; rintro e w3 ⟨rfl, rfl⟩))
    go_ret
    exact ⟨by rw [HF.out]; rfl, HB.out⟩
  obtain ⟨j, rfl, hj⟩ := idxB_yes tk
  clear tk
  have HOK := Lib.hid hok
  obtain ⟨b0, o0, cs0, d, rfl, hb0, hR0, hd, hc0⟩ := h.at_ (k := j) hj
  obtain ⟨B, cb, rfl, _, _, _, hrb⟩ := hR0
  have z0 : w.cell? ⟨b0, o0 + j * 3, none⟩ = some (.string d.nm) := hc0 0 _ rfl
  have z1 : w.cell? ⟨b0, o0 + j * 3 + 1, none⟩ = some (.int .i64 d.ps) := hc0 1 _ rfl
  have z2 : w.cell? ⟨b0, o0 + j * 3 + 2, none⟩ = some (.slice B d.body.length cb) := hc0 2 _ rfl
  have l0 : b0 < w.heap.size := World.block_lt_of_cell? w _ z0
  obtain ⟨hl4, hp0, hp3, hsh⟩ := vdB_parts tv hd.out
  have h20 := (pxOf_ok hsh).2.2
  rw [← Px.flat_len, (pxOf_ok hsh).1] at h20
  have C1 := Lib.hid (fun (W : World) => l00In_yes j 0 ((ls.length : Int) - 1) ⟨by omega, by omega⟩ W)
  rcases tp : idxB part d.body.length with _ | _
  · have HF := Lib.hid (askC_p tv hd.out tp)
    have C2 := Lib.hid (fun (W : World) => l00In_no part 0 ((d.body.length : Int) - 1) (idxB_no tp) W)
    clear h hS hok tv tp hc0 hd hrb hsh
    go_enter Tryd.func21, Tryd.ntmps21
    go_wp2_with (first | (go_at_call 16; refine CD.out.mono ?_; rw [TV.out]; rintro e w2 ⟨rfl, hb⟩; have HB := Lib.hid hb; have y0 := (hb.cell (p := ⟨b0, o0 + j * 3, none⟩) l0).trans z0; have y1 := (hb.cell (p := ⟨b0, o0 + j * 3 + 1, none⟩) l0).trans z1; have y2 := (hb.cell (p := ⟨b0, o0 + j * 3 + 2, none⟩) l0).trans z2; have ll := Nat.lt_of_lt_of_le l0 hb.size; clear hb) | (go_at_call 27; (first | (with_reducible refine (C1.out _).mono ?_) | (with_reducible refine (C2.out _).mono ?_)); rintro e w3 ⟨rfl, rfl⟩))
    go_ret
    exact ⟨by rw [HF.out]; rfl, HB.out⟩
  · obtain ⟨i, rfl, hi⟩ := idxB_yes tp
    have HF := Lib.hid (askC_ok tv hd.out hi)
    have C2 := Lib.hid (fun (W : World) => l00In_yes i 0 ((d.body.length : Int) - 1) ⟨by omega, by omega⟩ W)
    clear h hS hok tv tp hc0 hd hrb hsh
    go_enter Tryd.func21, Tryd.ntmps21
    go_wp2_with (first | (go_at_call 16; refine CD.out.mono ?_; rw [TV.out]; rintro e w2 ⟨rfl, hb⟩; have HB := Lib.hid hb; have y0 := (hb.cell (p := ⟨b0, o0 + j * 3, none⟩) l0).trans z0; have y1 := (hb.cell (p := ⟨b0, o0 + j * 3 + 1, none⟩) l0).trans z1; have y2 := (hb.cell (p := ⟨b0, o0 + j * 3 + 2, none⟩) l0).trans z2; have ll := Nat.lt_of_lt_of_le l0 hb.size; clear hb) | (go_at_call 27; (first | (with_reducible refine (C1.out _).mono ?_) | (with_reducible refine (C2.out _).mono ?_)); rintro e w3 ⟨rfl, rfl⟩))
    go_ret
    exact ⟨by rw [HF.out]; rfl, HB.out⟩
end Go.Proofs.YtpkcpjimioldlaaDoor
