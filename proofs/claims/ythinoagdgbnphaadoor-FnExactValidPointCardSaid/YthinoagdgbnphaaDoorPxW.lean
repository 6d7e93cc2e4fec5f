/- Bodies and definitions: the model's functions. -/
import Derived.Test.YthinoagdgbnphaaDoorPxV
namespace Go.Proofs.YthinoagdgbnphaaDoor
open Go.RowKit
set_option maxRecDepth 100000 in
set_option maxHeartbeats 4000000 in
theorem specBody_any (A : Option Addr) (n c : Nat) (ls : List Df) (bd od : Nat) (d : Df) (B : Option Addr) (cb : Nat) (w : World) (S : Nat → Prop) (h : LRow dfR w S A ls) (l : ls.length = n) (hn : n ≤ 4) (c1 : w.cell? ⟨bd, od + 1, none⟩ = some (.int .i64 d.ps)) (c2 : w.cell? ⟨bd, od + 2, none⟩ = some (.slice B d.body.length cb)) (hbd : bd < w.heap.size) (g : LRow ptR w S B d.body) (hS : ∀ b, S b → b < w.heap.size) (p0 : 0 ≤ d.ps) (p3 : d.ps ≤ 3) (hok : okList okPt d.body) :
    Calls Tryd.prog 25 #[.slice A n c, .pointer (some ⟨bd, od, none⟩)] w fun e w' => e = .returned (.tuple #[.int .i64 (bodyF ls d).1, .int .i64 (bodyF ls d).2]) ∧ Below w.heap.size w w' := by
  have CH := Lib.hid (specShape_any B d.body.length cb d.body w S g rfl)
  rcases sh : shapeB d.body with _ | _
  · have HF := Lib.hid (show bodyF ls d = (0, 1) by unfold bodyF; rw [if_neg (by rw [sh]; simp)])
    rw [sh] at CH
    clear sh h g
    go_enter Tryd.func25, Tryd.ntmps25
    go_wp2_with (go_at_call 39; refine CH.out.mono ?_; rintro e w1 ⟨rfl, hd⟩; have HB := Lib.hid (hd.below w.heap.size); clear hd)
    go_ret2
    exact ⟨by rw [HF.out]; rfl, HB.out⟩
  have HBF := Lib.hid (show bodyF ls d = firstR ls (annOf d) 0 by unfold bodyF; rw [if_pos sh])
  rw [sh] at CH
  have SH := Lib.hid sh
  have h20 : d.body.length ≤ 20 := by have := (pxOf_ok sh).2.2; rw [← Px.flat_len, (pxOf_ok sh).1] at this; exact this
  have HAL := Lib.hid (annOf_len sh)
  have HL := Lib.hid h
  have HG := Lib.hid g
  have HS := Lib.hid hS
  have HOK := Lib.hid hok.2
  have LL := Lib.hid l
  clear sh h g hS hok l
  go_enter Tryd.func25, Tryd.ntmps25
  go_wp2_with (go_at_call 39; refine CH.out.mono ?_; rintro e w1 ⟨rfl, hd⟩; have HB := Lib.hid (hd.below w.heap.size); clear hd)
  have C1 : w1.cell? ⟨bd, od + 1, none⟩ = some (.int .i64 d.ps) := (HB.out.cell (p := ⟨bd, od + 1, none⟩) hbd).trans c1
  have C2 : w1.cell? ⟨bd, od + 2, none⟩ = some (.slice B d.body.length cb) := (HB.out.cell (p := ⟨bd, od + 2, none⟩) hbd).trans c2
  go_loopw [6, 7] (fun i _ wr => ∃ k : Nat, k ≤ d.body.length ∧ i = .int .i64 k ∧ Hid (Below w.heap.size w wr) ∧ Hid (bodyF ls d = firstR ls ((annOf d).drop k) k)) (fun i _ _ => d.body.length - (intOf i).toNat)
  case atStart => exact ⟨0, Nat.zero_le _, rfl, HB, Lib.hid (by rw [HBF.out, List.drop_zero]; rfl)⟩
  case round =>
    clear C1 C2 HB
    obtain ⟨k, hk, rfl, HB, HE⟩ := hrel
    have C1 : wr.cell? ⟨bd, od + 1, none⟩ = some (.int .i64 d.ps) := (HB.out.cell (p := ⟨bd, od + 1, none⟩) hbd).trans c1
    have C2 : wr.cell? ⟨bd, od + 2, none⟩ = some (.slice B d.body.length cb) := (HB.out.cell (p := ⟨bd, od + 2, none⟩) hbd).trans c2
    by_cases hlt : k < d.body.length
    · obtain ⟨a, ha⟩ : ∃ a, (annOf d)[k]? = some a := ⟨_, List.getElem?_eq_getElem (by rw [HAL.out]; exact hlt)⟩
      have hpa := annOf_part SH.out ha
      have hst := HE.out.trans (firstR_drop (ls := ls) (k : Int) ha)
      have CRr := specReason_any A n c ls bd od d B cb k a wr S (HL.out.keep (SameOn.of_below HB.out HS.out)) LL.out hn C1 C2 (Nat.lt_of_lt_of_le hbd HB.out.size) (HG.out.keep (SameOn.of_below HB.out HS.out)) (fun b hb => Nat.lt_of_lt_of_le (HS.out b hb) HB.out.size) SH.out p0 p3 ha (HOK.out a.p (List.mem_of_getElem? hpa))
      have hr0 := rsn_nonneg ls a
      obtain ⟨r, hr⟩ : ∃ r, r = rsn ls a := ⟨_, rfl⟩
      rw [← hr] at hst CRr hr0
      have C := Lib.hid CRr
      clear CRr hr ha hpa
      by_cases hz : r = 0
      · rw [if_pos hz] at hst
        have HN := Lib.hid (show bodyF ls d = firstR ls ((annOf d).drop (k + 1)) ((k + 1 : Nat) : Int) by rw [hst]; rfl)
        have hg : ¬ (0 : Int) < r := by omega
        clear hst hz
        go_wp2_with (go_at_call 40; refine C.out.mono ?_; rintro e w2 ⟨rfl, hb⟩; have HB2 := Lib.hid (HB.out.trans (hb.mono HB.out.size)); clear hb)
        go_roundw
        case rel => exact ⟨k + 1, by omega, by go_num, HB2, HN⟩
        case measure => simp [intOf]; omega
      · rw [if_neg hz] at hst
        have HF := Lib.hid hst
        have hg : (0 : Int) < r := by omega
        clear hst hz
        go_wp2_with (go_at_call 40; refine C.out.mono ?_; rintro e w2 ⟨rfl, hb⟩; have HB2 := Lib.hid (HB.out.trans (hb.mono HB.out.size)); clear hb)
        go_ret2
        exact ⟨by rw [HF.out]; rfl, HB2.out⟩
    · have HF := Lib.hid (show bodyF ls d = (0, 0) by rw [HE.out, List.drop_of_length_le (by rw [HAL.out]; omega)]; rfl)
      go_wp2
      go_ret2
      exact ⟨by rw [HF.out]; rfl, HB.out⟩
end Go.Proofs.YthinoagdgbnphaaDoor
