/- The model's copy of a system. -/
import Derived.BigQuiet
import Derived.Outline
import Derived.Deep.Cut
import Derived.Test.YtdgcpaeneafejaaGreatDoorOwP
namespace Go.Proofs.YtdgcpaeneafejaaGreatDoor
open Go.RowKit
/-- A box of the call's own. -/
def BoxAt (b : Nat) (vs : List Value) (W : World) : Prop := b < W.heap.size ∧ ∀ j v, vs[j]? = some v → W.cell? ⟨b, j, none⟩ = some v ∧ W.frozen? ⟨b, j, none⟩ = false
theorem BoxAt.blk {b : Nat} {vs : List Value} {W W' : World} (h : BoxAt b vs W) (hb : W'.heap[b]? = W.heap[b]?) (hs : W.heap.size ≤ W'.heap.size) : BoxAt b vs W' :=
  ⟨by have := h.1; omega, fun j v hj => ⟨(World.cell?_of_block hb).trans (h.2 j v hj).1, (World.frozen?_of_block hb).trans (h.2 j v hj).2⟩⟩
theorem BoxAt.nb {b : Nat} {vs : List Value} {W W' : World} (h : BoxAt b vs W) (hb : Below W.heap.size W W') : BoxAt b vs W' := h.blk (hb.block b h.1) hb.size
theorem BoxAt.other {b c i : Nat} {vs : List Value} {W : World} {u : Value} (h : BoxAt b vs W) (hne : b ≠ c) : BoxAt b vs (W.setCell ⟨c, i, none⟩ u) :=
  h.blk (heap_setCell_other W ⟨c, i, none⟩ b u hne) (by simp [World.setCell])
theorem BoxAt.alloc_new (W : World) (cs : List Value) (T : TypeId) : BoxAt W.heap.size cs (W.alloc (.cells cs.toArray T)) :=
  ⟨by simp, fun j v hj => ⟨by rw [cell_of_row _ _ j _ _ (0, 0) (heap_alloc_new W _)]; simpa using hj, frozen_of_row _ _ j _ _ (heap_alloc_new W _)⟩⟩
theorem BoxAt.set {b i : Nat} {vs : List Value} {W : World} {u : Value} (h : BoxAt b vs W) (hi : i < vs.length) : BoxAt b (vs.set i u) (W.setCell ⟨b, i, none⟩ u) := by
  refine ⟨by have := h.1; simpa [World.setCell] using this, fun j v hj => ?_⟩
  by_cases e : j = i
  · subst e
    rw [List.getElem?_set_self hi] at hj
    injection hj with hj
    subst hj
    obtain ⟨h1, h2⟩ := h.2 j vs[j] (List.getElem?_eq_getElem hi)
    exact ⟨by simp [go_sem, h1], by simpa [go_sem] using h2⟩
  · rw [List.getElem?_set_ne (Ne.symm e)] at hj
    obtain ⟨h1, h2⟩ := h.2 j v hj
    exact ⟨by simp [go_sem, h1], by simpa [go_sem] using h2⟩
set_option maxRecDepth 100000 in
set_option maxHeartbeats 4000000 in
theorem specOwn_any (p : Nat) (s : Sy) (A1 A2 A3 A4 A5 : Option Addr) (c1 c2 c3 c4 c5 : Nat) (w : World) (S : Nat → Prop) (h1 : LRow dfR w S A1 s.ds) (h2 : LRow cpR w S A2 s.cs) (h3 : LRow mtR w S A3 s.ms) (h4 : LRow txtR w S A4 s.al) (h5 : LRow txtR w S A5 s.hd) (hS : ∀ b, S b → b < w.heap.size) (ok : okSy s) (z0 : w.cell? ⟨p, 0, none⟩ = some (.slice A1 s.ds.length c1)) (z1 : w.cell? ⟨p, 1, none⟩ = some (.slice A2 s.cs.length c2)) (z2 : w.cell? ⟨p, 2, none⟩ = some (.slice A3 s.ms.length c3)) (z3 : w.cell? ⟨p, 3, none⟩ = some (.slice A4 s.al.length c4)) (z4 : w.cell? ⟨p, 4, none⟩ = some (.slice A5 s.hd.length c5)) :
    Calls Tryz.prog 54 #[.pointer (some ⟨p, 0, none⟩)] w (MadeRO syO s w) := by
  have hp : p < w.heap.size := World.block_lt_of_cell? w _ z0
  have n1 := ok.1.1
  have n2 := ok.2.1.1
  have n3 := ok.2.2.1.1
  have n4 := ok.2.2.2.1.1
  have n5 := ok.2.2.2.2.1
  have OK := Lib.hid ok
  have H1 := Lib.hid h1
  have H2 := Lib.hid h2
  have H3 := Lib.hid h3
  have H4 := Lib.hid h4
  have H5 := Lib.hid h5
  have HS := Lib.hid hS
  have HP := Lib.hid (fun (W : World) (hW : Below w.heap.size w W) => (⟨(hW.cell (p := ⟨p, 0, none⟩) hp).trans z0, (hW.cell (p := ⟨p, 1, none⟩) hp).trans z1, (hW.cell (p := ⟨p, 2, none⟩) hp).trans z2, (hW.cell (p := ⟨p, 3, none⟩) hp).trans z3, (hW.cell (p := ⟨p, 4, none⟩) hp).trans z4⟩ : W.cell? ⟨p, 0, none⟩ = some (.slice A1 s.ds.length c1) ∧ W.cell? ⟨p, 1, none⟩ = some (.slice A2 s.cs.length c2) ∧ W.cell? ⟨p, 2, none⟩ = some (.slice A3 s.ms.length c3) ∧ W.cell? ⟨p, 3, none⟩ = some (.slice A4 s.al.length c4) ∧ W.cell? ⟨p, 4, none⟩ = some (.slice A5 s.hd.length c5)))
  clear h1 h2 h3 h4 h5 hS ok z0 z1 z2 z3 z4
  have S1 : (w.alloc (.cells #[.slice none 0 0, .slice none 0 0, .slice none 0 0, .slice none 0 0, .slice none 0 0] 35)).heap.size = w.heap.size + 1 := by simp
  have S2 : ((w.alloc (.cells #[.slice none 0 0, .slice none 0 0, .slice none 0 0, .slice none 0 0, .slice none 0 0] 35)).alloc (.cells #[] 88)).heap.size = w.heap.size + 1 + 1 := by simp
  have S3 : (((w.alloc (.cells #[.slice none 0 0, .slice none 0 0, .slice none 0 0, .slice none 0 0, .slice none 0 0] 35)).alloc (.cells #[] 88)).alloc (.cells #[] 45)).heap.size = w.heap.size + 1 + 1 + 1 := by simp
  have S4 : ((((w.alloc (.cells #[.slice none 0 0, .slice none 0 0, .slice none 0 0, .slice none 0 0, .slice none 0 0] 35)).alloc (.cells #[] 88)).alloc (.cells #[] 45)).alloc (.cells #[.slice (some ⟨w.heap.size + 1, 0, none⟩) 0 0, .slice (some ⟨w.heap.size + 1 + 1, 0, none⟩) 0 0, .slice none 0 0, .slice none 0 0, .slice none 0 0] 35)).heap.size = w.heap.size + 1 + 1 + 1 + 1 := by simp
  have hbB : Below ((w.alloc (.cells #[.slice none 0 0, .slice none 0 0, .slice none 0 0, .slice none 0 0, .slice none 0 0] 35)).alloc (.cells #[] 88)).heap.size ((w.alloc (.cells #[.slice none 0 0, .slice none 0 0, .slice none 0 0, .slice none 0 0, .slice none 0 0] 35)).alloc (.cells #[] 88)) (((w.alloc (.cells #[.slice none 0 0, .slice none 0 0, .slice none 0 0, .slice none 0 0, .slice none 0 0] 35)).alloc (.cells #[] 88)).alloc (.cells #[] 45)) := (Below.refl _ _).alloc (Nat.le_refl _) _
  have hbX : Below (((w.alloc (.cells #[.slice none 0 0, .slice none 0 0, .slice none 0 0, .slice none 0 0, .slice none 0 0] 35)).alloc (.cells #[] 88)).alloc (.cells #[] 45)).heap.size (((w.alloc (.cells #[.slice none 0 0, .slice none 0 0, .slice none 0 0, .slice none 0 0, .slice none 0 0] 35)).alloc (.cells #[] 88)).alloc (.cells #[] 45)) ((((w.alloc (.cells #[.slice none 0 0, .slice none 0 0, .slice none 0 0, .slice none 0 0, .slice none 0 0] 35)).alloc (.cells #[] 88)).alloc (.cells #[] 45)).alloc (.cells #[.slice (some ⟨w.heap.size + 1, 0, none⟩) 0 0, .slice (some ⟨w.heap.size + 1 + 1, 0, none⟩) 0 0, .slice none 0 0, .slice none 0 0, .slice none 0 0] 35)) := (Below.refl _ _).alloc (Nat.le_refl _) _
  have hbR : BoxAt w.heap.size [.slice none 0 0, .slice none 0 0, .slice none 0 0, .slice none 0 0, .slice none 0 0] ((((w.alloc (.cells #[.slice none 0 0, .slice none 0 0, .slice none 0 0, .slice none 0 0, .slice none 0 0] 35)).alloc (.cells #[] 88)).alloc (.cells #[] 45)).alloc (.cells #[.slice (some ⟨w.heap.size + 1, 0, none⟩) 0 0, .slice (some ⟨w.heap.size + 1 + 1, 0, none⟩) 0 0, .slice none 0 0, .slice none 0 0, .slice none 0 0] 35)) := (((BoxAt.alloc_new w [.slice none 0 0, .slice none 0 0, .slice none 0 0, .slice none 0 0, .slice none 0 0] 35).nb ((Below.refl _ _).alloc (Nat.le_refl _) (.cells #[] 88))).nb hbB).nb hbX
  have hbx : BoxAt (w.heap.size + 1 + 1 + 1) [.slice (some ⟨w.heap.size + 1, 0, none⟩) 0 0, .slice (some ⟨w.heap.size + 1 + 1, 0, none⟩) 0 0, .slice none 0 0, .slice none 0 0, .slice none 0 0] ((((w.alloc (.cells #[.slice none 0 0, .slice none 0 0, .slice none 0 0, .slice none 0 0, .slice none 0 0] 35)).alloc (.cells #[] 88)).alloc (.cells #[] 45)).alloc (.cells #[.slice (some ⟨w.heap.size + 1, 0, none⟩) 0 0, .slice (some ⟨w.heap.size + 1 + 1, 0, none⟩) 0 0, .slice none 0 0, .slice none 0 0, .slice none 0 0] 35)) := by
    have h := BoxAt.alloc_new (((w.alloc (.cells #[.slice none 0 0, .slice none 0 0, .slice none 0 0, .slice none 0 0, .slice none 0 0] 35)).alloc (.cells #[] 88)).alloc (.cells #[] 45)) [.slice (some ⟨w.heap.size + 1, 0, none⟩) 0 0, .slice (some ⟨w.heap.size + 1 + 1, 0, none⟩) 0 0, .slice none 0 0, .slice none 0 0, .slice none 0 0] 35
    rwa [S3] at h
  have hgD : GrowP dfO 88 ((((w.alloc (.cells #[.slice none 0 0, .slice none 0 0, .slice none 0 0, .slice none 0 0, .slice none 0 0] 35)).alloc (.cells #[] 88)).alloc (.cells #[] 45)).alloc (.cells #[.slice (some ⟨w.heap.size + 1, 0, none⟩) 0 0, .slice (some ⟨w.heap.size + 1 + 1, 0, none⟩) 0 0, .slice none 0 0, .slice none 0 0, .slice none 0 0] 35)) (fun b => w.heap.size + 1 ≤ b ∧ b ≠ w.heap.size + 1 + 1 ∧ b ≠ w.heap.size + 1 + 1 + 1) (.slice (some ⟨w.heap.size + 1, 0, none⟩) 0 0) 0 [] := by
    have h := GrowP.made dfO 88 (w.alloc (.cells #[.slice none 0 0, .slice none 0 0, .slice none 0 0, .slice none 0 0, .slice none 0 0] 35)) (fun b => w.heap.size + 1 ≤ b ∧ b ≠ w.heap.size + 1 + 1 ∧ b ≠ w.heap.size + 1 + 1 + 1) (by rw [S1]; omega)
    rw [S1] at h
    exact (h.nb hbB).nb hbX
  have hgC : GrowP cpO 45 ((((w.alloc (.cells #[.slice none 0 0, .slice none 0 0, .slice none 0 0, .slice none 0 0, .slice none 0 0] 35)).alloc (.cells #[] 88)).alloc (.cells #[] 45)).alloc (.cells #[.slice (some ⟨w.heap.size + 1, 0, none⟩) 0 0, .slice (some ⟨w.heap.size + 1 + 1, 0, none⟩) 0 0, .slice none 0 0, .slice none 0 0, .slice none 0 0] 35)) (fun b => b = w.heap.size + 1 + 1) (.slice (some ⟨w.heap.size + 1 + 1, 0, none⟩) 0 0) 0 [] := by
    have h := GrowP.made cpO 45 ((w.alloc (.cells #[.slice none 0 0, .slice none 0 0, .slice none 0 0, .slice none 0 0, .slice none 0 0] 35)).alloc (.cells #[] 88)) (fun b => b = w.heap.size + 1 + 1) (by rw [S2])
    rw [S2] at h
    exact h.nb hbX
  have hbW : Below w.heap.size w ((((w.alloc (.cells #[.slice none 0 0, .slice none 0 0, .slice none 0 0, .slice none 0 0, .slice none 0 0] 35)).alloc (.cells #[] 88)).alloc (.cells #[] 45)).alloc (.cells #[.slice (some ⟨w.heap.size + 1, 0, none⟩) 0 0, .slice (some ⟨w.heap.size + 1 + 1, 0, none⟩) 0 0, .slice none 0 0, .slice none 0 0, .slice none 0 0] 35)) := ((((Below.refl _ _).alloc (Nat.le_refl _) _).alloc (by simp) _).alloc (by simp <;> omega) _).alloc (by simp <;> omega) _
  have HR0 := Lib.hid hbR
  have HX0 := Lib.hid hbx
  have HD0 := Lib.hid hgD
  have HC0 := Lib.hid hgC
  have HW0 := Lib.hid hbW
  have S5 := Lib.hid S4
  clear hbB hbX hbR hbx hgD hgC hbW S1 S2 S3 S4
  go_enter Tryz.func54, Tryz.ntmps54
  go_wp2
  go_loopw [4] (fun i wr => ∃ (k : Nat) (A : Option Addr) (c : Nat), k ≤ s.ds.length ∧ i = .int .i64 k ∧ Hid (Below w.heap.size w wr) ∧ Hid (BoxAt w.heap.size [.slice none 0 0, .slice none 0 0, .slice none 0 0, .slice none 0 0, .slice none 0 0] wr) ∧ Hid (BoxAt (w.heap.size + 1 + 1 + 1) [.slice A k c, .slice (some ⟨w.heap.size + 1 + 1, 0, none⟩) 0 0, .slice none 0 0, .slice none 0 0, .slice none 0 0] wr) ∧ Hid (GrowP dfO 88 wr (fun b => w.heap.size + 1 ≤ b ∧ b ≠ w.heap.size + 1 + 1 ∧ b ≠ w.heap.size + 1 + 1 + 1) (.slice A k c) k (s.ds.take k)) ∧ Hid (GrowP cpO 45 wr (fun b => b = w.heap.size + 1 + 1) (.slice (some ⟨w.heap.size + 1 + 1, 0, none⟩) 0 0) 0 []) ∧ Hid (w.heap.size + 1 + 1 + 1 + 1 ≤ wr.heap.size)) (fun i _ => s.ds.length - (intOf i).toNat)
  case atStart => exact ⟨0, some ⟨w.heap.size + 1, 0, none⟩, 0, Nat.zero_le _, rfl, HW0, HR0, HX0, HD0, HC0, Lib.hid (Nat.le_of_eq S5.out.symm)⟩
  case round =>
    obtain ⟨k, AG, cG, hk, rfl, HB, HR, HX, HG, HC, HZ⟩ := hrel
    obtain ⟨wo, rfl⟩ : ∃ wo : World, wo = wr := ⟨_, rfl⟩
    clear HR0 HX0 HD0 HC0 HW0 S5
    have hsz := HB.out.size
    have hpr : p < wo.heap.size := by omega
    obtain ⟨pz0, pz1, pz2, pz3, pz4⟩ := HP.out _ HB.out
    by_cases hlt : k < s.ds.length
    · obtain ⟨b, o, cs0, x, rfl, hb, hR, hx, hc⟩ := (H1.out.keep (SameOn.of_below HB.out HS.out)).at_ (k := k) hlt
      obtain ⟨V, cv, rfl, hz, hlv, hcv, hrv⟩ := hR
      have r0 : wo.cell? ⟨b, o + k * 3, none⟩ = some (.string x.nm) := hc 0 _ rfl
      have r1 : wo.cell? ⟨b, o + k * 3 + 1, none⟩ = some (.int .i64 x.ps) := hc 1 _ rfl
      have r2 : wo.cell? ⟨b, o + k * 3 + 2, none⟩ = some (.slice V x.body.length cv) := hc 2 _ rfl
      have lb : b < wo.heap.size := World.block_lt_of_cell? wo _ r0
      have hxv := (OK.out.1.2 x (List.mem_of_getElem? hx.out)).2
      have CO := Lib.hid (fun (W : World) (hW : Below wo.heap.size wo W) => ownBody_any V x.body.length cv x.body W S (hrv.keep (SameOn.of_below hW fun b h => Nat.lt_of_lt_of_le (HS.out b h) hsz)) (fun b h => Nat.lt_of_lt_of_le (HS.out b h) (Nat.le_trans hsz hW.size)) rfl hxv)
      have HN := Lib.hid (take_one _ _ _ hx.out)
      have HZz := Lib.hid hz
      have HZ2 := HZ.out
      have B0 := Lib.hid (show Below wo.heap.size wo (wo.alloc (.cells #[.string x.nm, .int .i64 x.ps, .slice V x.body.length cv] 88)) from (Below.refl _ _).alloc (Nat.le_refl _) _)
      clear hc hrv hz
      go_wp2_with fail
      refine (CO.out _ B0.out).mono ?_
      rintro e w2 ⟨A3, c3, rfl, hl, b2⟩
      have y0 : w2.cell? ⟨wo.heap.size, 0, none⟩ = some (.string x.nm) := (b2.cell (p := ⟨wo.heap.size, 0, none⟩) (by simp)).trans (by simp [go_sem])
      have y1 : w2.cell? ⟨wo.heap.size, 1, none⟩ = some (.int .i64 x.ps) := (b2.cell (p := ⟨wo.heap.size, 1, none⟩) (by simp)).trans (by simp [go_sem])
      have y2 : w2.cell? ⟨wo.heap.size, 2, none⟩ = some (.slice V x.body.length cv) := (b2.cell (p := ⟨wo.heap.size, 2, none⟩) (by simp)).trans (by simp [go_sem])
      have yf : w2.frozen? ⟨wo.heap.size, 2, none⟩ = false := (b2.frozen (p := ⟨wo.heap.size, 2, none⟩) (by simp)).trans (by simp [go_sem])
      have hs2 : wo.heap.size < w2.heap.size := World.block_lt_of_cell? w2 _ y0
      have hO : dfO.O (w2.setCell ⟨wo.heap.size, 2, none⟩ (.slice A3 x.body.length c3)) (In wo.heap.size (w2.setCell ⟨wo.heap.size, 2, none⟩ (.slice A3 x.body.length c3)).heap.size) x [.string x.nm, .int .i64 x.ps, .slice A3 x.body.length c3] := by
        refine ⟨A3, c3, rfl, HZz.out, OL.more (OL.keep hl (SameB.setCell (SameB.refl _ _) fun h => ?_)) fun b h => ⟨?_, ?_⟩⟩
        · have := h.1; simp at this; omega
        · have := h.1; simp at this; omega
        · have := h.2; simpa [World.setCell] using this
      have HO := Lib.hid hO
      have B2 := Lib.hid (show Below wo.heap.size wo (w2.setCell ⟨wo.heap.size, 2, none⟩ (.slice A3 x.body.length c3)) from (B0.out.trans (b2.mono B0.out.size)).setCell (Nat.le_refl _) _)
      have x0 : w2.cell? ⟨w.heap.size + 1 + 1 + 1, 0, none⟩ = some (.slice AG k cG) := ((HX.out.nb (B0.out.trans (b2.mono B0.out.size))).2 0 _ rfl).1
      have xl : w.heap.size + 1 + 1 + 1 < w2.heap.size := by omega
      have hne : ¬ w.heap.size + 1 + 1 + 1 = wo.heap.size := by omega
      have hlo := HB.out.size
      clear hl b2 hO
      go_wp2_with (at_builtin; refine wpList_append_newP el_df rfl _ _ rfl wo (w2.setCell ⟨wo.heap.size, 2, none⟩ (.slice A3 x.body.length c3)) (fun b => w.heap.size + 1 ≤ b ∧ b ≠ w.heap.size + 1 + 1 ∧ b ≠ w.heap.size + 1 + 1 + 1) w.heap.size (.slice AG k cG) k (s.ds.take k) x [.string x.nm, .int .i64 x.ps, .slice A3 x.body.length c3] rfl (by exact HG.out) w2.heap.size (by simp [World.setCell]) rfl B2.out HO.out (fun u hu => by simp at hu; rcases hu with rfl | rfl | rfl <;> rfl) (by omega) (fun b h => ⟨by omega, by omega, by omega⟩) hsz (fun b h => by have := h.1; omega) ?_; intro A' c' w' hg hb' hs' hbk; have HG2 := Lib.hid hg; have HB2 := Lib.hid ((HB.out.trans (B2.out.mono hsz)).trans hb'); have HKB := Lib.hid hbk; have HS2 := Lib.hid hs'; have HXN := Lib.hid ((HX.out.nb B2.out).blk (hbk (w.heap.size + 1 + 1 + 1) (by omega) (fun e => by have h := HG.out.2; obtain ⟨vs, E, h1, h0, _⟩ := h; have := h0 _ e; omega)) hs'); have x0' := (HXN.out.2 0 _ rfl).1; have xf' := (HXN.out.2 0 _ rfl).2; clear hg hb' hs' hbk)
      go_roundw
      case rel =>
        have hs3 := B2.out.size
        have hs4 := HS2.out
        have hcb : ∀ b, b < wo.heap.size → (Value.slice AG k cG).ownBlock ≠ some b → w'.heap[b]? = wo.heap[b]? := fun b h1 h2 => (HKB.out b h1 h2).trans (B2.out.block b h1)
        have hnP : ∀ b, ¬ (w.heap.size + 1 ≤ b ∧ b ≠ w.heap.size + 1 + 1 ∧ b ≠ w.heap.size + 1 + 1 + 1) → (Value.slice AG k cG).ownBlock ≠ some b := fun b h e => by
          obtain ⟨_, vs, E, _, h0, _⟩ := HG.out
          exact h (h0 b e)
        have hCl : w.heap.size + 1 + 1 < wo.heap.size := by omega
        refine ⟨k + 1, A', c', by omega, by go_num, Lib.hid (HB2.out.setCell (by simp <;> omega) _), Lib.hid ((HR.out.blk (hcb _ (by omega) (hnP _ (by omega))) (by omega)).other (by omega)), Lib.hid (HXN.out.set (i := 0) (by simp)), Lib.hid ?_, Lib.hid ((HC.out.keep (fun b h _ => by subst h; exact hcb _ hCl (hnP _ (by omega))) (by omega)).keep (SameB.setCell (SameB.refl _ _) (by omega)) (by simp [World.setCell])), Lib.hid (by simp [World.setCell]; omega)⟩
        rw [HN.out]
        exact HG2.out.keep (SameB.setCell (SameB.refl _ _) fun h => h.2.2 rfl) (by simp [World.setCell])
      case measure => simp [intOf]; omega
    · obtain rfl : k = s.ds.length := by omega
      have HDF := Lib.hid (show OL dfO 88 wo (fun b => (fun b => w.heap.size + 1 ≤ b ∧ b ≠ w.heap.size + 1 + 1 ∧ b ≠ w.heap.size + 1 + 1 + 1) b ∧ b < wo.heap.size) AG s.ds.length cG s.ds by
        have h := HG.out.ol
        rwa [List.take_length] at h)
      have hZ := HZ.out
      obtain ⟨n1, hn1⟩ : ∃ n, n = wo.heap.size := ⟨_, rfl⟩
      have HDF := Lib.hid (show OL dfO 88 wo (fun b => (fun b => w.heap.size + 1 ≤ b ∧ b ≠ w.heap.size + 1 + 1 ∧ b ≠ w.heap.size + 1 + 1 + 1) b ∧ b < n1) AG s.ds.length cG s.ds by rw [hn1]; exact HDF.out)
      have HCF := Lib.hid (show GrowP cpO 45 wo (fun b => b = w.heap.size + 1 + 1 ∨ n1 ≤ b) (.slice (some ⟨w.heap.size + 1 + 1, 0, none⟩) 0 0) 0 [] from GrowP.more HC.out fun b h => Or.inl h)
      have HN1 := Lib.hid (show n1 ≤ wo.heap.size ∧ w.heap.size + 1 + 1 + 1 + 1 ≤ n1 from ⟨Nat.le_of_eq hn1, by omega⟩)
      have HXF := HX
      have HRF := HR
      have HBF := HB
      clear hn1 HC HX HR HG HZ hZ
      go_wp2
      clear pz0 pz1 pz2 pz3 pz4
      go_loopw [6] (fun i wr => ∃ (k : Nat) (A : Option Addr) (c : Nat), k ≤ s.cs.length ∧ i = .int .i64 k ∧ Hid (Below w.heap.size w wr) ∧ Hid (BoxAt w.heap.size [.slice none 0 0, .slice none 0 0, .slice none 0 0, .slice none 0 0, .slice none 0 0] wr) ∧ Hid (BoxAt (w.heap.size + 1 + 1 + 1) [.slice AG s.ds.length cG, .slice A k c, .slice none 0 0, .slice none 0 0, .slice none 0 0] wr) ∧ Hid (GrowP cpO 45 wr (fun b => b = w.heap.size + 1 + 1 ∨ n1 ≤ b) (.slice A k c) k (s.cs.take k)) ∧ Hid (OL dfO 88 wr (fun b => (fun b => w.heap.size + 1 ≤ b ∧ b ≠ w.heap.size + 1 + 1 ∧ b ≠ w.heap.size + 1 + 1 + 1) b ∧ b < n1) AG s.ds.length cG s.ds) ∧ Hid (n1 ≤ wr.heap.size ∧ w.heap.size + 1 + 1 + 1 + 1 ≤ n1)) (fun i _ => s.cs.length - (intOf i).toNat)
      case atStart => exact ⟨0, some ⟨w.heap.size + 1 + 1, 0, none⟩, 0, Nat.zero_le _, rfl, HBF, HRF, HXF, HCF, HDF, HN1⟩
      case round =>
        obtain ⟨k, AC, cC, hk, rfl, HB, HR, HX, HG, HD, HZ⟩ := hrel
        obtain ⟨wq, rfl⟩ : ∃ wq : World, wq = wr := ⟨_, rfl⟩
        clear HBF HRF HXF HCF HDF HN1
        have hsz := HB.out.size
        have hpr : p < wq.heap.size := by omega
        obtain ⟨pz0, pz1, pz2, pz3, pz4⟩ := HP.out _ HB.out
        by_cases hlt : k < s.cs.length
        · obtain ⟨b, o, cs0, x, rfl, hb, hR, hx, hc⟩ := (H2.out.keep (SameOn.of_below HB.out HS.out)).at_ (k := k) hlt
          obtain ⟨V, cv, rfl, hlv, hcv, hrv⟩ := hR
          have r0 : wq.cell? ⟨b, o + k * 2, none⟩ = some (.int .i64 x.d) := hc 0 _ rfl
          have r1 : wq.cell? ⟨b, o + k * 2 + 1, none⟩ = some (.slice V x.vs.length cv) := hc 1 _ rfl
          have lb : b < wq.heap.size := World.block_lt_of_cell? wq _ r0
          have hxv := (OK.out.2.1.2 x (List.mem_of_getElem? hx.out)).1
          have CO := Lib.hid (fun (W : World) (hW : Below wq.heap.size wq W) => cloneIntS_any V x.vs.length cv x.vs W S (hrv.keep (SameOn.of_below hW fun b h => Nat.lt_of_lt_of_le (HS.out b h) hsz)) (fun b h => Nat.lt_of_lt_of_le (HS.out b h) (Nat.le_trans hsz hW.size)) rfl hxv)
          have HN := Lib.hid (take_one _ _ _ hx.out)
          have HZ1 := HZ.out.1
          have HZ2 := HZ.out.2
          have B0 := Lib.hid (show Below wq.heap.size wq (wq.alloc (.cells #[.int .i64 x.d, .slice V x.vs.length cv] 45)) from (Below.refl _ _).alloc (Nat.le_refl _) _)
          clear hc hrv
          go_wp2_with fail
          refine (CO.out _ B0.out).mono ?_
          rintro e w2 ⟨A3, c3, rfl, hl, b2⟩
          have y0 : w2.cell? ⟨wq.heap.size, 0, none⟩ = some (.int .i64 x.d) := (b2.cell (p := ⟨wq.heap.size, 0, none⟩) (by simp)).trans (by simp [go_sem])
          have y1 : w2.cell? ⟨wq.heap.size, 1, none⟩ = some (.slice V x.vs.length cv) := (b2.cell (p := ⟨wq.heap.size, 1, none⟩) (by simp)).trans (by simp [go_sem])
          have yf : w2.frozen? ⟨wq.heap.size, 1, none⟩ = false := (b2.frozen (p := ⟨wq.heap.size, 1, none⟩) (by simp)).trans (by simp [go_sem])
          have hs2 : wq.heap.size < w2.heap.size := World.block_lt_of_cell? w2 _ y0
          have hO : cpO.O (w2.setCell ⟨wq.heap.size, 1, none⟩ (.slice A3 x.vs.length c3)) (In wq.heap.size (w2.setCell ⟨wq.heap.size, 1, none⟩ (.slice A3 x.vs.length c3)).heap.size) x [.int .i64 x.d, .slice A3 x.vs.length c3] := by
            refine ⟨A3, c3, rfl, OL.more (OL.keep hl (SameB.setCell (SameB.refl _ _) fun h => ?_)) fun b h => ⟨?_, ?_⟩⟩
            · have := h.1; simp at this; omega
            · have := h.1; simp at this; omega
            · have := h.2; simpa [World.setCell] using this
          have HO := Lib.hid hO
          have B2 := Lib.hid (show Below wq.heap.size wq (w2.setCell ⟨wq.heap.size, 1, none⟩ (.slice A3 x.vs.length c3)) from (B0.out.trans (b2.mono B0.out.size)).setCell (Nat.le_refl _) _)
          have x0 : w2.cell? ⟨w.heap.size + 1 + 1 + 1, 1, none⟩ = some (.slice AC k cC) := ((HX.out.nb (B0.out.trans (b2.mono B0.out.size))).2 1 _ rfl).1
          have xl : w.heap.size + 1 + 1 + 1 < w2.heap.size := by omega
          have hne : ¬ w.heap.size + 1 + 1 + 1 = wq.heap.size := by omega
          clear hl b2 hO
          go_wp2_with (at_builtin; refine wpList_append_newP el_cp rfl _ _ rfl wq (w2.setCell ⟨wq.heap.size, 1, none⟩ (.slice A3 x.vs.length c3)) (fun b => b = w.heap.size + 1 + 1 ∨ n1 ≤ b) w.heap.size (.slice AC k cC) k (s.cs.take k) x [.int .i64 x.d, .slice A3 x.vs.length c3] rfl (by exact HG.out) w2.heap.size (by simp [World.setCell]) rfl B2.out HO.out (fun u hu => by simp at hu; rcases hu with rfl | rfl <;> rfl) (by omega) (fun b h => Or.inr (by omega)) hsz (fun b h => by omega) ?_; intro A' c' w' hg hb' hs' hbk; have HG2 := Lib.hid hg; have HB2 := Lib.hid ((HB.out.trans (B2.out.mono hsz)).trans hb'); have HKB := Lib.hid hbk; have HS2 := Lib.hid hs'; have HXN := Lib.hid ((HX.out.nb B2.out).blk (hbk (w.heap.size + 1 + 1 + 1) (by omega) (fun e => by have h := HG.out.2; obtain ⟨vs, E, h1, h0, _⟩ := h; have := h0 _ e; omega)) hs'); have x0' := (HXN.out.2 1 _ rfl).1; have xf' := (HXN.out.2 1 _ rfl).2; clear hg hb' hs' hbk)
          go_roundw
          case rel =>
            have hs3 := B2.out.size
            have hs4 := HS2.out
            have hcb : ∀ b, b < wq.heap.size → (Value.slice AC k cC).ownBlock ≠ some b → w'.heap[b]? = wq.heap[b]? := fun b h1 h2 => (HKB.out b h1 h2).trans (B2.out.block b h1)
            have hnP : ∀ b, ¬ (b = w.heap.size + 1 + 1 ∨ n1 ≤ b) → (Value.slice AC k cC).ownBlock ≠ some b := fun b h e => by
              obtain ⟨_, vs, E, _, h0, _⟩ := HG.out
              exact h (h0 b e)
            refine ⟨k + 1, A', c', by omega, by go_num, Lib.hid (HB2.out.setCell (by simp <;> omega) _), Lib.hid ((HR.out.blk (hcb _ (by omega) (hnP _ (by omega))) (by omega)).other (by omega)), Lib.hid (HXN.out.set (i := 1) (by simp)), Lib.hid ?_, Lib.hid ((HD.out.keep (fun b h _ => hcb b (by have := h.2; omega) (hnP b (by have h1 := h.1; have h2 := h.2; omega)))).keep (SameB.setCell (SameB.refl _ _) (fun h => h.1.2.2 rfl))), Lib.hid ⟨by simp [World.setCell]; omega, HZ2⟩⟩
            rw [HN.out]
            exact HG2.out.keep (SameB.setCell (SameB.refl _ _) fun h => by omega) (by simp [World.setCell])
          case measure => simp [intOf]; omega
        · obtain rfl : k = s.cs.length := by omega
          have HZ1 := HZ.out.1
          have HZ2 := HZ.out.2
          obtain ⟨n2, hn2⟩ : ∃ n, n = wq.heap.size := ⟨_, rfl⟩
          have HCF := Lib.hid (show OL cpO 45 wq (fun b => (b = w.heap.size + 1 + 1 ∨ n1 ≤ b) ∧ b < n2) AC s.cs.length cC s.cs by
            have h := HG.out.ol
            rw [List.take_length] at h
            rw [hn2]; exact h)
          have HN2 := Lib.hid (show n1 ≤ n2 by omega)
          have q2 : n2 ≤ wq.heap.size := Nat.le_of_eq hn2
          have HC := HCF
          clear HG HZ hn2 hlt hk HCF
          go_upto_region 14 with fail
          obtain ⟨vs3, hr, hvl, h1, hc⟩ := LRow.flat flat_mt (H3.out.keep (SameOn.of_below HB.out HS.out))
          have HO := Lib.hid (World.ownsRow_made (e := 122) (size := 3) wq #[] 0 (Nat.le_refl wq.heap.size) (Nat.zero_le _) rfl)
          have HRr := Lib.hid (hr.keep (SameOn.of_below ((Below.refl wq.heap.size wq).alloc (Nat.le_refl _) (.cells #[] 122)) (fun b h => Nat.lt_of_lt_of_le (HS.out b h) HB.out.size)))
          have HLn := Lib.hid (show vs3.length = s.ms.length * 3 from hvl)
          have H1c := Lib.hid h1
          have HCl := Lib.hid hc
          clear hr hvl h1 hc
          obtain ⟨pz0, pz1, pz2, pz3, pz4⟩ := HP.out _ HB.out
          have hpv : p < wq.heap.size := by have := HB.out.size; omega
          have xlv : w.heap.size + 1 + 1 + 1 < wq.heap.size := HX.out.1
          go_upto_region 15 with (at_builtin; refine wpList_append_vs el_mt rfl _ _ rfl _ wq.heap.size (.slice (some ⟨wq.heap.size, 0, none⟩) 0 0) 0 [] rfl (by exact HO.out) S A3 s.ms.length c3 vs3 rfl (by exact HRr.out) HLn.out H1c.out (by omega) (by simp) ?_; intro A3' c3' u3 ho hg; have HO2 := Lib.hid ho; have BV := Lib.hid (show Below wq.heap.size wq u3 from ((Below.refl _ _).alloc (Nat.le_refl _) _).grown hg (by simp) (fun g e => by cases e; exact Nat.le_refl _)); have HXN := Lib.hid (HX.out.nb BV.out); have x1 := (HXN.out.2 2 _ rfl).1; have xf := (HXN.out.2 2 _ rfl).2; have xln := HXN.out.1; clear ho hg)
          have hown : u3.ownsRow wq.heap.size 122 3 (.slice A3' s.ms.length c3') s.ms.length vs3 := by have h := HO2.out; rw [Nat.zero_add, List.nil_append] at h; exact h
          have F3 := Lib.hid (HCl.out u3 wq.heap.size s.ms.length c3' 122 A3' rfl hown)
          have g3 : wq.heap.size ≤ u3.heap.size := BV.out.size
          clear hown HO HRr HLn H1c HCl HO2 pz0 pz1 pz2 pz3 pz4 x1 xf hpv
          have HB := Lib.hid ((HB.out.trans (BV.out.mono HB.out.size)).setCell (p := ⟨w.heap.size + 1 + 1 + 1, 2, none⟩) (by show w.heap.size ≤ w.heap.size + 1 + 1 + 1; omega) (.slice A3' s.ms.length c3'))
          have HR := Lib.hid ((HR.out.nb BV.out).other (c := w.heap.size + 1 + 1 + 1) (i := 2) (u := .slice A3' s.ms.length c3') (by omega))
          have HX := Lib.hid (show BoxAt (w.heap.size + 1 + 1 + 1) [.slice AG s.ds.length cG, .slice AC s.cs.length cC, .slice A3' s.ms.length c3', .slice none 0 0, .slice none 0 0] (u3.setCell ⟨w.heap.size + 1 + 1 + 1, 2, none⟩ (.slice A3' s.ms.length c3')) from HXN.out.set (i := 2) (by simp))
          have HD := Lib.hid ((HD.out.keep (SameB.of_belowB BV.out fun b h => by have h1 := h.2; omega)).keep (SameB.setCell (b := w.heap.size + 1 + 1 + 1) (o := 2) (v := .slice A3' s.ms.length c3') (SameB.refl _ _) (fun h => h.1.2.2 rfl)))
          have HC := Lib.hid ((HC.out.keep (SameB.of_belowB BV.out fun b h => by have h1 := h.2; omega)).keep (SameB.setCell (b := w.heap.size + 1 + 1 + 1) (o := 2) (v := .slice A3' s.ms.length c3') (SameB.refl _ _) (fun h => by have h1 := h.1; have h2 := h.2; omega)))
          have F3 := Lib.hid (F3.out.keep (SameB.setCell (b := w.heap.size + 1 + 1 + 1) (o := 2) (v := .slice A3' s.ms.length c3') (SameB.refl _ _) (fun h => by have h1 := h.1; omega)))
          have k3 := Lib.hid (show (u3.setCell ⟨w.heap.size + 1 + 1 + 1, 2, none⟩ (.slice A3' s.ms.length c3')).heap.size = u3.heap.size by simp [World.setCell])
          clear BV HXN xln xlv
          generalize u3.setCell ⟨w.heap.size + 1 + 1 + 1, 2, none⟩ (.slice A3' s.ms.length c3') = W3 at *
          have j3 : u3.heap.size ≤ W3.heap.size := Nat.le_of_eq k3.out.symm
          have i3 : W3.heap.size ≤ u3.heap.size := Nat.le_of_eq k3.out
          obtain ⟨vs4, hr, hvl, h1, hc⟩ := LRow.flat flat_txt (H4.out.keep (SameOn.of_below HB.out HS.out))
          have HO := Lib.hid (World.ownsRow_made (e := 9) (size := 1) W3 #[] 0 (Nat.le_refl W3.heap.size) (Nat.zero_le _) rfl)
          have HRr := Lib.hid (hr.keep (SameOn.of_below ((Below.refl W3.heap.size W3).alloc (Nat.le_refl _) (.cells #[] 9)) (fun b h => Nat.lt_of_lt_of_le (HS.out b h) HB.out.size)))
          have HLn := Lib.hid (show vs4.length = s.al.length * 1 from hvl)
          have H1c := Lib.hid h1
          have HCl := Lib.hid hc
          clear hr hvl h1 hc
          obtain ⟨pz0, pz1, pz2, pz3, pz4⟩ := HP.out _ HB.out
          have hpv : p < W3.heap.size := by have := HB.out.size; omega
          have xlv : w.heap.size + 1 + 1 + 1 < W3.heap.size := HX.out.1
          go_upto_region 16 with (at_builtin; refine wpList_append_vs el_str rfl _ _ rfl _ W3.heap.size (.slice (some ⟨W3.heap.size, 0, none⟩) 0 0) 0 [] rfl (by exact HO.out) S A4 s.al.length c4 vs4 rfl (by exact HRr.out) HLn.out H1c.out (by omega) (by simp) ?_; intro A4' c4' u4 ho hg; have HO2 := Lib.hid ho; have BV := Lib.hid (show Below W3.heap.size W3 u4 from ((Below.refl _ _).alloc (Nat.le_refl _) _).grown hg (by simp) (fun g e => by cases e; exact Nat.le_refl _)); have HXN := Lib.hid (HX.out.nb BV.out); have x1 := (HXN.out.2 3 _ rfl).1; have xf := (HXN.out.2 3 _ rfl).2; have xln := HXN.out.1; clear ho hg)
          have hown : u4.ownsRow W3.heap.size 9 1 (.slice A4' s.al.length c4') s.al.length vs4 := by have h := HO2.out; rw [Nat.zero_add, List.nil_append] at h; exact h
          have F4 := Lib.hid (HCl.out u4 W3.heap.size s.al.length c4' 9 A4' rfl hown)
          have g4 : W3.heap.size ≤ u4.heap.size := BV.out.size
          clear hown HO HRr HLn H1c HCl HO2 pz0 pz1 pz2 pz3 pz4 x1 xf hpv
          have HB := Lib.hid ((HB.out.trans (BV.out.mono HB.out.size)).setCell (p := ⟨w.heap.size + 1 + 1 + 1, 3, none⟩) (by show w.heap.size ≤ w.heap.size + 1 + 1 + 1; omega) (.slice A4' s.al.length c4'))
          have HR := Lib.hid ((HR.out.nb BV.out).other (c := w.heap.size + 1 + 1 + 1) (i := 3) (u := .slice A4' s.al.length c4') (by omega))
          have HX := Lib.hid (show BoxAt (w.heap.size + 1 + 1 + 1) [.slice AG s.ds.length cG, .slice AC s.cs.length cC, .slice A3' s.ms.length c3', .slice A4' s.al.length c4', .slice none 0 0] (u4.setCell ⟨w.heap.size + 1 + 1 + 1, 3, none⟩ (.slice A4' s.al.length c4')) from HXN.out.set (i := 3) (by simp))
          have HD := Lib.hid ((HD.out.keep (SameB.of_belowB BV.out fun b h => by have h1 := h.2; omega)).keep (SameB.setCell (b := w.heap.size + 1 + 1 + 1) (o := 3) (v := .slice A4' s.al.length c4') (SameB.refl _ _) (fun h => h.1.2.2 rfl)))
          have HC := Lib.hid ((HC.out.keep (SameB.of_belowB BV.out fun b h => by have h1 := h.2; omega)).keep (SameB.setCell (b := w.heap.size + 1 + 1 + 1) (o := 3) (v := .slice A4' s.al.length c4') (SameB.refl _ _) (fun h => by have h1 := h.1; have h2 := h.2; omega)))
          have F3 := Lib.hid ((F3.out.keep (SameB.of_belowB BV.out fun b h => by have h1 := h.2; omega)).keep (SameB.setCell (b := w.heap.size + 1 + 1 + 1) (o := 3) (v := .slice A4' s.al.length c4') (SameB.refl _ _) (fun h => by have h1 := h.1; have h2 := h.2; omega)))
          have F4 := Lib.hid (F4.out.keep (SameB.setCell (b := w.heap.size + 1 + 1 + 1) (o := 3) (v := .slice A4' s.al.length c4') (SameB.refl _ _) (fun h => by have h1 := h.1; omega)))
          have k4 := Lib.hid (show (u4.setCell ⟨w.heap.size + 1 + 1 + 1, 3, none⟩ (.slice A4' s.al.length c4')).heap.size = u4.heap.size by simp [World.setCell])
          clear BV HXN xln xlv
          generalize u4.setCell ⟨w.heap.size + 1 + 1 + 1, 3, none⟩ (.slice A4' s.al.length c4') = W4 at *
          have j4 : u4.heap.size ≤ W4.heap.size := Nat.le_of_eq k4.out.symm
          have i4 : W4.heap.size ≤ u4.heap.size := Nat.le_of_eq k4.out
          obtain ⟨vs5, hr, hvl, h1, hc⟩ := LRow.flat flat_txt (H5.out.keep (SameOn.of_below HB.out HS.out))
          have HO := Lib.hid (World.ownsRow_made (e := 9) (size := 1) W4 #[] 0 (Nat.le_refl W4.heap.size) (Nat.zero_le _) rfl)
          have HRr := Lib.hid (hr.keep (SameOn.of_below ((Below.refl W4.heap.size W4).alloc (Nat.le_refl _) (.cells #[] 9)) (fun b h => Nat.lt_of_lt_of_le (HS.out b h) HB.out.size)))
          have HLn := Lib.hid (show vs5.length = s.hd.length * 1 from hvl)
          have H1c := Lib.hid h1
          have HCl := Lib.hid hc
          clear hr hvl h1 hc
          obtain ⟨pz0, pz1, pz2, pz3, pz4⟩ := HP.out _ HB.out
          have hpv : p < W4.heap.size := by have := HB.out.size; omega
          have xlv : w.heap.size + 1 + 1 + 1 < W4.heap.size := HX.out.1
          go_upto_region 17 with (at_builtin; refine wpList_append_vs el_str rfl _ _ rfl _ W4.heap.size (.slice (some ⟨W4.heap.size, 0, none⟩) 0 0) 0 [] rfl (by exact HO.out) S A5 s.hd.length c5 vs5 rfl (by exact HRr.out) HLn.out H1c.out (by omega) (by simp) ?_; intro A5' c5' u5 ho hg; have HO2 := Lib.hid ho; have BV := Lib.hid (show Below W4.heap.size W4 u5 from ((Below.refl _ _).alloc (Nat.le_refl _) _).grown hg (by simp) (fun g e => by cases e; exact Nat.le_refl _)); have HXN := Lib.hid (HX.out.nb BV.out); have x1 := (HXN.out.2 4 _ rfl).1; have xf := (HXN.out.2 4 _ rfl).2; have xln := HXN.out.1; clear ho hg)
          have hown : u5.ownsRow W4.heap.size 9 1 (.slice A5' s.hd.length c5') s.hd.length vs5 := by have h := HO2.out; rw [Nat.zero_add, List.nil_append] at h; exact h
          have F5 := Lib.hid (HCl.out u5 W4.heap.size s.hd.length c5' 9 A5' rfl hown)
          have g5 : W4.heap.size ≤ u5.heap.size := BV.out.size
          clear hown HO HRr HLn H1c HCl HO2 pz0 pz1 pz2 pz3 pz4 x1 xf hpv
          have HB := Lib.hid ((HB.out.trans (BV.out.mono HB.out.size)).setCell (p := ⟨w.heap.size + 1 + 1 + 1, 4, none⟩) (by show w.heap.size ≤ w.heap.size + 1 + 1 + 1; omega) (.slice A5' s.hd.length c5'))
          have HR := Lib.hid ((HR.out.nb BV.out).other (c := w.heap.size + 1 + 1 + 1) (i := 4) (u := .slice A5' s.hd.length c5') (by omega))
          have HX := Lib.hid (show BoxAt (w.heap.size + 1 + 1 + 1) [.slice AG s.ds.length cG, .slice AC s.cs.length cC, .slice A3' s.ms.length c3', .slice A4' s.al.length c4', .slice A5' s.hd.length c5'] (u5.setCell ⟨w.heap.size + 1 + 1 + 1, 4, none⟩ (.slice A5' s.hd.length c5')) from HXN.out.set (i := 4) (by simp))
          have HD := Lib.hid ((HD.out.keep (SameB.of_belowB BV.out fun b h => by have h1 := h.2; omega)).keep (SameB.setCell (b := w.heap.size + 1 + 1 + 1) (o := 4) (v := .slice A5' s.hd.length c5') (SameB.refl _ _) (fun h => h.1.2.2 rfl)))
          have HC := Lib.hid ((HC.out.keep (SameB.of_belowB BV.out fun b h => by have h1 := h.2; omega)).keep (SameB.setCell (b := w.heap.size + 1 + 1 + 1) (o := 4) (v := .slice A5' s.hd.length c5') (SameB.refl _ _) (fun h => by have h1 := h.1; have h2 := h.2; omega)))
          have F3 := Lib.hid ((F3.out.keep (SameB.of_belowB BV.out fun b h => by have h1 := h.2; omega)).keep (SameB.setCell (b := w.heap.size + 1 + 1 + 1) (o := 4) (v := .slice A5' s.hd.length c5') (SameB.refl _ _) (fun h => by have h1 := h.1; have h2 := h.2; omega)))
          have F4 := Lib.hid ((F4.out.keep (SameB.of_belowB BV.out fun b h => by have h1 := h.2; omega)).keep (SameB.setCell (b := w.heap.size + 1 + 1 + 1) (o := 4) (v := .slice A5' s.hd.length c5') (SameB.refl _ _) (fun h => by have h1 := h.1; have h2 := h.2; omega)))
          have F5 := Lib.hid (F5.out.keep (SameB.setCell (b := w.heap.size + 1 + 1 + 1) (o := 4) (v := .slice A5' s.hd.length c5') (SameB.refl _ _) (fun h => by have h1 := h.1; omega)))
          have k5 := Lib.hid (show (u5.setCell ⟨w.heap.size + 1 + 1 + 1, 4, none⟩ (.slice A5' s.hd.length c5')).heap.size = u5.heap.size by simp [World.setCell])
          clear BV HXN xln xlv
          generalize u5.setCell ⟨w.heap.size + 1 + 1 + 1, 4, none⟩ (.slice A5' s.hd.length c5') = W5 at *
          have j5 : u5.heap.size ≤ W5.heap.size := Nat.le_of_eq k5.out.symm
          have i5 : W5.heap.size ≤ u5.heap.size := Nat.le_of_eq k5.out
          have x0 := (HX.out.2 0 _ rfl).1
          have m0 := (HR.out.2 0 _ rfl).1
          have mf0 := (HR.out.2 0 _ rfl).2
          have x1 := (HX.out.2 1 _ rfl).1
          have m1 := (HR.out.2 1 _ rfl).1
          have mf1 := (HR.out.2 1 _ rfl).2
          have x2 := (HX.out.2 2 _ rfl).1
          have m2 := (HR.out.2 2 _ rfl).1
          have mf2 := (HR.out.2 2 _ rfl).2
          have x3 := (HX.out.2 3 _ rfl).1
          have m3 := (HR.out.2 3 _ rfl).1
          have mf3 := (HR.out.2 3 _ rfl).2
          have x4 := (HX.out.2 4 _ rfl).1
          have m4 := (HR.out.2 4 _ rfl).1
          have mf4 := (HR.out.2 4 _ rfl).2
          have xl := HX.out.1
          have ml := HR.out.1
          go_wp2
          have SO : ∀ S : Nat → Prop, ¬ S w.heap.size → SameB S W5 (((((W5.setCell ⟨w.heap.size, 0, none⟩ (.slice AG s.ds.length cG)).setCell ⟨w.heap.size, 1, none⟩ (.slice AC s.cs.length cC)).setCell ⟨w.heap.size, 2, none⟩ (.slice A3' s.ms.length c3')).setCell ⟨w.heap.size, 3, none⟩ (.slice A4' s.al.length c4')).setCell ⟨w.heap.size, 4, none⟩ (.slice A5' s.hd.length c5')) := fun S n0 => (((((SameB.refl S W5).setCell n0).setCell n0).setCell n0).setCell n0).setCell n0
          have BW : Below w.heap.size w (((((W5.setCell ⟨w.heap.size, 0, none⟩ (.slice AG s.ds.length cG)).setCell ⟨w.heap.size, 1, none⟩ (.slice AC s.cs.length cC)).setCell ⟨w.heap.size, 2, none⟩ (.slice A3' s.ms.length c3')).setCell ⟨w.heap.size, 3, none⟩ (.slice A4' s.al.length c4')).setCell ⟨w.heap.size, 4, none⟩ (.slice A5' s.hd.length c5')) := (((((HB.out.setCell (Nat.le_refl _) _).setCell (Nat.le_refl _) _).setCell (Nat.le_refl _) _).setCell (Nat.le_refl _) _).setCell (Nat.le_refl _) _)
          have r0 : (((((W5.setCell ⟨w.heap.size, 0, none⟩ (.slice AG s.ds.length cG)).setCell ⟨w.heap.size, 1, none⟩ (.slice AC s.cs.length cC)).setCell ⟨w.heap.size, 2, none⟩ (.slice A3' s.ms.length c3')).setCell ⟨w.heap.size, 3, none⟩ (.slice A4' s.al.length c4')).setCell ⟨w.heap.size, 4, none⟩ (.slice A5' s.hd.length c5')).cell? ⟨w.heap.size, 0, none⟩ = some (.slice AG s.ds.length cG) := by simp [go_sem, m0]
          have r1 : (((((W5.setCell ⟨w.heap.size, 0, none⟩ (.slice AG s.ds.length cG)).setCell ⟨w.heap.size, 1, none⟩ (.slice AC s.cs.length cC)).setCell ⟨w.heap.size, 2, none⟩ (.slice A3' s.ms.length c3')).setCell ⟨w.heap.size, 3, none⟩ (.slice A4' s.al.length c4')).setCell ⟨w.heap.size, 4, none⟩ (.slice A5' s.hd.length c5')).cell? ⟨w.heap.size, 1, none⟩ = some (.slice AC s.cs.length cC) := by simp [go_sem, m1]
          have r2 : (((((W5.setCell ⟨w.heap.size, 0, none⟩ (.slice AG s.ds.length cG)).setCell ⟨w.heap.size, 1, none⟩ (.slice AC s.cs.length cC)).setCell ⟨w.heap.size, 2, none⟩ (.slice A3' s.ms.length c3')).setCell ⟨w.heap.size, 3, none⟩ (.slice A4' s.al.length c4')).setCell ⟨w.heap.size, 4, none⟩ (.slice A5' s.hd.length c5')).cell? ⟨w.heap.size, 2, none⟩ = some (.slice A3' s.ms.length c3') := by simp [go_sem, m2]
          have r3 : (((((W5.setCell ⟨w.heap.size, 0, none⟩ (.slice AG s.ds.length cG)).setCell ⟨w.heap.size, 1, none⟩ (.slice AC s.cs.length cC)).setCell ⟨w.heap.size, 2, none⟩ (.slice A3' s.ms.length c3')).setCell ⟨w.heap.size, 3, none⟩ (.slice A4' s.al.length c4')).setCell ⟨w.heap.size, 4, none⟩ (.slice A5' s.hd.length c5')).cell? ⟨w.heap.size, 3, none⟩ = some (.slice A4' s.al.length c4') := by simp [go_sem, m3]
          have r4 : (((((W5.setCell ⟨w.heap.size, 0, none⟩ (.slice AG s.ds.length cG)).setCell ⟨w.heap.size, 1, none⟩ (.slice AC s.cs.length cC)).setCell ⟨w.heap.size, 2, none⟩ (.slice A3' s.ms.length c3')).setCell ⟨w.heap.size, 3, none⟩ (.slice A4' s.al.length c4')).setCell ⟨w.heap.size, 4, none⟩ (.slice A5' s.hd.length c5')).cell? ⟨w.heap.size, 4, none⟩ = some (.slice A5' s.hd.length c5') := by simp [go_sem, m4]
          have hsz : (((((W5.setCell ⟨w.heap.size, 0, none⟩ (.slice AG s.ds.length cG)).setCell ⟨w.heap.size, 1, none⟩ (.slice AC s.cs.length cC)).setCell ⟨w.heap.size, 2, none⟩ (.slice A3' s.ms.length c3')).setCell ⟨w.heap.size, 3, none⟩ (.slice A4' s.al.length c4')).setCell ⟨w.heap.size, 4, none⟩ (.slice A5' s.hd.length c5')).heap.size = W5.heap.size := by simp [World.setCell]
          clear x0 m0 mf0 x1 m1 mf1 x2 m2 mf2 x3 m3 mf3 x4 m4 mf4
          generalize (((((W5.setCell ⟨w.heap.size, 0, none⟩ (.slice AG s.ds.length cG)).setCell ⟨w.heap.size, 1, none⟩ (.slice AC s.cs.length cC)).setCell ⟨w.heap.size, 2, none⟩ (.slice A3' s.ms.length c3')).setCell ⟨w.heap.size, 3, none⟩ (.slice A4' s.al.length c4')).setCell ⟨w.heap.size, 4, none⟩ (.slice A5' s.hd.length c5')) = WF at *
          refine bodyPost_ret (v := .agg #[.slice AG s.ds.length cG, .slice AC s.cs.length cC, .slice A3' s.ms.length c3', .slice A4' s.al.length c4', .slice A5' s.hd.length c5']) (by simp [results, Tryz.results54, go_sem, r0, r1, r2, r3, r4]; (try rfl)) rfl ⟨[.slice AG s.ds.length cG, .slice AC s.cs.length cC, .slice A3' s.ms.length c3', .slice A4' s.al.length c4', .slice A5' s.hd.length c5'], rfl, ?_, BW⟩
          refine ⟨AG, cG, AC, cC, A3', c3', A4', c4', A5', c5', five (fun b => (fun b => w.heap.size + 1 ≤ b ∧ b ≠ w.heap.size + 1 + 1 ∧ b ≠ w.heap.size + 1 + 1 + 1) b ∧ b < n1) (fun b => (b = w.heap.size + 1 + 1 ∨ n1 ≤ b) ∧ b < n2) (In wq.heap.size u3.heap.size) (In W3.heap.size u4.heap.size) (In W4.heap.size u5.heap.size), rfl, HD.out.keep (SO _ (fun h => ?_)), HC.out.keep (SO _ (fun h => ?_)), F3.out.keep (SO _ (fun h => ?_)), F4.out.keep (SO _ (fun h => ?_)), F5.out.keep (SO _ (fun h => ?_)), ?_, ?_⟩
          · have h1 := h.1; have h2 := h.2; omega
          · have h1 := h.1; have h2 := h.2; omega
          · have h1 := h.1; have h2 := h.2; omega
          · have h1 := h.1; have h2 := h.2; omega
          · have h1 := h.1; have h2 := h.2; omega
          · exact ap_five (fun b h k => by have h1 := h.1; have h2 := h.2; have k1 := k.1; have k2 := k.2; omega) (fun b h k => by have h1 := h.1; have h2 := h.2; have k1 := k.1; have k2 := k.2; omega) (fun b h k => by have h1 := h.1; have h2 := h.2; have k1 := k.1; have k2 := k.2; omega) (fun b h k => by have h1 := h.1; have h2 := h.2; have k1 := k.1; have k2 := k.2; omega) (fun b h k => by have h1 := h.1; have h2 := h.2; have k1 := k.1; have k2 := k.2; omega) (fun b h k => by have h1 := h.1; have h2 := h.2; have k1 := k.1; have k2 := k.2; omega) (fun b h k => by have h1 := h.1; have h2 := h.2; have k1 := k.1; have k2 := k.2; omega) (fun b h k => by have h1 := h.1; have h2 := h.2; have k1 := k.1; have k2 := k.2; omega) (fun b h k => by have h1 := h.1; have h2 := h.2; have k1 := k.1; have k2 := k.2; omega) (fun b h k => by have h1 := h.1; have h2 := h.2; have k1 := k.1; have k2 := k.2; omega)
          · intro i b hb
            rw [hsz]
            match i, hb with
            | 0, hb => exact ⟨by have h1 := hb.1; have h2 := hb.2; omega, by have h1 := hb.1; have h2 := hb.2; omega⟩
            | 1, hb => exact ⟨by have h1 := hb.1; have h2 := hb.2; omega, by have h1 := hb.1; have h2 := hb.2; omega⟩
            | 2, hb => exact ⟨by have h1 := hb.1; have h2 := hb.2; omega, by have h1 := hb.1; have h2 := hb.2; omega⟩
            | 3, hb => exact ⟨by have h1 := hb.1; have h2 := hb.2; omega, by have h1 := hb.1; have h2 := hb.2; omega⟩
            | 4, hb => exact ⟨by have h1 := hb.1; have h2 := hb.2; omega, by have h1 := hb.1; have h2 := hb.2; omega⟩
            | (_ + 5), hb => exact hb.elim
end Go.Proofs.YtdgcpaeneafejaaGreatDoor
