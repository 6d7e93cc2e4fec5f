/- Systems whose memory is their own. -/
import Derived.Test.YtdgcpaeneafejaaGreatDoorSameM
import Derived.Test.YtdgcpaeneafejaaGreatDoorLow
namespace Go.Proofs.YtdgcpaeneafejaaGreatDoor
open Go.RowKit
/-- Sets of blocks that are apart. -/
def Ap (E : Nat → Nat → Prop) : Prop := ∀ i j b, i ≠ j → E i b → ¬ E j b
/-- The sets between bounds. -/
def five (E1 E2 E3 E4 E5 : Nat → Prop) : Nat → Nat → Prop
  | 0 => E1
  | 1 => E2
  | 2 => E3
  | 3 => E4
  | 4 => E5
  | _ => fun _ => False
theorem ap_five {E1 E2 E3 E4 E5 : Nat → Prop} (h12 : ∀ b, E1 b → ¬ E2 b) (h13 : ∀ b, E1 b → ¬ E3 b) (h14 : ∀ b, E1 b → ¬ E4 b) (h15 : ∀ b, E1 b → ¬ E5 b) (h23 : ∀ b, E2 b → ¬ E3 b) (h24 : ∀ b, E2 b → ¬ E4 b) (h25 : ∀ b, E2 b → ¬ E5 b) (h34 : ∀ b, E3 b → ¬ E4 b) (h35 : ∀ b, E3 b → ¬ E5 b) (h45 : ∀ b, E4 b → ¬ E5 b) : Ap (five E1 E2 E3 E4 E5) := by
  intro i j b hne hi hj
  match i, j, hi, hj with
  | 0, 0, _, _ => exact hne rfl
  | 1, 1, _, _ => exact hne rfl
  | 2, 2, _, _ => exact hne rfl
  | 3, 3, _, _ => exact hne rfl
  | 4, 4, _, _ => exact hne rfl
  | 0, 1, hi, hj => exact h12 b hi hj
  | 0, 2, hi, hj => exact h13 b hi hj
  | 0, 3, hi, hj => exact h14 b hi hj
  | 0, 4, hi, hj => exact h15 b hi hj
  | 1, 2, hi, hj => exact h23 b hi hj
  | 1, 3, hi, hj => exact h24 b hi hj
  | 1, 4, hi, hj => exact h25 b hi hj
  | 2, 3, hi, hj => exact h34 b hi hj
  | 2, 4, hi, hj => exact h35 b hi hj
  | 3, 4, hi, hj => exact h45 b hi hj
  | 1, 0, hi, hj => exact h12 b hj hi
  | 2, 0, hi, hj => exact h13 b hj hi
  | 3, 0, hi, hj => exact h14 b hj hi
  | 4, 0, hi, hj => exact h15 b hj hi
  | 2, 1, hi, hj => exact h23 b hj hi
  | 3, 1, hi, hj => exact h24 b hj hi
  | 4, 1, hi, hj => exact h25 b hj hi
  | 3, 2, hi, hj => exact h34 b hj hi
  | 4, 2, hi, hj => exact h35 b hj hi
  | 4, 3, hi, hj => exact h45 b hj hi
  | (_ + 5), _, hi, _ => exact hi
  | _, (_ + 5), _, hj => exact hj
theorem ap_in {a b c d e f : Nat} (h2 : b ≤ c) (h3 : c ≤ d) (h4 : d ≤ e) : Ap (five (In a b) (In b c) (In c d) (In d e) (In e f)) :=
  ap_five (fun x h k => by have := h.2; have := k.1; omega) (fun x h k => by have := h.2; have := k.1; omega) (fun x h k => by have := h.2; have := k.1; omega) (fun x h k => by have := h.2; have := k.1; omega) (fun x h k => by have := h.2; have := k.1; omega)
    (fun x h k => by have := h.2; have := k.1; omega) (fun x h k => by have := h.2; have := k.1; omega) (fun x h k => by have := h.2; have := k.1; omega) (fun x h k => by have := h.2; have := k.1; omega) (fun x h k => by have := h.2; have := k.1; omega)
def syO : Owd Sy where
  F := syR
  O w S x vs := ∃ A1 c1 A2 c2 A3 c3 A4 c4 A5 c5, ∃ E : Nat → Nat → Prop, vs = [.slice A1 x.ds.length c1, .slice A2 x.cs.length c2, .slice A3 x.ms.length c3, .slice A4 x.al.length c4, .slice A5 x.hd.length c5] ∧
    OL dfO 88 w (E 0) A1 x.ds.length c1 x.ds ∧ OL cpO 45 w (E 1) A2 x.cs.length c2 x.cs ∧ OL mtO 122 w (E 2) A3 x.ms.length c3 x.ms ∧ OL txtO 9 w (E 3) A4 x.al.length c4 x.al ∧ OL txtO 9 w (E 4) A5 x.hd.length c5 x.hd ∧
    Ap E ∧ ∀ i b, E i b → S b
  rd h := by
    obtain ⟨A1, c1, A2, c2, A3, c3, A4, c4, A5, c5, E, e, h1, h2, h3, h4, h5, _, hS⟩ := h
    exact ⟨A1, c1, A2, c2, A3, c3, A4, c4, A5, c5, e, ⟨h1.cap.1, h1.cap.2, (h1.more (hS 0)).lrow⟩, ⟨h2.cap.1, h2.cap.2, (h2.more (hS 1)).lrow⟩, ⟨h3.cap.1, h3.cap.2, (h3.more (hS 2)).lrow⟩, ⟨h4.cap.1, h4.cap.2, (h4.more (hS 3)).lrow⟩, ⟨h5.cap.1, h5.cap.2, (h5.more (hS 4)).lrow⟩⟩
  keep h hk := by
    obtain ⟨A1, c1, A2, c2, A3, c3, A4, c4, A5, c5, E, e, h1, h2, h3, h4, h5, ha, hS⟩ := h
    exact ⟨A1, c1, A2, c2, A3, c3, A4, c4, A5, c5, E, e, h1.keep (hk.more (hS 0)), h2.keep (hk.more (hS 1)), h3.keep (hk.more (hS 2)), h4.keep (hk.more (hS 3)), h5.keep (hk.more (hS 4)), ha, hS⟩
  more h hT := by
    obtain ⟨A1, c1, A2, c2, A3, c3, A4, c4, A5, c5, E, e, h1, h2, h3, h4, h5, ha, hS⟩ := h
    exact ⟨A1, c1, A2, c2, A3, c3, A4, c4, A5, c5, E, e, h1, h2, h3, h4, h5, ha, fun i b hb => hT b (hS i b hb)⟩
def wtSy (x : Sy) : Nat := wL wtDf x.ds + wL wtCp x.cs + wL wtZ x.ms + wL wtZ x.al + wL wtZ x.hd
def syM : Mk Sy := ⟨fun k x => ⟨mkL dfM k x.ds, mkL cpM (k + cntL dfM x.ds) x.cs, mkL mtM (k + cntL dfM x.ds + cntL cpM x.cs) x.ms, mkL txtM (k + cntL dfM x.ds + cntL cpM x.cs + cntL mtM x.ms) x.al, mkL txtM (k + cntL dfM x.ds + cntL cpM x.cs + cntL mtM x.ms + cntL txtM x.al) x.hd⟩,
  fun x => cntL dfM x.ds + cntL cpM x.cs + cntL mtM x.ms + cntL txtM x.al + cntL txtM x.hd⟩
/-- An owned list kept by a write into a box ahead of it and by a later call. -/
theorem OL.carry {α : Type} {G : Owd α} {T : TypeId} {w w2 : World} {lo hi : Nat} {A : Option Addr} {n c : Nat} {xs : List α} {p o : Nat} {v : Value} (h : OL G T w (In lo hi) A n c xs) (hh : hi ≤ w.heap.size) (hp : p < lo) (hb : Below (w.setCell ⟨p, o, none⟩ v).heap.size (w.setCell ⟨p, o, none⟩ v) w2) : OL G T w2 (In lo hi) A n c xs := by
  have hs : (w.setCell ⟨p, o, none⟩ v).heap.size = w.heap.size := by simp [World.setCell]
  have h1 : SameB (In lo hi) w (w.setCell ⟨p, o, none⟩ v) := SameB.setCell (SameB.refl _ _) (by intro h; have := h.1; omega)
  exact (h.keep h1).keep (SameB.of_belowB hb fun b hb2 => by rw [hs]; have := hb2.2; omega)
/-- How many marks a record takes is bounded by how many elements its lists hold. -/
theorem cntL_le {α : Type} {M : Mk α} {f : α → Nat} {a : Nat} (h : ∀ x, M.cnt x ≤ a + 3 * f x) (ha : a ≤ 3) : ∀ xs : List α, cntL M xs ≤ 3 * wL f xs := by
  intro xs
  induction xs with
  | nil => simp [cntL]
  | cons x xs ih =>
    have := h x
    unfold wL at ih ⊢
    simp only [cntL, sW, List.length_cons]
    omega
theorem cnt_int (xs : List Int) : cntL intM xs ≤ 3 * wL wtZ xs := cntL_le (a := 1) (fun _ => by show 1 ≤ 1 + _; omega) (by decide) xs
theorem cnt_txt (xs : List ByteArray) : cntL txtM xs ≤ 3 * wL wtZ xs := cntL_le (a := 1) (fun _ => by show 1 ≤ 1 + _; omega) (by decide) xs
theorem cnt_tm (xs : List Tm) : cntL tmM xs ≤ 3 * wL wtZ xs := cntL_le (a := 2) (fun _ => by show 2 ≤ 2 + _; omega) (by decide) xs
theorem cnt_mt (xs : List Mt) : cntL mtM xs ≤ 3 * wL wtZ xs := cntL_le (a := 3) (fun _ => by show 3 ≤ 3 + _; omega) (by decide) xs
theorem cnt_tms (xs : List (List Tm)) : cntL (listM tmM) xs ≤ 3 * wL (wL wtZ) xs := cntL_le (a := 0) (fun x => by show cntL tmM x ≤ _; have := cnt_tm x; omega) (by decide) xs
theorem cnt_pt (xs : List Pt) : cntL ptM xs ≤ 3 * wL wtPt xs := cntL_le (a := 3) (fun x => by show 3 + cntL (listM tmM) x.args ≤ 3 + 3 * wL (wL wtZ) x.args; have := cnt_tms x.args; omega) (by decide) xs
theorem cnt_df (xs : List Df) : cntL dfM xs ≤ 3 * wL wtDf xs := cntL_le (a := 2) (fun x => by show 2 + cntL ptM x.body ≤ 2 + 3 * wL wtPt x.body; have := cnt_pt x.body; omega) (by decide) xs
theorem cnt_cp (xs : List Cp) : cntL cpM xs ≤ 3 * wL wtCp xs := cntL_le (a := 1) (fun x => by show 1 + cntL intM x.vs ≤ 1 + 3 * wL wtZ x.vs; have := cnt_int x.vs; omega) (by decide) xs
theorem cnt_sy (x : Sy) : syM.cnt x ≤ 3 * wtSy x := by
  have h1 := cnt_df x.ds
  have h2 := cnt_cp x.cs
  have h3 := cnt_mt x.ms
  have h4 := cnt_txt x.al
  have h5 := cnt_txt x.hd
  show cntL dfM x.ds + cntL cpM x.cs + cntL mtM x.ms + cntL txtM x.al + cntL txtM x.hd ≤ 3 * (wL wtDf x.ds + wL wtCp x.cs + wL wtZ x.ms + wL wtZ x.al + wL wtZ x.hd)
  omega
end Go.Proofs.YtdgcpaeneafejaaGreatDoor
