/- The inverse of a relation by the program, the composition of two by the model and the program. -/
import Derived.Test.YthnopigibjmgbaaProg
import Derived.WalkKit
import Derived.ProofKit
import Derived.BigQuiet
import Derived.Outline
import Derived.IntWalk
import Derived.StillTailTactics
import Derived.Test.YthnopigibjmgbaaMem
import Derived.Test.YthnopigibjmgbaaOwn
import Derived.Test.YthnopigibjmgbaaTurn
import Derived.Test.YthnopigibjmgbaaLawI
import Derived.Test.YthnopigibjmgbaaLawI2
import Derived.Test.YthnopigibjmgbaaLawII
import Derived.Test.YthnopigibjmgbaaPart3
import Derived.Test.YthnopigibjmgbaaRelM
import Derived.Test.YthnopigibjmgbaaBuild
import Derived.Test.YthnopigibjmgbaaPairs
import Derived.Test.YthnopigibjmgbaaRowsM
import Derived.Test.YthnopigibjmgbaaRows2
import Derived.Test.YthnopigibjmgbaaRows3
import Derived.Test.YthnopigibjmgbaaRel
import Derived.Test.YthnopigibjmgbaaMat
import Derived.Test.YthnopigibjmgbaaRelF
namespace Go.Proofs.Ythnopigibjmgbaa
open Go.RowKit
set_option maxHeartbeats 2000000 in
set_option maxRecDepth 100000 in
theorem implInv_any (nn : Int) (A : Option Addr) (len c : Nat) (r : List (List Int)) (w : World) (B : Nat) (h : RRow w B A r) (hB : B ≤ w.heap.size) (l : r.length = len) (m : len ≤ 2000000) (m2 : ∀ xs ∈ r, xs.length ≤ 2000000) :
    Calls Try.prog 21 #[.int .i64 nn, .slice A len c] w fun e w' => RetJ2 w (invL nn r) e w' := by
  have C := Lib.hid (implRel_any nn A len c r w B h l m m2)
  rcases hr : relB nn r with _ | _
  · have HR := Lib.hid hr
    have HI := Lib.hid (invL_no hr)
    clear l m2 hr
    go_enter Try.func21, Try.ntmps21
    go_wp2_with (go_at_call 51; refine (C.out).mono ?_; rw [HR.out]; rintro e w1 ⟨rfl, hD⟩)
    go_ret2
    exact RetJ2.nil HI.out (hD.below _)
  · obtain ⟨n, rfl, hn1, hn⟩ := rel_nat hr
    have HI := Lib.hid (invL_yes hr)
    have HR := Lib.hid hr
    have L := Lib.hid l
    clear l m2 hr hn1
    go_enter Try.func21, Try.ntmps21
    go_wp2_with fail
    refine (C.out).mono ?_; rw [HR.out]; rintro e w0 ⟨rfl, hD0⟩
    have hb0 := hD0.below w.heap.size
    have hs0 := hb0.size
    have hr0 := h.below (hb0.mono hB)
    clear hD0 C
    go_wp2
    go_loopw [16] (fun i wr => ∃ k : Nat, k ≤ len ∧ i = .int .i64 k ∧ HasWords wr w0.heap.size w0.heap.size (invTo r k) ∧ Below w0.heap.size w0 wr) (fun i _ => len - (intOf i).toNat)
    case atStart => exact ⟨0, Nat.zero_le _, rfl, (words_new _ _ (Nat.le_refl _)).congr fun i j _ _ => (invTo_zero r i j).symm, (Below.refl _ _).alloc (Nat.le_refl _) _⟩
    case round =>
      obtain ⟨k, hk, rfl, HV, hb⟩ := hrel
      by_cases hlt : k < len
      · obtain ⟨b, o, b2, o2, c', u, v, rfl, hbB, hc, hb2, hcu, hcv, hu, hv, hx⟩ := pair_at (hr0.below (hb.mono (by omega))) HR.out (k := k) (by rw [L.out]; exact hlt)
        have C := Lib.hid (add_any w0.heap.size v u (invTo r k) wr.drew w0.heap.size (HV.drawn (Drawn.refl _).drew) (by omega) (by omega))
        have hcu2 : wr.drew.cell? ⟨b2, o2, none⟩ = some (.int .i64 (u : Int)) := hcu
        have hcv2 : wr.drew.cell? ⟨b2, o2 + 1, none⟩ = some (.int .i64 (v : Int)) := hcv
        have HB := Lib.hid hb
        clear hb HV
        go_wp2
        go_still_tail 7, (by kernel_rfl)
        change wpList _ _ _ _ _ wr.drew
        go_wp2_with (go_at_call 60; refine (C.out).mono ?_; rintro e w' ⟨rfl, hw, hg⟩; have HW := Lib.hid hw; have HG := Lib.hid hg; clear hw hg)
        go_roundw
        case rel => exact ⟨k + 1, by omega, by go_num, HW.out.congr fun i j _ _ => (invTo_next hx.out i j).symm, (HB.out.trans (below_drewN _ _ 1)).grown HG.out HB.out.size (fun g e => by cases e; exact Nat.le_refl _)⟩
        case measure => simp [intOf]; omega
      · have HV2 := Lib.hid (show HasWords wr w0.heap.size w0.heap.size (fun i j => memF r j i) from HV.congr fun i j _ _ => by rw [invTo, memTo_all r (by rw [L.out]; omega)])
        have HB := Lib.hid hb
        have C2 := Lib.hid (rowsPairs_any w0.heap.size n _ wr w0.heap.size HV2.out hn)
        clear HV hb
        go_wp2_with (go_at_call 62; refine (C2.out).mono ?_; rintro e w3 ⟨v, rfl, hv, hb3⟩)
        go_ret2
        exact RetJ2.mk' HI.out (hv.base (by have := HB.out.size; omega)) (hb0.trans ((HB.out.mono hs0).trans (hb3.mono (by have := HB.out.size; omega))))
/-- The composition. -/
noncomputable def compL (n : Int) (r q : List (List Int)) : List (List Int) × Int := if relB n r = true ∧ relB n q = true then (picked (compTo r (memF q) r.length) n.toNat n.toNat, 0) else ([], 1)
theorem compL_yes {n : Nat} {r q : List (List Int)} (h : relB n r = true) (h2 : relB n q = true) : compL n r q = (picked (compTo r (memF q) r.length) n n, 0) := by unfold compL; rw [if_pos ⟨h, h2⟩]; rfl
theorem compL_no {n : Int} {r q : List (List Int)} (h : relB n r = false ∨ relB n q = false) : compL n r q = ([], 1) := by
  unfold compL; rw [if_neg]
  rintro ⟨h1, h2⟩
  rcases h with h | h <;> simp_all
theorem compL_len (n : Int) (r q : List (List Int)) : (compL n r q).1.length ≤ 2000000 := by
  by_cases h : relB n r = true ∧ relB n q = true
  · unfold compL; rw [if_pos h]; exact picked_len40 _ (by have := rel_small h.1; omega)
  · unfold compL; rw [if_neg h]; simp
theorem compL_inner (n : Int) (r q : List (List Int)) : ∀ xs ∈ (compL n r q).1, xs.length ≤ 2000000 := by
  by_cases h : relB n r = true ∧ relB n q = true
  · unfold compL; rw [if_pos h]; intro xs hx; have := picked_inner _ _ _ xs hx; omega
  · unfold compL; rw [if_neg h]; simp
/-- A row of a composition up to place c. -/
def joinTo (f : Nat → Nat → Bool) (a : Nat) (g : Nat → Bool) (c i j : Nat) : Bool := f i j || (decide (i = a) && (decide (j < c) && g j))
theorem joinTo_zero (f : Nat → Nat → Bool) (a : Nat) (g : Nat → Bool) (i j : Nat) : joinTo f a g 0 i j = f i j := by simp [joinTo]
theorem joinTo_all {f : Nat → Nat → Bool} {a n i j : Nat} {g : Nat → Bool} (hj : j < n) : joinTo f a g n i j = rowF f a g i j := by simp [joinTo, rowF, hj]
theorem joinTo_yes {f : Nat → Nat → Bool} {a c : Nat} {g : Nat → Bool} (h : g c = true) (i j : Nat) : joinTo f a g (c + 1) i j = addF (joinTo f a g c) a c i j := by
  simp only [joinTo, addF]
  rw [Bool.eq_iff_iff]
  simp only [Bool.or_eq_true, Bool.and_eq_true, decide_eq_true_eq]
  constructor
  · rintro (h | ⟨rfl, h1, h2⟩)
    · exact .inl (.inl h)
    · by_cases e : j = c
      · exact .inr ⟨rfl, e⟩
      · exact .inl (.inr ⟨rfl, by omega, h2⟩)
  · rintro ((h | ⟨rfl, h1, h2⟩) | ⟨rfl, rfl⟩)
    · exact .inl h
    · exact .inr ⟨rfl, by omega, h2⟩
    · exact .inr ⟨rfl, by omega, h⟩
theorem joinTo_no {f : Nat → Nat → Bool} {a c : Nat} {g : Nat → Bool} (h : g c = false) (i j : Nat) : joinTo f a g (c + 1) i j = joinTo f a g c i j := by
  simp only [joinTo]
  rw [Bool.eq_iff_iff]
  simp only [Bool.or_eq_true, Bool.and_eq_true, decide_eq_true_eq]
  constructor
  · rintro (h' | ⟨rfl, h1, h2⟩)
    · exact .inl h'
    · by_cases e : j = c
      · subst e; rw [h] at h2; cases h2
      · exact .inr ⟨rfl, by omega, h2⟩
  · rintro (h | ⟨rfl, h1, h2⟩)
    · exact .inl h
    · exact .inr ⟨rfl, by omega, h2⟩
theorem compTo_zero (r : List (List Int)) (g : Nat → Nat → Bool) (i j : Nat) : compTo r g 0 i j = false := rfl
end Go.Proofs.Ythnopigibjmgbaa
