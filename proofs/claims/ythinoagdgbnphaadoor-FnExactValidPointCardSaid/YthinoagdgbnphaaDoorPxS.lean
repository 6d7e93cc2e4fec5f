/- Shapes and ends of bodies: the model's functions. -/
import Derived.Test.YthinoagdgbnphaaDoorProg
import Derived.WalkKit
import Derived.ProofKit
import Derived.BigQuiet
import Derived.Outline
import Derived.StillTailTactics
import Derived.Test.YthinoagdgbnphaaDoorMem
import Derived.Test.YthinoagdgbnphaaDoorOwn
import Derived.Test.YthinoagdgbnphaaDoorSRow
import Derived.Test.YthinoagdgbnphaaDoorDat
import Derived.Test.YthinoagdgbnphaaDoorPxR
namespace Go.Proofs.YthinoagdgbnphaaDoor
open Go.RowKit
def folK (k : Int) : Int := if k = 1 ∨ k = 3 ∨ k = 4 then 1 else if k = 2 then 2 else 0
theorem fol_folK (p : Pt) : fol p = folK p.k := rfl
set_option maxHeartbeats 800000 in
theorem specFollow_any (b o : Nat) (k : Int) (w : World) (h : w.cell? ⟨b, o, none⟩ = some (.int .i64 k)) :
    Calls Tryd.prog 53 #[.pointer (some ⟨b, o, none⟩)] w fun e w' => e = .returned (.int .i64 (folK k)) ∧ Drawn w w' := by
  have hk : k = 1 ∨ k = 3 ∨ k = 4 ∨ k = 2 ∨ (k ≠ 1 ∧ k ≠ 3 ∧ k ≠ 4 ∧ k ≠ 2) := by omega
  rcases hk with rfl | rfl | rfl | rfl | ⟨h1, h2, h3, h4⟩
  · go_enter Tryd.func53, Tryd.ntmps53
    go_wp2
    go_ret
    exact ⟨rfl, by first | exact Drawn.refl _ | exact (Drawn.refl _).drew⟩
  · go_enter Tryd.func53, Tryd.ntmps53
    go_wp2
    go_ret
    exact ⟨rfl, by first | exact Drawn.refl _ | exact (Drawn.refl _).drew⟩
  · go_enter Tryd.func53, Tryd.ntmps53
    go_wp2
    go_ret
    exact ⟨rfl, by first | exact Drawn.refl _ | exact (Drawn.refl _).drew⟩
  · go_enter Tryd.func53, Tryd.ntmps53
    go_wp2
    go_ret
    exact ⟨rfl, by first | exact Drawn.refl _ | exact (Drawn.refl _).drew⟩
  · have HF := Lib.hid (show folK k = 0 by unfold folK; rw [if_neg (by omega), if_neg (by omega)])
    have e1 : (k == 1) = false := ib_ne h1
    have e2 : (k == 3) = false := ib_ne h2
    have e3 : (k == 4) = false := ib_ne h3
    have e4 : (k == 2) = false := ib_ne h4
    go_enter Tryd.func53, Tryd.ntmps53
    go_wp2
    go_ret
    exact ⟨by rw [HF.out]; rfl, by first | exact Drawn.refl _ | exact (Drawn.refl _).drew⟩
set_option maxRecDepth 100000 in
set_option maxHeartbeats 1600000 in
theorem specShape_any (A : Option Addr) (n c : Nat) (xs : List Pt) (w : World) (S : Nat → Prop) (h : LRow ptR w S A xs) (l : xs.length = n) :
    Calls Tryd.prog 39 #[.slice A n c] w fun e w' => e = .returned (.bool (shapeB xs)) ∧ Drawn w w' := by
  have L := Lib.hid l
  by_cases h0 : n = 0
  · have HF := Lib.hid (show shapeB xs = false by rw [List.eq_nil_of_length_eq_zero (l.trans h0)]; rfl)
    have e0 : ((n : Int) == 0) = true := ib_eq (by omega)
    clear l h0
    go_enter Tryd.func39, Tryd.ntmps39
    go_wp2
    go_ret
    exact ⟨ret_bool HF.out.symm, by first | exact Drawn.refl _ | exact (Drawn.refl _).drew⟩
  have e0 : ((n : Int) == 0) = false := ib_ne (by omega)
  by_cases h20 : 20 < n
  · have HF := Lib.hid (show shapeB xs = false by unfold shapeB; rw [decide_eq_false (by omega)]; rfl)
    have e20 : (20 : Int) < (n : Int) := by omega
    clear l h0
    go_enter Tryd.func39, Tryd.ntmps39
    go_wp2
    go_ret
    exact ⟨ret_bool HF.out.symm, by first | exact Drawn.refl _ | exact (Drawn.refl _).drew⟩
  have e20 : ¬ (20 : Int) < (n : Int) := by omega
  have HSH := Lib.hid (show shapeB xs = nd xs 1 by unfold shapeB; rw [decide_eq_true (by omega)]; rfl)
  clear l h0
  go_enter Tryd.func39, Tryd.ntmps39
  go_wp2
  go_loopw [3, 4] (fun m i wr => ∃ (k : Nat) (q : Int), k ≤ n ∧ i = .int .i64 k ∧ m = .int .i64 q ∧ 0 ≤ q ∧ q ≤ 1 + k ∧ Hid (Drawn w wr) ∧ Hid (nd xs 1 = nd (xs.drop k) q)) (fun _ i _ => n - (intOf i).toNat)
  case atStart => exact ⟨0, 1, Nat.zero_le _, rfl, rfl, by omega, by omega, Lib.hid (Drawn.refl _), Lib.hid (by rw [List.drop_zero])⟩
  case round =>
    obtain ⟨k, q, hk, rfl, rfl, hq0, hq1, HD, HE⟩ := hrel
    by_cases hlt : k < n
    · obtain ⟨b1, o1, cs1, x, rfl, hb1, hR1, hx, hc1⟩ := (h.keep (SameOn.of_drawn HD.out)).at_ (k := k) (by rw [L.out]; exact hlt)
      obtain ⟨B1, d1, rfl, hz1, hlc1, hcm1, hr1⟩ := hR1
      have hD : xs.drop k = x :: xs.drop (k + 1) := by
        obtain ⟨hl', e⟩ := List.getElem?_eq_some_iff.1 hx.out
        rw [List.drop_eq_getElem_cons hl', e]
      by_cases hq : q = 0
      · have HF := Lib.hid (show shapeB xs = false by rw [HSH.out, HE.out, hD, hq, nd_cons, if_pos rfl])
        have eq0 : (q == 0) = true := ib_eq hq
        clear hc1 hr1 hD hz1 hlc1 hcm1 hq
        go_wp2
        go_ret
        exact ⟨ret_bool HF.out.symm, HD.out⟩
      · have eq0 : (q == 0) = false := ib_ne hq
        have hN := Lib.hid (show nd xs 1 = nd (xs.drop (k + 1)) (q + (folK x.k - 1)) by rw [HE.out, hD, nd_cons, if_neg hq]; rfl)
        have hfb := fol_bd x
        rw [fol_folK] at hfb
        obtain ⟨f, hf⟩ : ∃ f, f = folK x.k := ⟨_, rfl⟩
        rw [← hf] at hfb hN
        have p0 : wr.drew.cell? ⟨b1, o1 + k * 4, none⟩ = some (.int .i64 x.k) := hc1 0 _ rfl
        have p1 : wr.cell? ⟨b1, o1 + k * 4, none⟩ = some (.int .i64 x.k) := hc1 0 _ rfl
        have CF := fun (W : World) (hW : W.cell? ⟨b1, o1 + k * 4, none⟩ = some (.int .i64 x.k)) => specFollow_any b1 (o1 + k * 4) x.k W hW
        rw [← hf] at CF
        have C := Lib.hid CF
        have HDD := Lib.hid HD.out.drew
        have hqp : 1 ≤ q := by omega
        have hf0 : 0 ≤ f := by omega
        have hf2 : f ≤ 2 := by omega
        clear hc1 hr1 hD hz1 hlc1 hcm1 hq hf CF hfb p0
        go_wp2_with (go_at_call 53; refine (C.out _ (by first | exact p1)).mono ?_; rintro e w2 ⟨rfl, hd⟩; have HD2 := Lib.hid (HD.out.trans hd); clear hd)
        go_roundw
        case rel => exact ⟨k + 1, q + (f - 1), by omega, by go_num, rfl, by omega, by omega, HD2, hN⟩
        case measure => simp [intOf]; omega
    · obtain rfl : k = n := by omega
      have HF := Lib.hid (show shapeB xs = (q == 0) by rw [HSH.out, HE.out, List.drop_of_length_le (by rw [L.out]; exact Nat.le_refl _)]; rfl)
      go_wp2
      go_ret
      exact ⟨ret_bool HF.out.symm, HD.out⟩
/-- The model's walk to the end of a part: where it stands. -/
theorem pf_step {xs : List Pt} {k : Nat} {m : Int} {x : Pt} (hx : xs[k]? = some x) : pf (xs.drop k) m k = if m + (fol x - 1) = 0 then (k : Int) + 1 else pf (xs.drop (k + 1)) (m + (fol x - 1)) ((k + 1 : Nat) : Int) := by
  obtain ⟨hlt, e⟩ := List.getElem?_eq_some_iff.1 hx
  rw [List.drop_eq_getElem_cons hlt, e, pf_cons]; rfl
theorem pf_none {xs : List Pt} {k : Nat} {m i : Int} (hk : xs.length ≤ k) : pf (xs.drop k) m i = -1 := by rw [List.drop_of_length_le hk]; rfl
set_option maxRecDepth 100000 in
set_option maxHeartbeats 1600000 in
theorem specEnd_any (A : Option Addr) (n c : Nat) (xs : List Pt) (i0 : Nat) (en : Int) (w : World) (S : Nat → Prop) (h : LRow ptR w S A xs) (l : xs.length = n) (h20 : n ≤ 20) (he : pf (xs.drop i0) 1 i0 = en) (hp : 0 < en) (hi0 : i0 ≤ 20) :
    Calls Tryd.prog 41 #[.slice A n c, .int .i64 i0] w fun e w' => e = .returned (.int .i64 en) ∧ Drawn w w' := by
  have L := Lib.hid l
  clear l
  go_enter Tryd.func41, Tryd.ntmps41
  go_wp2
  go_loopw [1, 5] (fun i m wr => ∃ (k : Nat) (q : Int), k ≤ 20 ∧ i = .int .i64 k ∧ m = .int .i64 q ∧ 0 ≤ q ∧ q ≤ 1 + k ∧ Hid (Drawn w wr) ∧ Hid ((q = 0 ∧ en = k) ∨ (1 ≤ q ∧ pf (xs.drop k) q k = en))) (fun i _ _ => 21 - (intOf i).toNat)
  case atStart => exact ⟨i0, 1, hi0, rfl, rfl, by omega, by omega, Lib.hid (Drawn.refl _), Lib.hid (.inr ⟨by omega, he⟩)⟩
  case round =>
    obtain ⟨k, q, hk, rfl, rfl, hq0, hq1, HD, HE⟩ := hrel
    rcases HE.out with ⟨hq, hen⟩ | ⟨hq, hpf⟩
    · subst hq
      subst hen
      clear HE
      go_wp2
      go_ret
      exact ⟨rfl, HD.out⟩
    · have hlt : k < n := by
        rcases Nat.lt_or_ge k n with hlt | hge
        · exact hlt
        · rw [pf_none (by rw [L.out]; exact hge)] at hpf
          omega
      obtain ⟨b1, o1, cs1, x, rfl, hb1, hR1, hx, hc1⟩ := (h.keep (SameOn.of_drawn HD.out)).at_ (k := k) (by rw [L.out]; exact hlt)
      obtain ⟨B1, d1, rfl, hz1, hlc1, hcm1, hr1⟩ := hR1
      rw [pf_step hx.out, fol_folK] at hpf
      have hfb := fol_bd x
      rw [fol_folK] at hfb
      obtain ⟨f, hf⟩ : ∃ f, f = folK x.k := ⟨_, rfl⟩
      rw [← hf] at hfb hpf
      have p1 : wr.cell? ⟨b1, o1 + k * 4, none⟩ = some (.int .i64 x.k) := hc1 0 _ rfl
      have CF := fun (W : World) (hW : W.cell? ⟨b1, o1 + k * 4, none⟩ = some (.int .i64 x.k)) => specFollow_any b1 (o1 + k * 4) x.k W hW
      rw [← hf] at CF
      have C := Lib.hid CF
      have hf0 : 0 ≤ f := by omega
      have hf2 : f ≤ 2 := by omega
      have HN := Lib.hid (show (q + (f - 1) = 0 ∧ en = ((k + 1 : Nat) : Int)) ∨ (1 ≤ q + (f - 1) ∧ pf (xs.drop (k + 1)) (q + (f - 1)) ((k + 1 : Nat) : Int) = en) by
        by_cases e : q + (f - 1) = 0
        · rw [if_pos e] at hpf; exact .inl ⟨e, by omega⟩
        · rw [if_neg e] at hpf; exact .inr ⟨by omega, hpf⟩)
      have hqp : 0 < q := by omega
      clear hc1 hr1 hz1 hlc1 hcm1 hf CF hfb hpf HE hq
      go_wp2_with (go_at_call 53; refine (C.out _ (by first | exact p1)).mono ?_; rintro e w2 ⟨rfl, hd⟩; have HD2 := Lib.hid (HD.out.trans hd); clear hd)
      go_roundw
      case rel => exact ⟨k + 1, q + (f - 1), by omega, by go_num, rfl, by omega, by omega, HD2, HN⟩
      case measure => simp [intOf]; omega
end Go.Proofs.YthinoagdgbnphaaDoor
