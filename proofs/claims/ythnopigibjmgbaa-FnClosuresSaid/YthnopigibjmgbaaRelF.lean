/- The inverse of a relation, the composition of two, the closure: the model's and the program's functions. -/
import Derived.Test.YthnopigibjmgbaaProg
import Derived.WalkKit
import Derived.ProofKit
import Derived.BigQuiet
import Derived.Outline
import Derived.IntWalk
import Derived.StillTailTactics
import Derived.Test.YthnopigibjmgbaaMem
import Derived.Test.YthnopigibjmgbaaOwn
import Derived.Test.YthnopigibjmgbaaTurn
import Derived.Test.YthnopigibjmgbaaLawI
import Derived.Test.YthnopigibjmgbaaLawI2
import Derived.Test.YthnopigibjmgbaaLawII
import Derived.Test.YthnopigibjmgbaaPart3
import Derived.Test.YthnopigibjmgbaaRelM
import Derived.Test.YthnopigibjmgbaaBuild
import Derived.Test.YthnopigibjmgbaaPairs
import Derived.Test.YthnopigibjmgbaaRowsM
import Derived.Test.YthnopigibjmgbaaRows2
import Derived.Test.YthnopigibjmgbaaRows3
import Derived.Test.YthnopigibjmgbaaRel
import Derived.Test.YthnopigibjmgbaaMat
namespace Go.Proofs.Ythnopigibjmgbaa
open Go.RowKit
theorem own_base {w : World} {lo lo' : Nat} {T : TypeId} {s n : Nat} {v : Value} {vs : List Value} (h : w.ownsRow lo T s v n vs) (h1 : lo' ≤ lo) : w.ownsRow lo' T s v n vs := by
  refine ⟨h.1, ?_⟩
  rcases h.2 with hn | ⟨g, cap, cur, e, hb, rest⟩
  · exact .inl hn
  · exact .inr ⟨g, cap, cur, e, Nat.le_trans h1 hb, rest⟩
theorem Build.base {w : World} {lo lo' : Nat} {v : Value} {xss : List (List Int)} (h : Build w lo v xss) (h1 : lo' ≤ lo) : Build w lo' v xss := by
  obtain ⟨G, C, h2, h3⟩ := h
  exact ⟨G, C, own_base h2 h1, ⟨fun i hi => (h3.own i hi).mono_base h1, h3.one⟩⟩
noncomputable def invL (n : Int) (r : List (List Int)) : List (List Int) × Int := if relB n r = true then (picked (fun i j => memF r j i) n.toNat n.toNat, 0) else ([], 1)
theorem invL_yes {n : Nat} {r : List (List Int)} (h : relB n r = true) : invL n r = (picked (fun i j => memF r j i) n n, 0) := by unfold invL; rw [if_pos h]; rfl
theorem invL_no {n : Int} {r : List (List Int)} (h : relB n r = false) : invL n r = ([], 1) := by unfold invL; rw [if_neg (by rw [h]; simp)]
theorem picked_len40 (f : Nat → Nat → Bool) {n : Nat} (h : n ≤ 40) : (picked f n n).length ≤ 2000000 := by
  have h1 := picked_length f n n
  have h3 : n * n ≤ 40 * 40 := Nat.mul_le_mul h h
  omega
theorem invL_len (n : Int) (r : List (List Int)) : (invL n r).1.length ≤ 2000000 := by
  rcases h : relB n r with _ | _
  · rw [invL_no h]; simp
  · unfold invL; rw [if_pos h]; exact picked_len40 _ (by have := rel_small h; omega)
theorem invL_inner (n : Int) (r : List (List Int)) : ∀ xs ∈ (invL n r).1, xs.length ≤ 2000000 := by
  rcases h : relB n r with _ | _
  · rw [invL_no h]; simp
  · unfold invL; rw [if_pos h]; intro xs hx; have := picked_inner _ _ _ xs hx; omega
theorem rel_nat {n : Int} {r : List (List Int)} (h : relB n r = true) : ∃ k : Nat, n = k ∧ 1 ≤ k ∧ k ≤ 40 := ⟨n.toNat, by have := rel_small h; omega, by have := rel_small h; omega, by have := rel_small h; omega⟩
set_option maxHeartbeats 2000000 in
set_option maxRecDepth 100000 in
theorem specInv_any (nn : Int) (A : Option Addr) (len c : Nat) (r : List (List Int)) (w : World) (B : Nat) (h : RRow w B A r) (hB : B ≤ w.heap.size) (l : r.length = len) (m : len ≤ 2000000) (m2 : ∀ xs ∈ r, xs.length ≤ 2000000) :
    Calls Try.prog 53 #[.int .i64 nn, .slice A len c] w fun e w' => RetJ2 w (invL nn r) e w' := by
  have C := Lib.hid (l02Relation_any nn A len c r w B h l m m2)
  rcases hr : relB nn r with _ | _
  · have HR := Lib.hid hr
    have HI := Lib.hid (invL_no hr)
    clear l m2 hr
    go_enter Try.func53, Try.ntmps53
    go_wp2_with (go_at_call 86; refine (C.out).mono ?_; rw [HR.out]; rintro e w1 ⟨rfl, hD⟩)
    go_ret2
    exact RetJ2.nil HI.out (hD.below _)
  · obtain ⟨n, rfl, hn1, hn⟩ := rel_nat hr
    have HI := Lib.hid (invL_yes hr)
    have HR := Lib.hid hr
    have L := Lib.hid l
    obtain ⟨N, hN0⟩ : ∃ N, N = n * n := ⟨_, rfl⟩
    have hN := Lib.hid hN0
    clear hN0
    obtain ⟨i0, hi, hz0, hz1, hz2⟩ := info_parts info_bool
    obtain ⟨hsq, hN6⟩ := sq_num hn hN.out
    have h40 : (n : Int) ≤ 40 := by omega
    clear l m2 hr hn1
    go_enter Try.func53, Try.ntmps53
    go_wp2_with fail
    refine (C.out).mono ?_; rw [HR.out]; rintro e w0 ⟨rfl, hD0⟩
    have hb0 := hD0.below w.heap.size
    have hs0 := hb0.size
    have hr0 := h.below (hb0.mono hB)
    clear hD0 C
    go_wp2_with (at_make; refine wpList_make_full _ rfl _ _ _ rfl w0.heap.size 4 i0 (.bool false) 1 Try.underlying50 hi hz0 hz1 .i64 .i64 _ _ N rfl rfl rfl rfl (by rw [hz2]; omega) (by unfold maxLen; omega) (Nat.le_refl _) ?_; intro w1 hown1 hg1)
    have H0 := Lib.hid (HasMat.new hN.out hown1)
    have hb1 : Below w0.heap.size w0 w1 := (Below.refl _ _).grown hg1 (Nat.le_refl _) (by simp)
    clear hown1 hg1 hi hz0 hz1 hz2
    go_loopw [7] (fun i wr => ∃ k : Nat, k ≤ len ∧ i = .int .i64 k ∧ HasMat wr w0.heap.size w0.heap.size N (invTo r k) n ∧ Below w0.heap.size w0 wr) (fun i _ => len - (intOf i).toNat)
    case atStart => exact ⟨0, Nat.zero_le _, rfl, H0.out.congr fun i j _ _ => (invTo_zero r i j).symm, hb1⟩
    case round =>
      obtain ⟨k, hk, rfl, HV, hb⟩ := hrel
      clear H0 hb1
      by_cases hlt : k < len
      · obtain ⟨b, o, b2, o2, c', u, v, rfl, hbB, hc, hb2, hcu, hcv, hu, hv, hx⟩ := pair_at (hr0.below (hb.mono (by omega))) HR.out (k := k) (by rw [L.out]; exact hlt)
        have hu' : u < n := by omega
        have hv' : v < n := by omega
        obtain ⟨s, ⟨e1, e0⟩, e2, e3, e4, hs, hsN, hcm, hfz, HS⟩ := (HV.drawn (Drawn.refl _).drew).at_ hn hv' hu'
        have hcu2 : wr.drew.cell? ⟨b2, o2, none⟩ = some (.int .i64 (u : Int)) := hcu
        have hcv2 : wr.drew.cell? ⟨b2, o2 + 1, none⟩ = some (.int .i64 (v : Int)) := hcv
        have hc2 : wr.drew.cell? ⟨b, o + k, none⟩ = some (.slice (some ⟨b2, o2, none⟩) 2 c') := hc
        have hsN' : (s : Int) + (u : Int) < (N : Int) := by omega
        have HB := Lib.hid hb
        have HV2 := Lib.hid HV
        clear hb HV
        go_wp2
        go_still_tail 17, (by kernel_rfl)
        change wpList _ _ _ _ _ wr.drew
        clear e0 e1 e2 e3 e4
        go_wp2
        go_roundw
        case rel => exact ⟨k + 1, by omega, by go_num, ((HV2.out.put hv' hu' HS).drawn (Drawn.refl _).drew).congr fun i j _ _ => (invTo_next hx.out i j).symm, (HB.out.setCell (Nat.le_refl _) _).trans (below_drewN _ _ 1)⟩
        case measure => simp [intOf]; omega
      · have HV2 := Lib.hid (show HasMat wr w0.heap.size w0.heap.size N (fun i j => memF r j i) n from HV.congr fun i j _ _ => by rw [invTo, memTo_all r (by rw [L.out]; omega)])
        have HB := Lib.hid hb
        have C2 := Lib.hid (l02List_any w0.heap.size N n _ wr w0.heap.size HV2.out hn)
        clear HV hb
        go_wp2_with (go_at_call 58; refine (C2.out).mono ?_; rintro e w3 ⟨v, rfl, hv, hb3⟩)
        go_ret2
        exact RetJ2.mk' HI.out (hv.base (by have := HB.out.size; omega)) (hb0.trans ((HB.out.mono hs0).trans (hb3.mono (by have := HB.out.size; omega))))
end Go.Proofs.Ythnopigibjmgbaa
