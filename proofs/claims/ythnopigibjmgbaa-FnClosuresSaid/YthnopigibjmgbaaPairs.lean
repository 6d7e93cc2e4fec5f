/- PairsOf. -/
import Derived.Test.YthnopigibjmgbaaProg
import Derived.WalkKit
import Derived.ProofKit
import Derived.BigQuiet
import Derived.Outline
import Derived.IntWalk
import Derived.Test.YthnopigibjmgbaaMem
import Derived.Test.YthnopigibjmgbaaOwn
import Derived.Test.YthnopigibjmgbaaTurn
import Derived.Test.YthnopigibjmgbaaLawI
import Derived.Test.YthnopigibjmgbaaLawI2
import Derived.Test.YthnopigibjmgbaaLawII
import Derived.Test.YthnopigibjmgbaaPart3
import Derived.Test.YthnopigibjmgbaaRelM
import Derived.Test.YthnopigibjmgbaaBuild
namespace Go.Proofs.Ythnopigibjmgbaa
open Go.RowKit
/-- A slice of slices that the call has built. -/
def RetBuild (w : World) (xss : List (List Int)) (e : Ending) (w' : World) : Prop := ∃ v, e = .returned v ∧ Build w' w.heap.size v xss ∧ Below w.heap.size w w'
theorem own_drawN {w : World} {base : Nat} {T : TypeId} {s n : Nat} {v : Value} {vs : List Value} (h : w.ownsRow base T s v n vs) (k : Nat) : (w.drewN k).ownsRow base T s v n vs := h
set_option maxHeartbeats 2000000 in
theorem l02Pairs_any (A : Option Addr) (n c : Nat) (p : List Int) (w : World) (B : Nat) (h : IRow w B A p) (hB : B ≤ w.heap.size) (l : p.length = n) (m : n ≤ 40) :
    Calls Try.prog 85 #[.slice A n c] w fun e w' => RetBuild w (picked (twin p) n n) e w' := by
  have L := Lib.hid l
  clear l
  go_enter Try.func85, Try.ntmps85
  go_wp2
  have HB0 := Lib.hid (Build.made w w.heap.size (Nat.le_refl _))
  have hbl : Below w.heap.size w (w.alloc (.cells #[] 30)) := (Below.refl _ _).alloc (Nat.le_refl _) _
  go_loopw [3, 4] (fun v i wr => ∃ k : Nat, k ≤ n ∧ i = .int .i64 k ∧ Build wr w.heap.size v (picked (twin p) n k) ∧ Below w.heap.size w wr) (fun _ i _ => n - (intOf i).toNat)
  case atStart => exact ⟨0, Nat.zero_le _, rfl, HB0.out, hbl⟩
  case round =>
    obtain ⟨k, hk, rfl, HV, hb⟩ := hrel
    clear HB0 hbl
    by_cases hlt : k < n
    · have HV2 := Lib.hid (show Build _ _ _ (pickTo (twin p) n k (k + 1)) from by rw [pickTo_start fun c hc => twin_low hc]; exact HV)
      clear HV
      go_wp2
      go_loopw [3, 5] (fun v i wr => ∃ q : Nat, k + 1 ≤ q ∧ q ≤ n ∧ i = .int .i64 q ∧ Build wr w.heap.size v (pickTo (twin p) n k q) ∧ Below w.heap.size w wr) (fun _ i _ => n - (intOf i).toNat)
      case atStart => exact ⟨k + 1, by omega, by omega, by go_num, HV2.out, hb⟩
      case round =>
        obtain ⟨q, hq1, hq2, rfl, HV, hb⟩ := hrel
        clear HV2
        obtain ⟨wo, rfl⟩ : ∃ wo : World, wo = wr := ⟨_, rfl⟩
        by_cases hlt2 : q < n
        · obtain ⟨b1, o1, u, rfl, hb1, hc1, hu⟩ := (h.below (hb.mono hB)).at_ (k := k) (by rw [L.out]; exact hlt)
          obtain ⟨b2, o2, x, hbe, hb2, hc2, hx⟩ := (h.below (hb.mono hB)).at_ (k := q) (by rw [L.out]; exact hlt2)
          obtain ⟨rfl, rfl⟩ : b2 = b1 ∧ o2 = o1 := by simp only [Option.some.injEq, Addr.mk.injEq, and_true] at hbe; exact ⟨hbe.1.symm, hbe.2.symm⟩
          clear hbe
          by_cases he : u = x
          · subst he
            have hbe : (u == u) = true := by simp
            have HT := Lib.hid (pickTo_yes (n := n) (twin_yes (by omega) hu.out hx.out))
            have hlen := pickTo_length (twin p) n k q
            have hlen2 : k * n ≤ 40 * 40 := Nat.mul_le_mul (by omega) m
            have HV2 := Lib.hid HV
            have HB := Lib.hid hb
            have hsz := hb.size
            clear HV hb
            go_wp2
            go_quiet (fail)
            go_wp2_with (at_builtin; refine wpList_append_pair rfl _ _ rfl _ w.heap.size _ _ _ _ rfl (HV2.out.drewN _) hsz rfl (by omega) ?_; intro v2 w2 hv2 hb2; have HV3 := Lib.hid hv2; have HB3 := Lib.hid hb2; clear hv2 hb2)
            go_roundw
            case rel => exact ⟨q + 1, by omega, by omega, by go_num, by rw [HT.out]; exact HV3.out, HB.out.trans ((below_drewN _ _ _).trans HB3.out)⟩
            case measure => simp [intOf]; omega
          · have hbe : (u == x) = false := by simp [he]
            have HT := Lib.hid (pickTo_no (n := n) (twin_no hu.out hx.out he))
            clear he
            have HV2 := Lib.hid HV
            have HB := Lib.hid hb
            clear HV hb
            go_wp2
            go_quiet (fail)
            go_wp2
            go_roundw
            case rel => exact ⟨q + 1, by omega, by omega, by go_num, by rw [HT.out]; exact HV2.out.drewN _, HB.out.trans (below_drewN _ _ _)⟩
            case measure => simp [intOf]; omega
        · obtain rfl : q = n := by omega
          have HV2 := Lib.hid (show Build _ _ _ (picked (twin p) q (k + 1)) from HV)
          clear HV
          go_wp2
          go_roundw
          case rel => exact ⟨k + 1, by omega, by go_num, HV2.out, hb⟩
          case measure => simp [intOf]; omega
    · obtain rfl : k = n := by omega
      have H : RetBuild w (picked (twin p) k k) (.returned _) wr := ⟨_, rfl, HV, hb⟩
      go_wp2
      go_ret
      exact H
/-- A slice of slices of the call's own, and a code. -/
def RetJ2 (w : World) (r : List (List Int) × Int) (e : Ending) (w' : World) : Prop :=
  ∃ A n c, e = .returned (.tuple #[.slice A n c, .int .i64 r.2]) ∧ OwnVV w' w.heap.size w'.heap.size A n c r.1 ∧ Below w.heap.size w w'
theorem RetJ2.nil {w w' : World} {code : Int} {r : List (List Int) × Int} (hr : r = ([], code)) (hb : Below w.heap.size w w') : RetJ2 w r (.returned (.tuple #[.slice none 0 0, .int .i64 code])) w' := by
  subst hr
  exact ⟨none, 0, 0, rfl, OwnVV.nil _ _ _, hb⟩
theorem RetJ2.mk' {w w' : World} {c : Int} {xss : List (List Int)} {v : Value} {r : List (List Int) × Int} (hr : r = (xss, c)) (hv : Build w' w.heap.size v xss) (hb : Below w.heap.size w w') : RetJ2 w r (.returned (.tuple #[v, .int .i64 c])) w' := by
  subst hr
  obtain ⟨A, cc, rfl, h⟩ := hv.done
  exact ⟨A, _, cc, rfl, h, hb⟩
set_option maxHeartbeats 2000000 in
theorem specPairs_any (A : Option Addr) (n c : Nat) (p : List Int) (w : World) (B : Nat) (h : IRow w B A p) (hB : B ≤ w.heap.size) (l : p.length = n) (m : n ≤ 2000000) :
    Calls Try.prog 48 #[.slice A n c] w fun e w' => RetJ2 w (pairsL p) e w' := by
  have C := Lib.hid (l02Is_any A n c p w B h l m)
  rcases hp : partB p with _ | _
  · have HR := Lib.hid (pairsL_no hp)
    have HP := Lib.hid hp
    clear hp l
    go_enter Try.func48, Try.ntmps48
    go_wp2_with (go_at_call 66; refine (C.out).mono ?_; rw [HP.out]; rintro e w' ⟨rfl, rfl⟩)
    go_ret2
    exact RetJ2.nil HR.out (Below.refl _ _)
  · have HR := Lib.hid (pairsL_yes hp)
    have HP := Lib.hid hp
    have C2 := Lib.hid (l02Pairs_any A n c p w B h hB l (by have := (partB_iff.1 hp).2.1; omega))
    have L := Lib.hid l
    clear hp l
    go_enter Try.func48, Try.ntmps48
    go_wp2_with (first | (go_at_call 66; refine (C.out).mono ?_; rw [HP.out]; rintro e w' ⟨rfl, rfl⟩) | (go_at_call 85; refine (C2.out).mono ?_; rintro e w1 ⟨v, rfl, hv, hb⟩))
    go_ret2
    exact RetJ2.mk' (by rw [HR.out, L.out]) hv hb
set_option maxHeartbeats 2000000 in
theorem implPairs_any (A : Option Addr) (n c : Nat) (p : List Int) (w : World) (B : Nat) (h : IRow w B A p) (hB : B ≤ w.heap.size) (l : p.length = n) (m : n ≤ 2000000) (hwf : ∀ x ∈ p, (Lit.int .i64 x).wf = true) :
    Calls Try.prog 49 #[.slice A n c] w fun e w' => RetJ2 w (pairsL p) e w' := by
  have C := Lib.hid (implIsPart_any A n c p w B h hB l m hwf)
  clear hwf
  rcases hp : partB p with _ | _
  · have HR := Lib.hid (pairsL_no hp)
    have HP := Lib.hid hp
    clear hp l
    go_enter Try.func49, Try.ntmps49
    go_wp2_with (go_at_call 27; refine (C.out).mono ?_; rw [HP.out]; rintro e w' ⟨rfl, hb⟩)
    go_ret2
    exact RetJ2.nil HR.out hb
  have m : n ≤ 40 := by have := (partB_iff.1 hp).2.1; omega
  have HP := Lib.hid hp
  have L := Lib.hid l
  clear hp l
  go_enter Try.func49, Try.ntmps49
  go_wp2_with (go_at_call 27; refine (C.out).mono ?_; rw [HP.out]; rintro e w0 ⟨rfl, hb0⟩)
  go_loopw [4, 12] (fun v i wr => ∃ k : Nat, k ≤ n ∧ i = .int .i64 k ∧ Build wr w.heap.size v (picked (twin p) n k) ∧ Below w.heap.size w wr) (fun _ i _ => n - (intOf i).toNat)
  case atStart => exact ⟨0, Nat.zero_le _, rfl, Build.nil _ _, hb0⟩
  case round =>
    obtain ⟨k, hk, rfl, HV, hb⟩ := hrel
    by_cases hlt : k < n
    · have HV2 := Lib.hid (show Build _ _ _ (pickTo (twin p) n k (k + 1)) from by rw [pickTo_start fun c hc => twin_low hc]; exact HV)
      clear HV
      go_wp2
      go_loopw [4, 6] (fun v i wr => ∃ q : Nat, k + 1 ≤ q ∧ q ≤ n ∧ i = .int .i64 q ∧ Build wr w.heap.size v (pickTo (twin p) n k q) ∧ Below w.heap.size w wr) (fun _ i _ => n - (intOf i).toNat)
      case atStart => exact ⟨k + 1, by omega, by omega, by go_num, HV2.out, hb⟩
      case round =>
        obtain ⟨q, hq1, hq2, rfl, HV, hb⟩ := hrel
        clear HV2
        obtain ⟨wo, rfl⟩ : ∃ wo : World, wo = wr := ⟨_, rfl⟩
        by_cases hlt2 : q < n
        · obtain ⟨b1, o1, u, rfl, hb1, hc1, hu⟩ := (h.below (hb.mono hB)).at_ (k := k) (by rw [L.out]; exact hlt)
          obtain ⟨b2, o2, x, hbe, hb2, hc2, hx⟩ := (h.below (hb.mono hB)).at_ (k := q) (by rw [L.out]; exact hlt2)
          obtain ⟨rfl, rfl⟩ : b2 = b1 ∧ o2 = o1 := by simp only [Option.some.injEq, Addr.mk.injEq, and_true] at hbe; exact ⟨hbe.1.symm, hbe.2.symm⟩
          clear hbe
          by_cases he : u = x
          · subst he
            have hbe : (u == u) = true := by simp
            have HT := Lib.hid (pickTo_yes (n := n) (twin_yes (by omega) hu.out hx.out))
            have hlen := pickTo_length (twin p) n k q
            have hlen2 : k * n ≤ 40 * 40 := Nat.mul_le_mul (by omega) m
            have HV2 := Lib.hid HV
            have HB := Lib.hid hb
            have hsz := hb.size
            clear HV hb
            go_wp2
            go_quiet (fail)
            go_wp2_with (at_builtin; refine wpList_append_pair rfl _ _ rfl _ w.heap.size _ _ _ _ rfl (HV2.out.drewN _) hsz rfl (by omega) ?_; intro v2 w2 hv2 hb2; have HV3 := Lib.hid hv2; have HB3 := Lib.hid hb2; clear hv2 hb2)
            go_roundw
            case rel => exact ⟨q + 1, by omega, by omega, by go_num, by rw [HT.out]; exact HV3.out, HB.out.trans ((below_drewN _ _ _).trans HB3.out)⟩
            case measure => simp [intOf]; omega
          · have hbe : (u == x) = false := by simp [he]
            have HT := Lib.hid (pickTo_no (n := n) (twin_no hu.out hx.out he))
            clear he
            have HV2 := Lib.hid HV
            have HB := Lib.hid hb
            clear HV hb
            go_wp2
            go_quiet (fail)
            go_wp2
            go_roundw
            case rel => exact ⟨q + 1, by omega, by omega, by go_num, by rw [HT.out]; exact HV2.out.drewN _, HB.out.trans (below_drewN _ _ _)⟩
            case measure => simp [intOf]; omega
        · obtain rfl : q = n := by omega
          have HV2 := Lib.hid (show Build _ _ _ (picked (twin p) q (k + 1)) from HV)
          clear HV
          go_wp2
          go_roundw
          case rel => exact ⟨k + 1, by omega, by go_num, HV2.out, hb⟩
          case measure => simp [intOf]; omega
    · obtain rfl : k = n := by omega
      have HR := Lib.hid (pairsL_yes HP.out)
      have H : RetJ2 w (pairsL p) (.returned (.tuple #[_, .int .i64 0])) wr := RetJ2.mk' (by rw [HR.out, L.out]) HV hb
      go_wp2
      go_ret2
      exact H
end Go.Proofs.Ythnopigibjmgbaa
