/- The laws' own helpers that mark lists of records and look whether the marks are held. -/
import Derived.WalkKit
import Derived.ProofKit
import Derived.BigQuiet
import Derived.Outline
import Derived.Deep.RegionHeld3
import Derived.Test.YtbailpfjgjcbdaaGreatDoorMrkI
import Derived.Test.YtbailpfjgjcbdaaGreatDoorLow
namespace Go.Proofs.YtbailpfjgjcbdaaGreatDoor
open Go.RowKit
set_option maxRecDepth 100000 in
set_option maxHeartbeats 1000000 in
theorem markOEdgeS_any (A : Option Addr) (n c : Nat) (k0 : Int) (xs : List (Ed)) (w : World) (S : Nat → Prop) (h : OL edO 79 w S A n c xs) (k1 : 1 ≤ k0) (k2 : k0 + cntL edM xs ≤ 1000000000000) :
    Calls Tryz.prog 38 #[.slice A n c, .int .i64 k0] w (MarkRet edO 79 edM k0 S A n c xs w) := by
  have L := Lib.hid h.len
  have hn : n ≤ 9223372036854775807 := by have := h.cap; unfold maxLen at this; omega
  have K2 := Lib.hid k2
  clear k2
  go_enter Tryz.func38, Tryz.ntmps38
  go_wp2
  go_loopw [1, 5] (fun x i wr => ∃ k : Nat, k ≤ n ∧ i = .int .i64 k ∧ x = .int .i64 (k0 + cntL edM (xs.take k)) ∧ Hid (OL edO 79 wr S A n c (midL edM k0 xs k)) ∧ Hid (TurnS S w wr)) (fun _ i _ => n - (intOf i).toNat)
  case atStart => exact ⟨0, Nat.zero_le _, rfl, by simp [cntL], Lib.hid (by rw [midL_zero]; exact h), Lib.hid (TurnS.refl _ _)⟩
  case round =>
    obtain ⟨k, hk, rfl, rfl, HO, HT⟩ := hrel
    clear h
    by_cases hlt : k < n
    · obtain ⟨x, hx⟩ : ∃ x, xs[k]? = some x := ⟨_, List.getElem?_eq_getElem (by rw [L.out]; exact hlt)⟩
      have htk := cntL_take (M := edM) xs (k + 1)
      have hks := cntL_succ (M := edM) hx
      obtain ⟨g, pre, cs, post, E, rfl, hgS, hgE, hES, hpre, hgw, hrow, hO, hclose⟩ := HO.out.open_ (midL_at (k0 := k0) (M := edM) hx)
      have hpre : pre.length = k * 3 := hpre
      have hrow : wr.ownsRow 0 79 3 (.slice (some ⟨g, 0, none⟩) n c) n (pre ++ (cs ++ post)) := hrow
      have HX := Lib.hid hx
      obtain ⟨K, hK⟩ : ∃ K : Int, K = k0 + cntL edM (xs.take k) := ⟨_, rfl⟩
      have hK1 : 1 ≤ K := by omega
      have hK2 : K + (edM.cnt x : Nat) ≤ 1000000000000 := by have := K2.out; omega
      have HK := Lib.hid hK
      rw [← hK]
      have HKS := Lib.hid hks
      clear hK hks htk hx k1
      obtain rfl : cs = [Value.int .i64 x.f, Value.int .i64 x.l, Value.int .i64 x.t] := hO
      have HROW := Lib.hid hrow
      have HPRE := Lib.hid hpre
      have HCL := Lib.hid hclose
      clear hrow hpre hclose
      have pc0 : wr.cell? ⟨g, k * 3, none⟩ = some (.int .i64 x.f) := (own_part (j := 0) HROW.out HPRE.out (by omega) rfl rfl hlt).1
      have pf0 : wr.frozen? ⟨g, k * 3, none⟩ = false := (own_part (j := 0) HROW.out HPRE.out (by omega) rfl rfl hlt).2
      have pc1 : wr.cell? ⟨g, k * 3 + 1, none⟩ = some (.int .i64 x.l) := (own_part (j := 1) HROW.out HPRE.out (by omega) rfl rfl hlt).1
      have pf1 : wr.frozen? ⟨g, k * 3 + 1, none⟩ = false := (own_part (j := 1) HROW.out HPRE.out (by omega) rfl rfl hlt).2
      have pc2 : wr.cell? ⟨g, k * 3 + 2, none⟩ = some (.int .i64 x.t) := (own_part (j := 2) HROW.out HPRE.out (by omega) rfl rfl hlt).1
      have pf2 : wr.frozen? ⟨g, k * 3 + 2, none⟩ = false := (own_part (j := 2) HROW.out HPRE.out (by omega) rfl rfl hlt).2
      have hcnt : ((edM.cnt x : Nat) : Int) = 3 := rfl
      rw [hcnt] at hK2
      have HCNT := Lib.hid hcnt
      clear hcnt
      have st0 := own_store (p := k * 3) (j := 0) HROW.out HPRE.out (by omega) (by simp) (.int .i64 (K))
      have st1 := own_store (p := k * 3 + 1) (j := 1) st0.1 HPRE.out (by omega) (by simp) (.int .i64 (K + 1))
      have st2 := own_store (p := k * 3 + 2) (j := 2) st1.1 HPRE.out (by omega) (by simp) (.int .i64 (K + 1 + 1))
      go_wp2
      go_roundw
      case rel =>
        refine ⟨k + 1, by omega, by go_num, congrArg (Value.int .i64) (by have h1 := HKS.out; have h2 := HK.out; have h3 := HCNT.out; omega), Lib.hid ?_, Lib.hid (HT.out.trans ((((((((TurnS.refl (fun b => b = g) wr).trans st0.2).trans st1.2).trans st2.2)).more (S' := fun b => b = g ∨ E b) fun b hb => Or.inl hb)).more fun b hb => hb.elim (fun e => e ▸ hgS) (fun e => hES b e)))⟩
        have hfin := HCL.out _ _ (edM.md K x) (st2.1) (rfl) (((((((TurnS.refl (fun b => b = g) wr).trans st0.2).trans st1.2).trans st2.2)).more (S' := fun b => b = g ∨ E b) fun b hb => Or.inl hb))
        have e := midL_succ (M := edM) (k0 := k0) HX.out
        rw [← HK.out] at e
        rw [e] at hfin
        exact hfin
      case measure => simp [intOf]; omega
    · obtain rfl : k = n := by omega
      have HA := Lib.hid (midL_all (M := edM) (k0 := k0) L.out)
      have HTK := Lib.hid (show xs.take k = xs from List.take_of_length_le (by rw [L.out]; exact Nat.le_refl _))
      go_wp2
      go_ret
      exact ⟨ret_int (by rw [HTK.out]), by rw [← HA.out]; exact HO.out, HT.out⟩
set_option maxRecDepth 100000 in
set_option maxHeartbeats 1000000 in
theorem heldOEdgeS_any (A : Option Addr) (n c : Nat) (k0 : Int) (xs : List (Ed)) (w : World) (S : Nat → Prop) (h : LRow edR w S A (mkL edM k0 xs)) (hS : ∀ b, S b → b < w.heap.size) (l : xs.length = n) (hn : n ≤ maxLen) (k1 : 1 ≤ k0) (k2 : k0 + cntL edM xs ≤ 1000000000000) :
    Calls Tryz.prog 56 #[.slice A n c, .int .i64 k0] w fun e w' => e = .returned (.int .i64 (k0 + cntL edM xs)) ∧ Below w.heap.size w w' := by
  unfold maxLen at hn
  have L := Lib.hid l
  have K2 := Lib.hid k2
  clear k2 l
  go_enter Tryz.func56, Tryz.ntmps56
  go_wp2
  go_loopw [1, 5] (fun x i wr => ∃ k : Nat, k ≤ n ∧ i = .int .i64 k ∧ x = .int .i64 (k0 + cntL edM (xs.take k)) ∧ Hid (Below w.heap.size w wr)) (fun _ i _ => n - (intOf i).toNat)
  case atStart => exact ⟨0, Nat.zero_le _, rfl, by simp [cntL], Lib.hid (Below.refl _ _)⟩
  case round =>
    obtain ⟨k, hk, rfl, rfl, HB⟩ := hrel
    by_cases hlt : k < n
    · obtain ⟨x, hx⟩ : ∃ x, xs[k]? = some x := ⟨_, List.getElem?_eq_getElem (by rw [L.out]; exact hlt)⟩
      obtain ⟨b, o, cs, y, rfl, hbS, hR, hy, hc⟩ := (h.keep (SameOn.of_below HB.out hS)).at_ (k := k) (by rw [mkL_length, L.out]; exact hlt)
      have htk := cntL_take (M := edM) xs (k + 1)
      have hks := cntL_succ (M := edM) hx
      have hym := hy.out.symm.trans (mkL_at (k0 := k0) (M := edM) hx)
      injection hym with hym
      have hws := HB.out.size
      have hbw : b < wr.heap.size := Nat.lt_of_lt_of_le (hS b hbS) hws
      have HX := Lib.hid hx
      obtain ⟨K, hK⟩ : ∃ K : Int, K = k0 + cntL edM (xs.take k) := ⟨_, rfl⟩
      have hK1 : 1 ≤ K := by omega
      have hK2 : K + (edM.cnt x : Nat) ≤ 1000000000000 := by have := K2.out; omega
      have HK := Lib.hid hK
      rw [← hK] at hym ⊢
      have HKS := Lib.hid hks
      clear hK hks htk hx hy
      rw [hym] at hR
      clear hym
      have hR : cs = [.int .i64 (K), .int .i64 (K + 1), .int .i64 (K + 1 + 1)] := hR
      subst hR
      have hc0 : wr.cell? ⟨b, o + k * 3, none⟩ = some (.int .i64 (K)) := hc 0 _ rfl
      have hc1 : wr.cell? ⟨b, o + k * 3 + 1, none⟩ = some (.int .i64 (K + 1)) := hc 1 _ rfl
      have hc2 : wr.cell? ⟨b, o + k * 3 + 2, none⟩ = some (.int .i64 (K + 1 + 1)) := hc 2 _ rfl
      clear hc
      have hcnt : ((edM.cnt x : Nat) : Int) = 3 := rfl
      rw [hcnt] at hK2
      have HCNT := Lib.hid hcnt
      clear hcnt
      have hbwr : b < wr.heap.size := hbw
      have HBwr := Lib.hid (Below.refl wr.heap.size wr)
      have wrc0 := hc0
      clear hc0
      have wrc1 := hc1
      clear hc1
      have wrc2 := hc2
      clear hc2
      have hi0 : ((K) != (K)) = false := by simp
      have hi1 : ((K + 1) != (K + 1)) = false := by simp
      have hi2 : ((K + 1 + 1) != (K + 1 + 1)) = false := by simp
      go_wp2
      go_roundw
      case rel => exact ⟨k + 1, by omega, by go_num, congrArg (Value.int .i64) (by have h1 := HKS.out; have h2 := HK.out; have h3 := HCNT.out; omega), Lib.hid (HB.out.trans (HBwr.out.mono hws))⟩
      case measure => simp [intOf]; omega
    · obtain rfl : k = n := by omega
      have HTK := Lib.hid (show xs.take k = xs from List.take_of_length_le (by rw [L.out]; exact Nat.le_refl _))
      go_wp2
      go_ret
      exact ⟨ret_int (by rw [HTK.out]), HB.out⟩
end Go.Proofs.YtbailpfjgjcbdaaGreatDoor
