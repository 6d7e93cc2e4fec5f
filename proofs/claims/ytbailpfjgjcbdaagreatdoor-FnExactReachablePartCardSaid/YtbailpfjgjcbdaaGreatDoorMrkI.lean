/- The laws' own helpers that mark lists of records and look whether the marks are held. -/
import Derived.WalkKit
import Derived.ProofKit
import Derived.BigQuiet
import Derived.Outline
import Derived.Deep.RegionHeld3
import Derived.Test.YtbailpfjgjcbdaaGreatDoorLow
import Derived.Test.YtbailpfjgjcbdaaGreatDoorDatI
namespace Go.Proofs.YtbailpfjgjcbdaaGreatDoor
open Go.RowKit
theorem bytes_cons (c : UInt8) (s : List UInt8) : (⟨#[c]⟩ : ByteArray) ++ ⟨s.toArray⟩ = ⟨(c :: s).toArray⟩ := by
  apply ByteArray.ext
  simp [ByteArray.data_append]
set_option maxRecDepth 100000 in
set_option maxHeartbeats 2000000 in
theorem markText_any (k : Int) (w : World) (k1 : 1 ≤ k) (k2 : k ≤ 2000000000000) :
    Calls Tryz.prog 45 #[.int .i64 k] w fun e w' => e = .returned (.string (mkT k)) ∧ Below w.heap.size w w' := by
  obtain ⟨N, rfl⟩ : ∃ N : Nat, k = (N : Int) := ⟨k.toNat, by omega⟩
  have hN : decide (N = 0) = false := decide_eq_false (by omega)
  have hN0 : ¬ N = 0 := by omega
  go_enter Tryz.func45, Tryz.ntmps45
  go_wp2
  go_loopw [0, 3] (fun x y wr => ∃ (n f : Nat) (s : List UInt8), x = .int .i64 n ∧ y = .string ⟨s.toArray⟩ ∧ Hid (n < 10 ^ f) ∧ n ≤ 2000000000000 ∧ s.length ≤ 20 ∧ Hid (s.length + f = 20) ∧ Hid (dgs 20 N = dgs f n ++ s) ∧ Hid (Below w.heap.size w wr)) (fun x _ _ => (intOf x).toNat)
  case atStart => exact ⟨N, 20, [], rfl, rfl, Lib.hid (by omega), by omega, by simp, Lib.hid rfl, Lib.hid (by simp), Lib.hid (Below.refl _ _)⟩
  case round =>
    obtain ⟨n, f, s, rfl, rfl, hf, hn, hsl, HF, HD, HB⟩ := hrel
    by_cases h0 : 0 < n
    · have hlt : n % 10 < 10 := Nat.mod_lt _ (by decide)
      have HCV : (convert 101 9 (.slice (some ⟨wr.heap.size, 0, none⟩) 1 1)).run Tryz.prog (wr.alloc (.cells #[.int .u8 (48 + (n : Int) % 10)] 5)) = .ok (.string ⟨[UInt8.ofNat (48 + n % 10)].toArray⟩) (wr.alloc (.cells #[.int .u8 (48 + (n : Int) % 10)] 5)) :=
        run_convert_bytes_back (P := Tryz.prog) (wr.alloc (.cells #[.int .u8 (48 + (n : Int) % 10)] 5)) 101 9 5 ⟨wr.heap.size, 0, none⟩ 1 [UInt8.ofNat (48 + n % 10)] Tryz.underlying101 Tryz.underlying5 Tryz.underlying9 (fun j hj => by
          obtain rfl : j = 0 := by simpa using hj
          have e0 : (⟨wr.heap.size, 0, none⟩ : Addr).add 0 = ⟨wr.heap.size, 0, none⟩ := by unfold Addr.add; split <;> simp_all
          rw [e0]
          simp [go_sem]
          omega)
      have HB2 := Lib.hid (HB.out.alloc (by have := HB.out.size; omega) (.cells #[.int .u8 (48 + (n : Int) % 10)] 5))
      have hq : ((n / 10 : Nat) : Int) = (n : Int) / 10 := by omega
      go_wp2
      go_roundw
      case rel =>
        obtain _ | f := f
        · have := hf.out; simp at this; omega
        · refine ⟨n / 10, f, UInt8.ofNat (48 + n % 10) :: s, by go_num, by simp [bytes_cons], Lib.hid (by have := hf.out; rw [Nat.pow_succ] at this; omega), by omega, by have := HF.out; simp; omega, Lib.hid (by have := HF.out; simp; omega), Lib.hid ?_, HB2⟩
          rw [HD.out, dgs_step h0]
          simp
      case measure => simp [intOf]; omega
    · obtain rfl : n = 0 := by omega
      have HE := Lib.hid (show (⟨(109 :: s).toArray⟩ : ByteArray) = mkT N by
        have h1 := HD.out
        rw [dgs_zero, List.nil_append] at h1
        unfold mkT
        rw [Int.toNat_natCast, h1])
      go_wp2
      go_ret
      exact ⟨congrArg (fun v => Ending.returned (.string v)) ((bytes_cons 109 s).trans HE.out), HB.out⟩
set_option maxRecDepth 100000 in
set_option maxHeartbeats 1000000 in
theorem markOInt64S_any (A : Option Addr) (n c : Nat) (k0 : Int) (xs : List (Int)) (w : World) (S : Nat → Prop) (h : OL intO 2 w S A n c xs) (k1 : 1 ≤ k0) (k2 : k0 + cntL intM xs ≤ 1000000000000) :
    Calls Tryz.prog 15 #[.slice A n c, .int .i64 k0] w (MarkRet intO 2 intM k0 S A n c xs w) := by
  have L := Lib.hid h.len
  have hn : n ≤ 9223372036854775807 := by have := h.cap; unfold maxLen at this; omega
  have K2 := Lib.hid k2
  clear k2
  go_enter Tryz.func15, Tryz.ntmps15
  go_wp2
  go_loopw [1, 5] (fun x i wr => ∃ k : Nat, k ≤ n ∧ i = .int .i64 k ∧ x = .int .i64 (k0 + cntL intM (xs.take k)) ∧ Hid (OL intO 2 wr S A n c (midL intM k0 xs k)) ∧ Hid (TurnS S w wr)) (fun _ i _ => n - (intOf i).toNat)
  case atStart => exact ⟨0, Nat.zero_le _, rfl, by simp [cntL], Lib.hid (by rw [midL_zero]; exact h), Lib.hid (TurnS.refl _ _)⟩
  case round =>
    obtain ⟨k, hk, rfl, rfl, HO, HT⟩ := hrel
    clear h
    by_cases hlt : k < n
    · obtain ⟨x, hx⟩ : ∃ x, xs[k]? = some x := ⟨_, List.getElem?_eq_getElem (by rw [L.out]; exact hlt)⟩
      have htk := cntL_take (M := intM) xs (k + 1)
      have hks := cntL_succ (M := intM) hx
      obtain ⟨g, pre, cs, post, E, rfl, hgS, hgE, hES, hpre, hgw, hrow, hO, hclose⟩ := HO.out.open_ (midL_at (k0 := k0) (M := intM) hx)
      have hpre : pre.length = k * 1 := hpre
      have hrow : wr.ownsRow 0 2 1 (.slice (some ⟨g, 0, none⟩) n c) n (pre ++ (cs ++ post)) := hrow
      have HX := Lib.hid hx
      obtain ⟨K, hK⟩ : ∃ K : Int, K = k0 + cntL intM (xs.take k) := ⟨_, rfl⟩
      have hK1 : 1 ≤ K := by omega
      have hK2 : K + (intM.cnt x : Nat) ≤ 1000000000000 := by have := K2.out; omega
      have HK := Lib.hid hK
      rw [← hK]
      have HKS := Lib.hid hks
      clear hK hks htk hx k1
      obtain rfl : cs = [Value.int .i64 x] := hO
      have HROW := Lib.hid hrow
      have HPRE := Lib.hid hpre
      have HCL := Lib.hid hclose
      clear hrow hpre hclose
      have pc0 : wr.cell? ⟨g, k, none⟩ = some (.int .i64 x) := (own_part (j := 0) HROW.out HPRE.out (by omega) rfl rfl hlt).1
      have pf0 : wr.frozen? ⟨g, k, none⟩ = false := (own_part (j := 0) HROW.out HPRE.out (by omega) rfl rfl hlt).2
      have hcnt : ((intM.cnt x : Nat) : Int) = 1 := rfl
      rw [hcnt] at hK2
      have HCNT := Lib.hid hcnt
      clear hcnt
      have st0 := own_store (p := k) (j := 0) HROW.out HPRE.out (by omega) (by simp) (.int .i64 (K))
      go_wp2
      go_roundw
      case rel =>
        refine ⟨k + 1, by omega, by go_num, congrArg (Value.int .i64) (by have h1 := HKS.out; have h2 := HK.out; have h3 := HCNT.out; omega), Lib.hid ?_, Lib.hid (HT.out.trans ((((((TurnS.refl (fun b => b = g) wr).trans st0.2)).more (S' := fun b => b = g ∨ E b) fun b hb => Or.inl hb)).more fun b hb => hb.elim (fun e => e ▸ hgS) (fun e => hES b e)))⟩
        have hfin := HCL.out _ _ (intM.md K x) (st0.1) (rfl) (((((TurnS.refl (fun b => b = g) wr).trans st0.2)).more (S' := fun b => b = g ∨ E b) fun b hb => Or.inl hb))
        have e := midL_succ (M := intM) (k0 := k0) HX.out
        rw [← HK.out] at e
        rw [e] at hfin
        exact hfin
      case measure => simp [intOf]; omega
    · obtain rfl : k = n := by omega
      have HA := Lib.hid (midL_all (M := intM) (k0 := k0) L.out)
      have HTK := Lib.hid (show xs.take k = xs from List.take_of_length_le (by rw [L.out]; exact Nat.le_refl _))
      go_wp2
      go_ret
      exact ⟨ret_int (by rw [HTK.out]), by rw [← HA.out]; exact HO.out, HT.out⟩
set_option maxRecDepth 100000 in
set_option maxHeartbeats 1000000 in
theorem heldOInt64S_any (A : Option Addr) (n c : Nat) (k0 : Int) (xs : List (Int)) (w : World) (S : Nat → Prop) (h : LRow intR w S A (mkL intM k0 xs)) (hS : ∀ b, S b → b < w.heap.size) (l : xs.length = n) (hn : n ≤ maxLen) (k1 : 1 ≤ k0) (k2 : k0 + cntL intM xs ≤ 1000000000000) :
    Calls Tryz.prog 16 #[.slice A n c, .int .i64 k0] w fun e w' => e = .returned (.int .i64 (k0 + cntL intM xs)) ∧ Below w.heap.size w w' := by
  unfold maxLen at hn
  have L := Lib.hid l
  have K2 := Lib.hid k2
  clear k2 l
  go_enter Tryz.func16, Tryz.ntmps16
  go_wp2
  go_loopw [1, 5] (fun x i wr => ∃ k : Nat, k ≤ n ∧ i = .int .i64 k ∧ x = .int .i64 (k0 + cntL intM (xs.take k)) ∧ Hid (Below w.heap.size w wr)) (fun _ i _ => n - (intOf i).toNat)
  case atStart => exact ⟨0, Nat.zero_le _, rfl, by simp [cntL], Lib.hid (Below.refl _ _)⟩
  case round =>
    obtain ⟨k, hk, rfl, rfl, HB⟩ := hrel
    by_cases hlt : k < n
    · obtain ⟨x, hx⟩ : ∃ x, xs[k]? = some x := ⟨_, List.getElem?_eq_getElem (by rw [L.out]; exact hlt)⟩
      obtain ⟨b, o, cs, y, rfl, hbS, hR, hy, hc⟩ := (h.keep (SameOn.of_below HB.out hS)).at_ (k := k) (by rw [mkL_length, L.out]; exact hlt)
      have htk := cntL_take (M := intM) xs (k + 1)
      have hks := cntL_succ (M := intM) hx
      have hym := hy.out.symm.trans (mkL_at (k0 := k0) (M := intM) hx)
      injection hym with hym
      have hws := HB.out.size
      have hbw : b < wr.heap.size := Nat.lt_of_lt_of_le (hS b hbS) hws
      have HX := Lib.hid hx
      obtain ⟨K, hK⟩ : ∃ K : Int, K = k0 + cntL intM (xs.take k) := ⟨_, rfl⟩
      have hK1 : 1 ≤ K := by omega
      have hK2 : K + (intM.cnt x : Nat) ≤ 1000000000000 := by have := K2.out; omega
      have HK := Lib.hid hK
      rw [← hK] at hym ⊢
      have HKS := Lib.hid hks
      clear hK hks htk hx hy
      rw [hym] at hR
      clear hym
      have hR : cs = [.int .i64 (K)] := hR
      subst hR
      have hc0 : wr.cell? ⟨b, o + k, none⟩ = some (.int .i64 (K)) := by have e : wr.cell? ⟨b, o + k * 1 + 0, none⟩ = some (.int .i64 (K)) := hc 0 _ rfl; simpa using e
      clear hc
      have hcnt : ((intM.cnt x : Nat) : Int) = 1 := rfl
      rw [hcnt] at hK2
      have HCNT := Lib.hid hcnt
      clear hcnt
      have hbwr : b < wr.heap.size := hbw
      have HBwr := Lib.hid (Below.refl wr.heap.size wr)
      have wrc0 := hc0
      clear hc0
      have hi0 : ((K) != (K)) = false := by simp
      go_wp2
      go_roundw
      case rel => exact ⟨k + 1, by omega, by go_num, congrArg (Value.int .i64) (by have h1 := HKS.out; have h2 := HK.out; have h3 := HCNT.out; omega), Lib.hid (HB.out.trans (HBwr.out.mono hws))⟩
      case measure => simp [intOf]; omega
    · obtain rfl : k = n := by omega
      have HTK := Lib.hid (show xs.take k = xs from List.take_of_length_le (by rw [L.out]; exact Nat.le_refl _))
      go_wp2
      go_ret
      exact ⟨ret_int (by rw [HTK.out]), HB.out⟩
set_option maxRecDepth 100000 in
set_option maxHeartbeats 1000000 in
theorem markOStringS_any (A : Option Addr) (n c : Nat) (k0 : Int) (xs : List (ByteArray)) (w : World) (S : Nat → Prop) (h : OL txtO 9 w S A n c xs) (k1 : 1 ≤ k0) (k2 : k0 + cntL txtM xs ≤ 1000000000000) :
    Calls Tryz.prog 22 #[.slice A n c, .int .i64 k0] w (MarkRet txtO 9 txtM k0 S A n c xs w) := by
  have L := Lib.hid h.len
  have hn : n ≤ 9223372036854775807 := by have := h.cap; unfold maxLen at this; omega
  have K2 := Lib.hid k2
  clear k2
  go_enter Tryz.func22, Tryz.ntmps22
  go_wp2
  go_loopw [1, 5] (fun x i wr => ∃ k : Nat, k ≤ n ∧ i = .int .i64 k ∧ x = .int .i64 (k0 + cntL txtM (xs.take k)) ∧ Hid (OL txtO 9 wr S A n c (midL txtM k0 xs k)) ∧ Hid (TurnS S w wr)) (fun _ i _ => n - (intOf i).toNat)
  case atStart => exact ⟨0, Nat.zero_le _, rfl, by simp [cntL], Lib.hid (by rw [midL_zero]; exact h), Lib.hid (TurnS.refl _ _)⟩
  case round =>
    obtain ⟨k, hk, rfl, rfl, HO, HT⟩ := hrel
    clear h
    by_cases hlt : k < n
    · obtain ⟨x, hx⟩ : ∃ x, xs[k]? = some x := ⟨_, List.getElem?_eq_getElem (by rw [L.out]; exact hlt)⟩
      have htk := cntL_take (M := txtM) xs (k + 1)
      have hks := cntL_succ (M := txtM) hx
      obtain ⟨g, pre, cs, post, E, rfl, hgS, hgE, hES, hpre, hgw, hrow, hO, hclose⟩ := HO.out.open_ (midL_at (k0 := k0) (M := txtM) hx)
      have hpre : pre.length = k * 1 := hpre
      have hrow : wr.ownsRow 0 9 1 (.slice (some ⟨g, 0, none⟩) n c) n (pre ++ (cs ++ post)) := hrow
      have HX := Lib.hid hx
      obtain ⟨K, hK⟩ : ∃ K : Int, K = k0 + cntL txtM (xs.take k) := ⟨_, rfl⟩
      have hK1 : 1 ≤ K := by omega
      have hK2 : K + (txtM.cnt x : Nat) ≤ 1000000000000 := by have := K2.out; omega
      have HK := Lib.hid hK
      rw [← hK]
      have HKS := Lib.hid hks
      clear hK hks htk hx k1
      obtain ⟨rfl, hz0⟩ : cs = [Value.string x] ∧ x.size ≤ maxLen := hO
      have HROW := Lib.hid hrow
      have HPRE := Lib.hid hpre
      have HCL := Lib.hid hclose
      clear hrow hpre hclose
      have pc0 : wr.cell? ⟨g, k, none⟩ = some (.string x) := (own_part (j := 0) HROW.out HPRE.out (by omega) rfl rfl hlt).1
      have pf0 : wr.frozen? ⟨g, k, none⟩ = false := (own_part (j := 0) HROW.out HPRE.out (by omega) rfl rfl hlt).2
      have hcnt : ((txtM.cnt x : Nat) : Int) = 1 := rfl
      rw [hcnt] at hK2
      have HCNT := Lib.hid hcnt
      clear hcnt
      have HT1 := Lib.hid (show TurnS (fun b => b = g) wr wr from (TurnS.refl (fun b => b = g) wr))
      have HR1 := Lib.hid (show wr.ownsRow 0 9 1 (.slice (some ⟨g, 0, none⟩) n c) n (pre ++ ([.string x] ++ post)) from HROW.out)
      go_wp2_with fail
      refine (markText_any (K) _ (by omega) (by omega)).mono ?_
      rintro e v1 ⟨rfl, b1⟩
      have HT1 := Lib.hid (HT1.out.trans (TurnS.of_below b1))
      have HR1 := Lib.hid (own_below' HR1.out b1)
      clear b1
      have q1c0 : v1.cell? ⟨g, k, none⟩ = some (.string x) := (own_part (j := 0) HR1.out HPRE.out (by omega) rfl rfl hlt).1
      have q1f0 : v1.frozen? ⟨g, k, none⟩ = false := (own_part (j := 0) HR1.out HPRE.out (by omega) rfl rfl hlt).2
      have st0 := own_store (p := k) (j := 0) HR1.out HPRE.out (by omega) (by simp) (.string (mkT (K)))
      go_wp2
      go_roundw
      case rel =>
        refine ⟨k + 1, by omega, by go_num, congrArg (Value.int .i64) (by have h1 := HKS.out; have h2 := HK.out; have h3 := HCNT.out; omega), Lib.hid ?_, Lib.hid (HT.out.trans (((((HT1.out.trans st0.2)).more (S' := fun b => b = g ∨ E b) fun b hb => Or.inl hb)).more fun b hb => hb.elim (fun e => e ▸ hgS) (fun e => hES b e)))⟩
        have hfin := HCL.out _ _ (txtM.md K x) (st0.1) (⟨rfl, by have := mkT_size K; show (mkT K).size ≤ maxLen; unfold maxLen; omega⟩) ((((HT1.out.trans st0.2)).more (S' := fun b => b = g ∨ E b) fun b hb => Or.inl hb))
        have e := midL_succ (M := txtM) (k0 := k0) HX.out
        rw [← HK.out] at e
        rw [e] at hfin
        exact hfin
      case measure => simp [intOf]; omega
    · obtain rfl : k = n := by omega
      have HA := Lib.hid (midL_all (M := txtM) (k0 := k0) L.out)
      have HTK := Lib.hid (show xs.take k = xs from List.take_of_length_le (by rw [L.out]; exact Nat.le_refl _))
      go_wp2
      go_ret
      exact ⟨ret_int (by rw [HTK.out]), by rw [← HA.out]; exact HO.out, HT.out⟩
set_option maxRecDepth 100000 in
set_option maxHeartbeats 1000000 in
theorem heldOStringS_any (A : Option Addr) (n c : Nat) (k0 : Int) (xs : List (ByteArray)) (w : World) (S : Nat → Prop) (h : LRow txtR w S A (mkL txtM k0 xs)) (hS : ∀ b, S b → b < w.heap.size) (l : xs.length = n) (hn : n ≤ maxLen) (k1 : 1 ≤ k0) (k2 : k0 + cntL txtM xs ≤ 1000000000000) :
    Calls Tryz.prog 55 #[.slice A n c, .int .i64 k0] w fun e w' => e = .returned (.int .i64 (k0 + cntL txtM xs)) ∧ Below w.heap.size w w' := by
  unfold maxLen at hn
  have L := Lib.hid l
  have K2 := Lib.hid k2
  clear k2 l
  go_enter Tryz.func55, Tryz.ntmps55
  go_wp2
  go_loopw [1, 5] (fun x i wr => ∃ k : Nat, k ≤ n ∧ i = .int .i64 k ∧ x = .int .i64 (k0 + cntL txtM (xs.take k)) ∧ Hid (Below w.heap.size w wr)) (fun _ i _ => n - (intOf i).toNat)
  case atStart => exact ⟨0, Nat.zero_le _, rfl, by simp [cntL], Lib.hid (Below.refl _ _)⟩
  case round =>
    obtain ⟨k, hk, rfl, rfl, HB⟩ := hrel
    by_cases hlt : k < n
    · obtain ⟨x, hx⟩ : ∃ x, xs[k]? = some x := ⟨_, List.getElem?_eq_getElem (by rw [L.out]; exact hlt)⟩
      obtain ⟨b, o, cs, y, rfl, hbS, hR, hy, hc⟩ := (h.keep (SameOn.of_below HB.out hS)).at_ (k := k) (by rw [mkL_length, L.out]; exact hlt)
      have htk := cntL_take (M := txtM) xs (k + 1)
      have hks := cntL_succ (M := txtM) hx
      have hym := hy.out.symm.trans (mkL_at (k0 := k0) (M := txtM) hx)
      injection hym with hym
      have hws := HB.out.size
      have hbw : b < wr.heap.size := Nat.lt_of_lt_of_le (hS b hbS) hws
      have HX := Lib.hid hx
      obtain ⟨K, hK⟩ : ∃ K : Int, K = k0 + cntL txtM (xs.take k) := ⟨_, rfl⟩
      have hK1 : 1 ≤ K := by omega
      have hK2 : K + (txtM.cnt x : Nat) ≤ 1000000000000 := by have := K2.out; omega
      have HK := Lib.hid hK
      rw [← hK] at hym ⊢
      have HKS := Lib.hid hks
      clear hK hks htk hx hy
      rw [hym] at hR
      clear hym
      obtain ⟨rfl, hz0⟩ := hR
      have hc0 : wr.cell? ⟨b, o + k, none⟩ = some (.string (mkT (K))) := by have e : wr.cell? ⟨b, o + k * 1 + 0, none⟩ = some (.string (mkT (K))) := hc 0 _ rfl; simpa using e
      clear hc hz0
      have hcnt : ((txtM.cnt x : Nat) : Int) = 1 := rfl
      rw [hcnt] at hK2
      have HCNT := Lib.hid hcnt
      clear hcnt
      have hbwr : b < wr.heap.size := hbw
      have HBwr := Lib.hid (Below.refl wr.heap.size wr)
      have wrc0 := hc0
      clear hc0
      have HS := Lib.hid (fun (W : World) (hW : Below wr.heap.size wr W) => (⟨hW, (hW.cell (p := ⟨b, o + k, none⟩) hbwr).trans wrc0⟩ : Below wr.heap.size wr W ∧ W.cell? ⟨b, o + k, none⟩ = some (.string (mkT (K)))))
      have HV := Lib.hid (Below.refl wr.heap.size wr)
      have hsz0 : wr.heap.size ≤ wr.heap.size := Nat.le_refl _
      go_wp2
      go_region_held3 (fun W => Below wr.heap.size wr W ∧ W.cell? ⟨b, o + k, none⟩ = some (.string (mkT (K)))) (exact HS.out _ (by first | exact HV.out.drew | exact HV.out)) (first
        | (go_at_call 45; refine (markText_any (K) _ (by omega) (by omega)).mono ?_; rintro e v0 ⟨rfl, b3⟩; have HV := Lib.hid (Below.trans (by first | exact HV.out | exact HV.out.drew) (b3.mono (by first | exact Nat.le_refl _ | exact HV.out.size))); clear b3))
      have hbv0 : b < v0.heap.size := Nat.lt_of_lt_of_le hbwr HV.out.size
      have HBv0 := Lib.hid (HBwr.out.trans (HV.out.mono HBwr.out.size))
      have v0c0 : v0.cell? ⟨b, o + k, none⟩ = some (.string (mkT (K))) := (HV.out.cell (p := ⟨b, o + k, none⟩) hbwr).trans wrc0
      clear HS HV hsz0
      go_wp2
      go_roundw
      case rel => exact ⟨k + 1, by omega, by go_num, congrArg (Value.int .i64) (by have h1 := HKS.out; have h2 := HK.out; have h3 := HCNT.out; omega), Lib.hid (HB.out.trans (HBv0.out.mono hws))⟩
      case measure => simp [intOf]; omega
    · obtain rfl : k = n := by omega
      have HTK := Lib.hid (show xs.take k = xs from List.take_of_length_le (by rw [L.out]; exact Nat.le_refl _))
      go_wp2
      go_ret
      exact ⟨ret_int (by rw [HTK.out]), HB.out⟩
end Go.Proofs.YtbailpfjgjcbdaaGreatDoor
