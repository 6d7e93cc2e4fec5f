/- The laws' own helpers that mark lists of records and look whether the marks are held. -/
/- The laws' own helpers that mark lists of records and look whether the marks are held. -/
/- The laws' own helpers that mark lists of records and look whether the marks are held. -/
/- The laws' own helpers that mark lists of records and look whether the marks are held. -/
import Derived.WalkKit
import Derived.ProofKit
import Derived.BigQuiet
import Derived.Outline
import Derived.Deep.RegionHeld3
import Derived.Test.YtdgcpaeneafejaaGreatDoorLow
import Derived.Test.YtdgcpaeneafejaaGreatDoorDatI
import Derived.Test.YtdgcpaeneafejaaGreatDoorSfLow
namespace Go.Proofs.YtdgcpaeneafejaaGreatDoor
open Go.RowKit
theorem bytes_cons (c : UInt8) (s : List UInt8) : (⟨#[c]⟩ : ByteArray) ++ ⟨s.toArray⟩ = ⟨(c :: s).toArray⟩ := by
  apply ByteArray.ext
  simp [ByteArray.data_append]
set_option maxRecDepth 100000 in
set_option maxHeartbeats 2000000 in
theorem markText_any (k : Int) (w : World) (k1 : 1 ≤ k) (k2 : k ≤ 2000000000000) :
    Calls Tryz.prog 102 #[.int .i64 k] w fun e w' => e = .returned (.string (mkT k)) ∧ Below w.heap.size w w' := by
  obtain ⟨N, rfl⟩ : ∃ N : Nat, k = (N : Int) := ⟨k.toNat, by omega⟩
  have hN : decide (N = 0) = false := decide_eq_false (by omega)
  have hN0 : ¬ N = 0 := by omega
  go_enter Tryz.func102, Tryz.ntmps102
  go_wp2
  go_loopw [0, 3] (fun x y wr => ∃ (n f : Nat) (s : List UInt8), x = .int .i64 n ∧ y = .string ⟨s.toArray⟩ ∧ Hid (n < 10 ^ f) ∧ n ≤ 2000000000000 ∧ s.length ≤ 20 ∧ Hid (s.length + f = 20) ∧ Hid (dgs 20 N = dgs f n ++ s) ∧ Hid (Below w.heap.size w wr)) (fun x _ _ => (intOf x).toNat)
  case atStart => exact ⟨N, 20, [], rfl, rfl, Lib.hid (by omega), by omega, by simp, Lib.hid rfl, Lib.hid (by simp), Lib.hid (Below.refl _ _)⟩
  case round =>
    obtain ⟨n, f, s, rfl, rfl, hf, hn, hsl, HF, HD, HB⟩ := hrel
    by_cases h0 : 0 < n
    · have hlt : n % 10 < 10 := Nat.mod_lt _ (by decide)
      have HCV : (convert 155 9 (.slice (some ⟨wr.heap.size, 0, none⟩) 1 1)).run Tryz.prog (wr.alloc (.cells #[.int .u8 (48 + (n : Int) % 10)] 5)) = .ok (.string ⟨[UInt8.ofNat (48 + n % 10)].toArray⟩) (wr.alloc (.cells #[.int .u8 (48 + (n : Int) % 10)] 5)) :=
        run_convert_bytes_back (P := Tryz.prog) (wr.alloc (.cells #[.int .u8 (48 + (n : Int) % 10)] 5)) 155 9 5 ⟨wr.heap.size, 0, none⟩ 1 [UInt8.ofNat (48 + n % 10)] Tryz.underlying155 Tryz.underlying5 Tryz.underlying9 (fun j hj => by
          obtain rfl : j = 0 := by simpa using hj
          have e0 : (⟨wr.heap.size, 0, none⟩ : Addr).add 0 = ⟨wr.heap.size, 0, none⟩ := by unfold Addr.add; split <;> simp_all
          rw [e0]
          simp [go_sem]
          omega)
      have HB2 := Lib.hid (HB.out.alloc (by have := HB.out.size; omega) (.cells #[.int .u8 (48 + (n : Int) % 10)] 5))
      have hq : ((n / 10 : Nat) : Int) = (n : Int) / 10 := by omega
      go_wp2
      go_roundw
      case rel =>
        obtain _ | f := f
        · have := hf.out; simp at this; omega
        · refine ⟨n / 10, f, UInt8.ofNat (48 + n % 10) :: s, by go_num, by simp [bytes_cons], Lib.hid (by have := hf.out; rw [Nat.pow_succ] at this; omega), by omega, by have := HF.out; simp; omega, Lib.hid (by have := HF.out; simp; omega), Lib.hid ?_, HB2⟩
          rw [HD.out, dgs_step h0]
          simp
      case measure => simp [intOf]; omega
    · obtain rfl : n = 0 := by omega
      have HE := Lib.hid (show (⟨(109 :: s).toArray⟩ : ByteArray) = mkT N by
        have h1 := HD.out
        rw [dgs_zero, List.nil_append] at h1
        unfold mkT
        rw [Int.toNat_natCast, h1])
      go_wp2
      go_ret
      exact ⟨congrArg (fun v => Ending.returned (.string v)) ((bytes_cons 109 s).trans HE.out), HB.out⟩
set_option maxRecDepth 100000 in
set_option maxHeartbeats 1000000 in
theorem markOInt64S_any (A : Option Addr) (n c : Nat) (k0 : Int) (xs : List (Int)) (w : World) (S : Nat → Prop) (h : OL intO 2 w S A n c xs) (k1 : 1 ≤ k0) (k2 : k0 + cntL intM xs ≤ 1000000000000) :
    Calls Tryz.prog 65 #[.slice A n c, .int .i64 k0] w (MarkRet intO 2 intM k0 S A n c xs w) := by
  have L := Lib.hid h.len
  have hn : n ≤ 9223372036854775807 := by have := h.cap; unfold maxLen at this; omega
  have K2 := Lib.hid k2
  clear k2
  go_enter Tryz.func65, Tryz.ntmps65
  go_wp2
  go_loopw [1, 5] (fun x i wr => ∃ k : Nat, k ≤ n ∧ i = .int .i64 k ∧ x = .int .i64 (k0 + cntL intM (xs.take k)) ∧ Hid (OL intO 2 wr S A n c (midL intM k0 xs k)) ∧ Hid (TurnS S w wr)) (fun _ i _ => n - (intOf i).toNat)
  case atStart => exact ⟨0, Nat.zero_le _, rfl, by simp [cntL], Lib.hid (by rw [midL_zero]; exact h), Lib.hid (TurnS.refl _ _)⟩
  case round =>
    obtain ⟨k, hk, rfl, rfl, HO, HT⟩ := hrel
    clear h
    by_cases hlt : k < n
    · obtain ⟨x, hx⟩ : ∃ x, xs[k]? = some x := ⟨_, List.getElem?_eq_getElem (by rw [L.out]; exact hlt)⟩
      have htk := cntL_take (M := intM) xs (k + 1)
      have hks := cntL_succ (M := intM) hx
      obtain ⟨g, pre, cs, post, E, rfl, hgS, hgE, hES, hpre, hgw, hrow, hO, hclose⟩ := HO.out.open_ (midL_at (k0 := k0) (M := intM) hx)
      have hpre : pre.length = k * 1 := hpre
      have hrow : wr.ownsRow 0 2 1 (.slice (some ⟨g, 0, none⟩) n c) n (pre ++ (cs ++ post)) := hrow
      have HX := Lib.hid hx
      obtain ⟨K, hK⟩ : ∃ K : Int, K = k0 + cntL intM (xs.take k) := ⟨_, rfl⟩
      have hK1 : 1 ≤ K := by omega
      have hK2 : K + (intM.cnt x : Nat) ≤ 1000000000000 := by have := K2.out; omega
      have HK := Lib.hid hK
      rw [← hK]
      have HKS := Lib.hid hks
      clear hK hks htk hx k1
      obtain rfl : cs = [Value.int .i64 x] := hO
      have HROW := Lib.hid hrow
      have HPRE := Lib.hid hpre
      have HCL := Lib.hid hclose
      clear hrow hpre hclose
      have pc0 : wr.cell? ⟨g, k, none⟩ = some (.int .i64 x) := (own_part (j := 0) HROW.out HPRE.out (by omega) rfl rfl hlt).1
      have pf0 : wr.frozen? ⟨g, k, none⟩ = false := (own_part (j := 0) HROW.out HPRE.out (by omega) rfl rfl hlt).2
      have hcnt : ((intM.cnt x : Nat) : Int) = 1 := rfl
      rw [hcnt] at hK2
      have HCNT := Lib.hid hcnt
      clear hcnt
      have st0 := own_store (p := k) (j := 0) HROW.out HPRE.out (by omega) (by simp) (.int .i64 (K))
      go_wp2
      go_roundw
      case rel =>
        refine ⟨k + 1, by omega, by go_num, congrArg (Value.int .i64) (by have h1 := HKS.out; have h2 := HK.out; have h3 := HCNT.out; omega), Lib.hid ?_, Lib.hid (HT.out.trans ((((((TurnS.refl (fun b => b = g) wr).trans st0.2)).more (S' := fun b => b = g ∨ E b) fun b hb => Or.inl hb)).more fun b hb => hb.elim (fun e => e ▸ hgS) (fun e => hES b e)))⟩
        have hfin := HCL.out _ _ (intM.md K x) (st0.1) (rfl) (((((TurnS.refl (fun b => b = g) wr).trans st0.2)).more (S' := fun b => b = g ∨ E b) fun b hb => Or.inl hb))
        have e := midL_succ (M := intM) (k0 := k0) HX.out
        rw [← HK.out] at e
        rw [e] at hfin
        exact hfin
      case measure => simp [intOf]; omega
    · obtain rfl : k = n := by omega
      have HA := Lib.hid (midL_all (M := intM) (k0 := k0) L.out)
      have HTK := Lib.hid (show xs.take k = xs from List.take_of_length_le (by rw [L.out]; exact Nat.le_refl _))
      go_wp2
      go_ret
      exact ⟨ret_int (by rw [HTK.out]), by rw [← HA.out]; exact HO.out, HT.out⟩
set_option maxRecDepth 100000 in
set_option maxHeartbeats 1000000 in
theorem heldOInt64S_any (A : Option Addr) (n c : Nat) (k0 : Int) (xs : List (Int)) (w : World) (S : Nat → Prop) (h : LRow intR w S A (mkL intM k0 xs)) (hS : ∀ b, S b → b < w.heap.size) (l : xs.length = n) (hn : n ≤ maxLen) (k1 : 1 ≤ k0) (k2 : k0 + cntL intM xs ≤ 1000000000000) :
    Calls Tryz.prog 83 #[.slice A n c, .int .i64 k0] w fun e w' => e = .returned (.int .i64 (k0 + cntL intM xs)) ∧ Below w.heap.size w w' := by
  unfold maxLen at hn
  have L := Lib.hid l
  have K2 := Lib.hid k2
  clear k2 l
  go_enter Tryz.func83, Tryz.ntmps83
  go_wp2
  go_loopw [1, 5] (fun x i wr => ∃ k : Nat, k ≤ n ∧ i = .int .i64 k ∧ x = .int .i64 (k0 + cntL intM (xs.take k)) ∧ Hid (Below w.heap.size w wr)) (fun _ i _ => n - (intOf i).toNat)
  case atStart => exact ⟨0, Nat.zero_le _, rfl, by simp [cntL], Lib.hid (Below.refl _ _)⟩
  case round =>
    obtain ⟨k, hk, rfl, rfl, HB⟩ := hrel
    by_cases hlt : k < n
    · obtain ⟨x, hx⟩ : ∃ x, xs[k]? = some x := ⟨_, List.getElem?_eq_getElem (by rw [L.out]; exact hlt)⟩
      obtain ⟨b, o, cs, y, rfl, hbS, hR, hy, hc⟩ := (h.keep (SameOn.of_below HB.out hS)).at_ (k := k) (by rw [mkL_length, L.out]; exact hlt)
      have htk := cntL_take (M := intM) xs (k + 1)
      have hks := cntL_succ (M := intM) hx
      have hym := hy.out.symm.trans (mkL_at (k0 := k0) (M := intM) hx)
      injection hym with hym
      have hws := HB.out.size
      have hbw : b < wr.heap.size := Nat.lt_of_lt_of_le (hS b hbS) hws
      have HX := Lib.hid hx
      obtain ⟨K, hK⟩ : ∃ K : Int, K = k0 + cntL intM (xs.take k) := ⟨_, rfl⟩
      have hK1 : 1 ≤ K := by omega
      have hK2 : K + (intM.cnt x : Nat) ≤ 1000000000000 := by have := K2.out; omega
      have HK := Lib.hid hK
      rw [← hK] at hym ⊢
      have HKS := Lib.hid hks
      clear hK hks htk hx hy
      rw [hym] at hR
      clear hym
      have hR : cs = [.int .i64 (K)] := hR
      subst hR
      have hc0 : wr.cell? ⟨b, o + k, none⟩ = some (.int .i64 (K)) := by have e : wr.cell? ⟨b, o + k * 1 + 0, none⟩ = some (.int .i64 (K)) := hc 0 _ rfl; simpa using e
      clear hc
      have hcnt : ((intM.cnt x : Nat) : Int) = 1 := rfl
      rw [hcnt] at hK2
      have HCNT := Lib.hid hcnt
      clear hcnt
      have hbwr : b < wr.heap.size := hbw
      have HBwr := Lib.hid (Below.refl wr.heap.size wr)
      have wrc0 := hc0
      clear hc0
      have hi0 : ((K) != (K)) = false := by simp
      go_wp2
      go_roundw
      case rel => exact ⟨k + 1, by omega, by go_num, congrArg (Value.int .i64) (by have h1 := HKS.out; have h2 := HK.out; have h3 := HCNT.out; omega), Lib.hid (HB.out.trans (HBwr.out.mono hws))⟩
      case measure => simp [intOf]; omega
    · obtain rfl : k = n := by omega
      have HTK := Lib.hid (show xs.take k = xs from List.take_of_length_le (by rw [L.out]; exact Nat.le_refl _))
      go_wp2
      go_ret
      exact ⟨ret_int (by rw [HTK.out]), HB.out⟩
set_option maxRecDepth 100000 in
set_option maxHeartbeats 1000000 in
theorem markOStringS_any (A : Option Addr) (n c : Nat) (k0 : Int) (xs : List (ByteArray)) (w : World) (S : Nat → Prop) (h : OL txtO 9 w S A n c xs) (k1 : 1 ≤ k0) (k2 : k0 + cntL txtM xs ≤ 1000000000000) :
    Calls Tryz.prog 64 #[.slice A n c, .int .i64 k0] w (MarkRet txtO 9 txtM k0 S A n c xs w) := by
  have L := Lib.hid h.len
  have hn : n ≤ 9223372036854775807 := by have := h.cap; unfold maxLen at this; omega
  have K2 := Lib.hid k2
  clear k2
  go_enter Tryz.func64, Tryz.ntmps64
  go_wp2
  go_loopw [1, 5] (fun x i wr => ∃ k : Nat, k ≤ n ∧ i = .int .i64 k ∧ x = .int .i64 (k0 + cntL txtM (xs.take k)) ∧ Hid (OL txtO 9 wr S A n c (midL txtM k0 xs k)) ∧ Hid (TurnS S w wr)) (fun _ i _ => n - (intOf i).toNat)
  case atStart => exact ⟨0, Nat.zero_le _, rfl, by simp [cntL], Lib.hid (by rw [midL_zero]; exact h), Lib.hid (TurnS.refl _ _)⟩
  case round =>
    obtain ⟨k, hk, rfl, rfl, HO, HT⟩ := hrel
    clear h
    by_cases hlt : k < n
    · obtain ⟨x, hx⟩ : ∃ x, xs[k]? = some x := ⟨_, List.getElem?_eq_getElem (by rw [L.out]; exact hlt)⟩
      have htk := cntL_take (M := txtM) xs (k + 1)
      have hks := cntL_succ (M := txtM) hx
      obtain ⟨g, pre, cs, post, E, rfl, hgS, hgE, hES, hpre, hgw, hrow, hO, hclose⟩ := HO.out.open_ (midL_at (k0 := k0) (M := txtM) hx)
      have hpre : pre.length = k * 1 := hpre
      have hrow : wr.ownsRow 0 9 1 (.slice (some ⟨g, 0, none⟩) n c) n (pre ++ (cs ++ post)) := hrow
      have HX := Lib.hid hx
      obtain ⟨K, hK⟩ : ∃ K : Int, K = k0 + cntL txtM (xs.take k) := ⟨_, rfl⟩
      have hK1 : 1 ≤ K := by omega
      have hK2 : K + (txtM.cnt x : Nat) ≤ 1000000000000 := by have := K2.out; omega
      have HK := Lib.hid hK
      rw [← hK]
      have HKS := Lib.hid hks
      clear hK hks htk hx k1
      obtain ⟨rfl, hz0⟩ : cs = [Value.string x] ∧ x.size ≤ maxLen := hO
      have HROW := Lib.hid hrow
      have HPRE := Lib.hid hpre
      have HCL := Lib.hid hclose
      clear hrow hpre hclose
      have pc0 : wr.cell? ⟨g, k, none⟩ = some (.string x) := (own_part (j := 0) HROW.out HPRE.out (by omega) rfl rfl hlt).1
      have pf0 : wr.frozen? ⟨g, k, none⟩ = false := (own_part (j := 0) HROW.out HPRE.out (by omega) rfl rfl hlt).2
      have hcnt : ((txtM.cnt x : Nat) : Int) = 1 := rfl
      rw [hcnt] at hK2
      have HCNT := Lib.hid hcnt
      clear hcnt
      have HT1 := Lib.hid (show TurnS (fun b => b = g) wr wr from (TurnS.refl (fun b => b = g) wr))
      have HR1 := Lib.hid (show wr.ownsRow 0 9 1 (.slice (some ⟨g, 0, none⟩) n c) n (pre ++ ([.string x] ++ post)) from HROW.out)
      go_wp2_with fail
      refine (markText_any (K) _ (by omega) (by omega)).mono ?_
      rintro e v1 ⟨rfl, b1⟩
      have HT1 := Lib.hid (HT1.out.trans (TurnS.of_below b1))
      have HR1 := Lib.hid (own_below' HR1.out b1)
      clear b1
      have q1c0 : v1.cell? ⟨g, k, none⟩ = some (.string x) := (own_part (j := 0) HR1.out HPRE.out (by omega) rfl rfl hlt).1
      have q1f0 : v1.frozen? ⟨g, k, none⟩ = false := (own_part (j := 0) HR1.out HPRE.out (by omega) rfl rfl hlt).2
      have st0 := own_store (p := k) (j := 0) HR1.out HPRE.out (by omega) (by simp) (.string (mkT (K)))
      go_wp2
      go_roundw
      case rel =>
        refine ⟨k + 1, by omega, by go_num, congrArg (Value.int .i64) (by have h1 := HKS.out; have h2 := HK.out; have h3 := HCNT.out; omega), Lib.hid ?_, Lib.hid (HT.out.trans (((((HT1.out.trans st0.2)).more (S' := fun b => b = g ∨ E b) fun b hb => Or.inl hb)).more fun b hb => hb.elim (fun e => e ▸ hgS) (fun e => hES b e)))⟩
        have hfin := HCL.out _ _ (txtM.md K x) (st0.1) (⟨rfl, by have := mkT_size K; show (mkT K).size ≤ maxLen; unfold maxLen; omega⟩) ((((HT1.out.trans st0.2)).more (S' := fun b => b = g ∨ E b) fun b hb => Or.inl hb))
        have e := midL_succ (M := txtM) (k0 := k0) HX.out
        rw [← HK.out] at e
        rw [e] at hfin
        exact hfin
      case measure => simp [intOf]; omega
    · obtain rfl : k = n := by omega
      have HA := Lib.hid (midL_all (M := txtM) (k0 := k0) L.out)
      have HTK := Lib.hid (show xs.take k = xs from List.take_of_length_le (by rw [L.out]; exact Nat.le_refl _))
      go_wp2
      go_ret
      exact ⟨ret_int (by rw [HTK.out]), by rw [← HA.out]; exact HO.out, HT.out⟩
set_option maxRecDepth 100000 in
set_option maxHeartbeats 1000000 in
theorem heldOStringS_any (A : Option Addr) (n c : Nat) (k0 : Int) (xs : List (ByteArray)) (w : World) (S : Nat → Prop) (h : LRow txtR w S A (mkL txtM k0 xs)) (hS : ∀ b, S b → b < w.heap.size) (l : xs.length = n) (hn : n ≤ maxLen) (k1 : 1 ≤ k0) (k2 : k0 + cntL txtM xs ≤ 1000000000000) :
    Calls Tryz.prog 69 #[.slice A n c, .int .i64 k0] w fun e w' => e = .returned (.int .i64 (k0 + cntL txtM xs)) ∧ Below w.heap.size w w' := by
  unfold maxLen at hn
  have L := Lib.hid l
  have K2 := Lib.hid k2
  clear k2 l
  go_enter Tryz.func69, Tryz.ntmps69
  go_wp2
  go_loopw [1, 5] (fun x i wr => ∃ k : Nat, k ≤ n ∧ i = .int .i64 k ∧ x = .int .i64 (k0 + cntL txtM (xs.take k)) ∧ Hid (Below w.heap.size w wr)) (fun _ i _ => n - (intOf i).toNat)
  case atStart => exact ⟨0, Nat.zero_le _, rfl, by simp [cntL], Lib.hid (Below.refl _ _)⟩
  case round =>
    obtain ⟨k, hk, rfl, rfl, HB⟩ := hrel
    by_cases hlt : k < n
    · obtain ⟨x, hx⟩ : ∃ x, xs[k]? = some x := ⟨_, List.getElem?_eq_getElem (by rw [L.out]; exact hlt)⟩
      obtain ⟨b, o, cs, y, rfl, hbS, hR, hy, hc⟩ := (h.keep (SameOn.of_below HB.out hS)).at_ (k := k) (by rw [mkL_length, L.out]; exact hlt)
      have htk := cntL_take (M := txtM) xs (k + 1)
      have hks := cntL_succ (M := txtM) hx
      have hym := hy.out.symm.trans (mkL_at (k0 := k0) (M := txtM) hx)
      injection hym with hym
      have hws := HB.out.size
      have hbw : b < wr.heap.size := Nat.lt_of_lt_of_le (hS b hbS) hws
      have HX := Lib.hid hx
      obtain ⟨K, hK⟩ : ∃ K : Int, K = k0 + cntL txtM (xs.take k) := ⟨_, rfl⟩
      have hK1 : 1 ≤ K := by omega
      have hK2 : K + (txtM.cnt x : Nat) ≤ 1000000000000 := by have := K2.out; omega
      have HK := Lib.hid hK
      rw [← hK] at hym ⊢
      have HKS := Lib.hid hks
      clear hK hks htk hx hy
      rw [hym] at hR
      clear hym
      obtain ⟨rfl, hz0⟩ := hR
      have hc0 : wr.cell? ⟨b, o + k, none⟩ = some (.string (mkT (K))) := by have e : wr.cell? ⟨b, o + k * 1 + 0, none⟩ = some (.string (mkT (K))) := hc 0 _ rfl; simpa using e
      clear hc hz0
      have hcnt : ((txtM.cnt x : Nat) : Int) = 1 := rfl
      rw [hcnt] at hK2
      have HCNT := Lib.hid hcnt
      clear hcnt
      have hbwr : b < wr.heap.size := hbw
      have HBwr := Lib.hid (Below.refl wr.heap.size wr)
      have wrc0 := hc0
      clear hc0
      have HS := Lib.hid (fun (W : World) (hW : Below wr.heap.size wr W) => (⟨hW, (hW.cell (p := ⟨b, o + k, none⟩) hbwr).trans wrc0⟩ : Below wr.heap.size wr W ∧ W.cell? ⟨b, o + k, none⟩ = some (.string (mkT (K)))))
      have HV := Lib.hid (Below.refl wr.heap.size wr)
      have hsz0 : wr.heap.size ≤ wr.heap.size := Nat.le_refl _
      go_wp2
      go_region_held3 (fun W => Below wr.heap.size wr W ∧ W.cell? ⟨b, o + k, none⟩ = some (.string (mkT (K)))) (exact HS.out _ (by first | exact HV.out.drew | exact HV.out)) (first
        | (go_at_call 102; refine (markText_any (K) _ (by omega) (by omega)).mono ?_; rintro e v0 ⟨rfl, b3⟩; have HV := Lib.hid (Below.trans (by first | exact HV.out | exact HV.out.drew) (b3.mono (by first | exact Nat.le_refl _ | exact HV.out.size))); clear b3))
      have hbv0 : b < v0.heap.size := Nat.lt_of_lt_of_le hbwr HV.out.size
      have HBv0 := Lib.hid (HBwr.out.trans (HV.out.mono HBwr.out.size))
      have v0c0 : v0.cell? ⟨b, o + k, none⟩ = some (.string (mkT (K))) := (HV.out.cell (p := ⟨b, o + k, none⟩) hbwr).trans wrc0
      clear HS HV hsz0
      go_wp2
      go_roundw
      case rel => exact ⟨k + 1, by omega, by go_num, congrArg (Value.int .i64) (by have h1 := HKS.out; have h2 := HK.out; have h3 := HCNT.out; omega), Lib.hid (HB.out.trans (HBv0.out.mono hws))⟩
      case measure => simp [intOf]; omega
    · obtain rfl : k = n := by omega
      have HTK := Lib.hid (show xs.take k = xs from List.take_of_length_le (by rw [L.out]; exact Nat.le_refl _))
      go_wp2
      go_ret
      exact ⟨ret_int (by rw [HTK.out]), HB.out⟩
set_option maxRecDepth 100000 in
set_option maxHeartbeats 1000000 in
theorem markOTermS_any (A : Option Addr) (n c : Nat) (k0 : Int) (xs : List (Tm)) (w : World) (S : Nat → Prop) (h : OL tmO 186 w S A n c xs) (k1 : 1 ≤ k0) (k2 : k0 + cntL tmM xs ≤ 1000000000000) :
    Calls Tryz.prog 149 #[.slice A n c, .int .i64 k0] w (MarkRet tmO 186 tmM k0 S A n c xs w) := by
  have L := Lib.hid h.len
  have hn : n ≤ 9223372036854775807 := by have := h.cap; unfold maxLen at this; omega
  have K2 := Lib.hid k2
  clear k2
  go_enter Tryz.func149, Tryz.ntmps149
  go_wp2
  go_loopw [1, 5] (fun x i wr => ∃ k : Nat, k ≤ n ∧ i = .int .i64 k ∧ x = .int .i64 (k0 + cntL tmM (xs.take k)) ∧ Hid (OL tmO 186 wr S A n c (midL tmM k0 xs k)) ∧ Hid (TurnS S w wr)) (fun _ i _ => n - (intOf i).toNat)
  case atStart => exact ⟨0, Nat.zero_le _, rfl, by simp [cntL], Lib.hid (by rw [midL_zero]; exact h), Lib.hid (TurnS.refl _ _)⟩
  case round =>
    obtain ⟨k, hk, rfl, rfl, HO, HT⟩ := hrel
    clear h
    by_cases hlt : k < n
    · obtain ⟨x, hx⟩ : ∃ x, xs[k]? = some x := ⟨_, List.getElem?_eq_getElem (by rw [L.out]; exact hlt)⟩
      have htk := cntL_take (M := tmM) xs (k + 1)
      have hks := cntL_succ (M := tmM) hx
      obtain ⟨g, pre, cs, post, E, rfl, hgS, hgE, hES, hpre, hgw, hrow, hO, hclose⟩ := HO.out.open_ (midL_at (k0 := k0) (M := tmM) hx)
      have hpre : pre.length = k * 2 := hpre
      have hrow : wr.ownsRow 0 186 2 (.slice (some ⟨g, 0, none⟩) n c) n (pre ++ (cs ++ post)) := hrow
      have HX := Lib.hid hx
      obtain ⟨K, hK⟩ : ∃ K : Int, K = k0 + cntL tmM (xs.take k) := ⟨_, rfl⟩
      have hK1 : 1 ≤ K := by omega
      have hK2 : K + (tmM.cnt x : Nat) ≤ 1000000000000 := by have := K2.out; omega
      have HK := Lib.hid hK
      rw [← hK]
      have HKS := Lib.hid hks
      clear hK hks htk hx k1
      obtain rfl : cs = [Value.int .i64 x.k, Value.int .i64 x.v] := hO
      have HROW := Lib.hid hrow
      have HPRE := Lib.hid hpre
      have HCL := Lib.hid hclose
      clear hrow hpre hclose
      have pc0 : wr.cell? ⟨g, k * 2, none⟩ = some (.int .i64 x.k) := (own_part (j := 0) HROW.out HPRE.out (by omega) rfl rfl hlt).1
      have pf0 : wr.frozen? ⟨g, k * 2, none⟩ = false := (own_part (j := 0) HROW.out HPRE.out (by omega) rfl rfl hlt).2
      have pc1 : wr.cell? ⟨g, k * 2 + 1, none⟩ = some (.int .i64 x.v) := (own_part (j := 1) HROW.out HPRE.out (by omega) rfl rfl hlt).1
      have pf1 : wr.frozen? ⟨g, k * 2 + 1, none⟩ = false := (own_part (j := 1) HROW.out HPRE.out (by omega) rfl rfl hlt).2
      have hcnt : ((tmM.cnt x : Nat) : Int) = 2 := rfl
      rw [hcnt] at hK2
      have HCNT := Lib.hid hcnt
      clear hcnt
      have st0 := own_store (p := k * 2) (j := 0) HROW.out HPRE.out (by omega) (by simp) (.int .i64 (K))
      have st1 := own_store (p := k * 2 + 1) (j := 1) st0.1 HPRE.out (by omega) (by simp) (.int .i64 (K + 1))
      go_wp2
      go_roundw
      case rel =>
        refine ⟨k + 1, by omega, by go_num, congrArg (Value.int .i64) (by have h1 := HKS.out; have h2 := HK.out; have h3 := HCNT.out; omega), Lib.hid ?_, Lib.hid (HT.out.trans (((((((TurnS.refl (fun b => b = g) wr).trans st0.2).trans st1.2)).more (S' := fun b => b = g ∨ E b) fun b hb => Or.inl hb)).more fun b hb => hb.elim (fun e => e ▸ hgS) (fun e => hES b e)))⟩
        have hfin := HCL.out _ _ (tmM.md K x) (st1.1) (rfl) ((((((TurnS.refl (fun b => b = g) wr).trans st0.2).trans st1.2)).more (S' := fun b => b = g ∨ E b) fun b hb => Or.inl hb))
        have e := midL_succ (M := tmM) (k0 := k0) HX.out
        rw [← HK.out] at e
        rw [e] at hfin
        exact hfin
      case measure => simp [intOf]; omega
    · obtain rfl : k = n := by omega
      have HA := Lib.hid (midL_all (M := tmM) (k0 := k0) L.out)
      have HTK := Lib.hid (show xs.take k = xs from List.take_of_length_le (by rw [L.out]; exact Nat.le_refl _))
      go_wp2
      go_ret
      exact ⟨ret_int (by rw [HTK.out]), by rw [← HA.out]; exact HO.out, HT.out⟩
set_option maxRecDepth 100000 in
set_option maxHeartbeats 1000000 in
theorem heldOTermS_any (A : Option Addr) (n c : Nat) (k0 : Int) (xs : List (Tm)) (w : World) (S : Nat → Prop) (h : LRow tmR w S A (mkL tmM k0 xs)) (hS : ∀ b, S b → b < w.heap.size) (l : xs.length = n) (hn : n ≤ maxLen) (k1 : 1 ≤ k0) (k2 : k0 + cntL tmM xs ≤ 1000000000000) :
    Calls Tryz.prog 150 #[.slice A n c, .int .i64 k0] w fun e w' => e = .returned (.int .i64 (k0 + cntL tmM xs)) ∧ Below w.heap.size w w' := by
  unfold maxLen at hn
  have L := Lib.hid l
  have K2 := Lib.hid k2
  clear k2 l
  go_enter Tryz.func150, Tryz.ntmps150
  go_wp2
  go_loopw [1, 5] (fun x i wr => ∃ k : Nat, k ≤ n ∧ i = .int .i64 k ∧ x = .int .i64 (k0 + cntL tmM (xs.take k)) ∧ Hid (Below w.heap.size w wr)) (fun _ i _ => n - (intOf i).toNat)
  case atStart => exact ⟨0, Nat.zero_le _, rfl, by simp [cntL], Lib.hid (Below.refl _ _)⟩
  case round =>
    obtain ⟨k, hk, rfl, rfl, HB⟩ := hrel
    by_cases hlt : k < n
    · obtain ⟨x, hx⟩ : ∃ x, xs[k]? = some x := ⟨_, List.getElem?_eq_getElem (by rw [L.out]; exact hlt)⟩
      obtain ⟨b, o, cs, y, rfl, hbS, hR, hy, hc⟩ := (h.keep (SameOn.of_below HB.out hS)).at_ (k := k) (by rw [mkL_length, L.out]; exact hlt)
      have htk := cntL_take (M := tmM) xs (k + 1)
      have hks := cntL_succ (M := tmM) hx
      have hym := hy.out.symm.trans (mkL_at (k0 := k0) (M := tmM) hx)
      injection hym with hym
      have hws := HB.out.size
      have hbw : b < wr.heap.size := Nat.lt_of_lt_of_le (hS b hbS) hws
      have HX := Lib.hid hx
      obtain ⟨K, hK⟩ : ∃ K : Int, K = k0 + cntL tmM (xs.take k) := ⟨_, rfl⟩
      have hK1 : 1 ≤ K := by omega
      have hK2 : K + (tmM.cnt x : Nat) ≤ 1000000000000 := by have := K2.out; omega
      have HK := Lib.hid hK
      rw [← hK] at hym ⊢
      have HKS := Lib.hid hks
      clear hK hks htk hx hy
      rw [hym] at hR
      clear hym
      have hR : cs = [.int .i64 (K), .int .i64 (K + 1)] := hR
      subst hR
      have hc0 : wr.cell? ⟨b, o + k * 2, none⟩ = some (.int .i64 (K)) := hc 0 _ rfl
      have hc1 : wr.cell? ⟨b, o + k * 2 + 1, none⟩ = some (.int .i64 (K + 1)) := hc 1 _ rfl
      clear hc
      have hcnt : ((tmM.cnt x : Nat) : Int) = 2 := rfl
      rw [hcnt] at hK2
      have HCNT := Lib.hid hcnt
      clear hcnt
      have hbwr : b < wr.heap.size := hbw
      have HBwr := Lib.hid (Below.refl wr.heap.size wr)
      have wrc0 := hc0
      clear hc0
      have wrc1 := hc1
      clear hc1
      have hi0 : ((K) != (K)) = false := by simp
      have hi1 : ((K + 1) != (K + 1)) = false := by simp
      go_wp2
      go_roundw
      case rel => exact ⟨k + 1, by omega, by go_num, congrArg (Value.int .i64) (by have h1 := HKS.out; have h2 := HK.out; have h3 := HCNT.out; omega), Lib.hid (HB.out.trans (HBwr.out.mono hws))⟩
      case measure => simp [intOf]; omega
    · obtain rfl : k = n := by omega
      have HTK := Lib.hid (show xs.take k = xs from List.take_of_length_le (by rw [L.out]; exact Nat.le_refl _))
      go_wp2
      go_ret
      exact ⟨ret_int (by rw [HTK.out]), HB.out⟩
set_option maxRecDepth 100000 in
set_option maxHeartbeats 1000000 in
theorem markOTermSS_any (A : Option Addr) (n c : Nat) (k0 : Int) (xs : List (List Tm)) (w : World) (S : Nat → Prop) (h : OL (listO tmO 186) 182 w S A n c xs) (k1 : 1 ≤ k0) (k2 : k0 + cntL (listM tmM) xs ≤ 1000000000000) :
    Calls Tryz.prog 126 #[.slice A n c, .int .i64 k0] w (MarkRet (listO tmO 186) 182 (listM tmM) k0 S A n c xs w) := by
  have L := Lib.hid h.len
  have hn : n ≤ 9223372036854775807 := by have := h.cap; unfold maxLen at this; omega
  have K2 := Lib.hid k2
  clear k2
  go_enter Tryz.func126, Tryz.ntmps126
  go_wp2
  go_loopw [1, 5] (fun x i wr => ∃ k : Nat, k ≤ n ∧ i = .int .i64 k ∧ x = .int .i64 (k0 + cntL (listM tmM) (xs.take k)) ∧ Hid (OL (listO tmO 186) 182 wr S A n c (midL (listM tmM) k0 xs k)) ∧ Hid (TurnS S w wr)) (fun _ i _ => n - (intOf i).toNat)
  case atStart => exact ⟨0, Nat.zero_le _, rfl, by simp [cntL], Lib.hid (by rw [midL_zero]; exact h), Lib.hid (TurnS.refl _ _)⟩
  case round =>
    obtain ⟨k, hk, rfl, rfl, HO, HT⟩ := hrel
    clear h
    by_cases hlt : k < n
    · obtain ⟨x, hx⟩ : ∃ x, xs[k]? = some x := ⟨_, List.getElem?_eq_getElem (by rw [L.out]; exact hlt)⟩
      have htk := cntL_take (M := (listM tmM)) xs (k + 1)
      have hks := cntL_succ (M := (listM tmM)) hx
      obtain ⟨g, pre, cs, post, E, rfl, hgS, hgE, hES, hpre, hgw, hrow, hO, hclose⟩ := HO.out.open_ (midL_at (k0 := k0) (M := (listM tmM)) hx)
      have hpre : pre.length = k * 1 := hpre
      have hrow : wr.ownsRow 0 182 1 (.slice (some ⟨g, 0, none⟩) n c) n (pre ++ (cs ++ post)) := hrow
      have HX := Lib.hid hx
      obtain ⟨K, hK⟩ : ∃ K : Int, K = k0 + cntL (listM tmM) (xs.take k) := ⟨_, rfl⟩
      have hK1 : 1 ≤ K := by omega
      have hK2 : K + ((listM tmM).cnt x : Nat) ≤ 1000000000000 := by have := K2.out; omega
      have HK := Lib.hid hK
      rw [← hK]
      have HKS := Lib.hid hks
      clear hK hks htk hx k1
      obtain ⟨A', c', rfl, hol⟩ := hO
      have HROW := Lib.hid hrow
      have HPRE := Lib.hid hpre
      have HCL := Lib.hid hclose
      clear hrow hpre hclose
      have pc0 : wr.cell? ⟨g, k, none⟩ = some (.slice A' x.length c') := (own_part (j := 0) HROW.out HPRE.out (by omega) rfl rfl hlt).1
      have pf0 : wr.frozen? ⟨g, k, none⟩ = false := (own_part (j := 0) HROW.out HPRE.out (by omega) rfl rfl hlt).2
      have hcnt : (((listM tmM).cnt x : Nat) : Int) = (cntL tmM x : Nat) := rfl
      rw [hcnt] at hK2
      have HCNT := Lib.hid hcnt
      clear hcnt
      have HT1 := Lib.hid (show TurnS (fun b => b = g) wr wr from (TurnS.refl (fun b => b = g) wr))
      have HR1 := Lib.hid (show wr.ownsRow 0 182 1 (.slice (some ⟨g, 0, none⟩) n c) n (pre ++ ([.slice A' x.length c'] ++ post)) from HROW.out)
      have OL1 := hol.keep (SameB.of_turn HT1.out fun b hb e => hgE (e ▸ hb))
      clear hol
      have C1 := Lib.hid (markOTermS_any A' (x).length c' (K) (x) _ E OL1 (by omega) (by omega))
      clear OL1
      go_wp2_with fail
      refine (C1.out).mono ?_
      rintro e v1 ⟨rfl, ol, t2⟩
      have HR1 := Lib.hid (own_sameB (S := fun b => b = g) HR1.out (SameB.of_turn t2 fun b hb => by subst hb; exact hgE) (fun g' hg' => by injection hg' with hg'; exact hg'.symm))
      have HT1 := Lib.hid ((HT1.out.more (S' := fun b => b = g ∨ E b) fun b hb => Or.inl hb).trans (t2.more fun b hb => Or.inr hb))
      have HOLN := Lib.hid ol
      clear t2 ol
      go_wp2
      go_roundw
      case rel =>
        refine ⟨k + 1, by omega, by go_num, congrArg (Value.int .i64) (by have h1 := HKS.out; have h2 := HK.out; have h3 := HCNT.out; omega), Lib.hid ?_, Lib.hid (HT.out.trans ((HT1.out).more fun b hb => hb.elim (fun e => e ▸ hgS) (fun e => hES b e)))⟩
        have hfin := HCL.out _ _ ((listM tmM).md K x) (HR1.out) (⟨A', c', by show (_ : List Value) = ([.slice A' (mkL tmM (K) x).length c'] : List Value); rw [mkL_length], by show OL _ _ _ _ _ (mkL tmM (K) x).length _ _; rw [mkL_length]; exact HOLN.out⟩) (HT1.out)
        have e := midL_succ (M := (listM tmM)) (k0 := k0) HX.out
        rw [← HK.out] at e
        rw [e] at hfin
        exact hfin
      case measure => simp [intOf]; omega
    · obtain rfl : k = n := by omega
      have HA := Lib.hid (midL_all (M := (listM tmM)) (k0 := k0) L.out)
      have HTK := Lib.hid (show xs.take k = xs from List.take_of_length_le (by rw [L.out]; exact Nat.le_refl _))
      go_wp2
      go_ret
      exact ⟨ret_int (by rw [HTK.out]), by rw [← HA.out]; exact HO.out, HT.out⟩
set_option maxRecDepth 100000 in
set_option maxHeartbeats 1000000 in
theorem heldOTermSS_any (A : Option Addr) (n c : Nat) (k0 : Int) (xs : List (List Tm)) (w : World) (S : Nat → Prop) (h : LRow (listR tmR) w S A (mkL (listM tmM) k0 xs)) (hS : ∀ b, S b → b < w.heap.size) (l : xs.length = n) (hn : n ≤ maxLen) (k1 : 1 ≤ k0) (k2 : k0 + cntL (listM tmM) xs ≤ 1000000000000) :
    Calls Tryz.prog 127 #[.slice A n c, .int .i64 k0] w fun e w' => e = .returned (.int .i64 (k0 + cntL (listM tmM) xs)) ∧ Below w.heap.size w w' := by
  unfold maxLen at hn
  have L := Lib.hid l
  have K2 := Lib.hid k2
  clear k2 l
  go_enter Tryz.func127, Tryz.ntmps127
  go_wp2
  go_loopw [1, 5] (fun x i wr => ∃ k : Nat, k ≤ n ∧ i = .int .i64 k ∧ x = .int .i64 (k0 + cntL (listM tmM) (xs.take k)) ∧ Hid (Below w.heap.size w wr)) (fun _ i _ => n - (intOf i).toNat)
  case atStart => exact ⟨0, Nat.zero_le _, rfl, by simp [cntL], Lib.hid (Below.refl _ _)⟩
  case round =>
    obtain ⟨k, hk, rfl, rfl, HB⟩ := hrel
    by_cases hlt : k < n
    · obtain ⟨x, hx⟩ : ∃ x, xs[k]? = some x := ⟨_, List.getElem?_eq_getElem (by rw [L.out]; exact hlt)⟩
      obtain ⟨b, o, cs, y, rfl, hbS, hR, hy, hc⟩ := (h.keep (SameOn.of_below HB.out hS)).at_ (k := k) (by rw [mkL_length, L.out]; exact hlt)
      have htk := cntL_take (M := (listM tmM)) xs (k + 1)
      have hks := cntL_succ (M := (listM tmM)) hx
      have hym := hy.out.symm.trans (mkL_at (k0 := k0) (M := (listM tmM)) hx)
      injection hym with hym
      have hws := HB.out.size
      have hbw : b < wr.heap.size := Nat.lt_of_lt_of_le (hS b hbS) hws
      have HX := Lib.hid hx
      obtain ⟨K, hK⟩ : ∃ K : Int, K = k0 + cntL (listM tmM) (xs.take k) := ⟨_, rfl⟩
      have hK1 : 1 ≤ K := by omega
      have hK2 : K + ((listM tmM).cnt x : Nat) ≤ 1000000000000 := by have := K2.out; omega
      have HK := Lib.hid hK
      rw [← hK] at hym ⊢
      have HKS := Lib.hid hks
      clear hK hks htk hx hy
      rw [hym] at hR
      clear hym
      obtain ⟨A', c', rfl, hlc', hcm', hr'⟩ := hR
      have hr' : LRow tmR wr S A' (mkL tmM (K) x) := hr'
      have hpm : (x).length ≤ maxLen := by have h1 : (mkL tmM (K) x).length ≤ c' := hlc'; rw [mkL_length] at h1; omega
      have hc0 : wr.cell? ⟨b, o + k, none⟩ = some (.slice A' (x).length c') := by
        have e : wr.cell? ⟨b, o + k * 1 + 0, none⟩ = some (.slice A' (mkL tmM (K) x).length c') := hc 0 _ rfl
        rw [mkL_length] at e
        simpa using e
      clear hc
      have hcnt : (((listM tmM).cnt x : Nat) : Int) = (cntL tmM x : Nat) := rfl
      rw [hcnt] at hK2
      have HCNT := Lib.hid hcnt
      clear hcnt
      have CN := Lib.hid (fun (W : World) (hW : Below wr.heap.size wr W) => heldOTermS_any A' (x).length c' (K) (x) W S (hr'.keep (SameOn.of_below hW fun b hb => Nat.lt_of_lt_of_le (hS b hb) hws)) (fun b hb => Nat.lt_of_lt_of_le (hS b hb) (Nat.le_trans hws hW.size)) rfl hpm (by omega) (by omega))
      clear hr' hpm hlc' hcm'
      have hbwr : b < wr.heap.size := hbw
      have HBwr := Lib.hid (Below.refl wr.heap.size wr)
      have wrc0 := hc0
      clear hc0
      have hneg : ¬ (K + (cntL tmM x : Nat) < 0) := by omega
      go_wp2_with fail
      refine (CN.out _ HBwr.out).mono ?_
      rintro e v0 ⟨rfl, b3⟩
      have HBv0 := Lib.hid (HBwr.out.trans (b3.mono HBwr.out.size))
      clear b3
      go_wp2
      go_roundw
      case rel => exact ⟨k + 1, by omega, by go_num, congrArg (Value.int .i64) (by have h1 := HKS.out; have h2 := HK.out; have h3 := HCNT.out; omega), Lib.hid (HB.out.trans (HBv0.out.mono hws))⟩
      case measure => simp [intOf]; omega
    · obtain rfl : k = n := by omega
      have HTK := Lib.hid (show xs.take k = xs from List.take_of_length_le (by rw [L.out]; exact Nat.le_refl _))
      go_wp2
      go_ret
      exact ⟨ret_int (by rw [HTK.out]), HB.out⟩
end Go.Proofs.YtdgcpaeneafejaaGreatDoor

namespace Go.Proofs.YtdgcpaeneafejaaGreatDoor
open Go.RowKit
set_option maxRecDepth 100000 in
set_option maxHeartbeats 4000000 in
theorem markOPartS_any (A : Option Addr) (n c : Nat) (k0 : Int) (xs : List (Pt)) (w : World) (S : Nat → Prop) (h : OL ptO 150 w S A n c xs) (k1 : 1 ≤ k0) (k2 : k0 + cntL ptM xs ≤ 1000000000000) :
    Calls Tryz.prog 103 #[.slice A n c, .int .i64 k0] w (MarkRet ptO 150 ptM k0 S A n c xs w) := by
  have L := Lib.hid h.len
  have hn : n ≤ 9223372036854775807 := by have := h.cap; unfold maxLen at this; omega
  have K2 := Lib.hid k2
  clear k2
  go_enter Tryz.func103, Tryz.ntmps103
  go_wp2
  go_loopw [1, 5] (fun x i wr => ∃ k : Nat, k ≤ n ∧ i = .int .i64 k ∧ x = .int .i64 (k0 + cntL ptM (xs.take k)) ∧ Hid (OL ptO 150 wr S A n c (midL ptM k0 xs k)) ∧ Hid (TurnS S w wr)) (fun _ i _ => n - (intOf i).toNat)
  case atStart => exact ⟨0, Nat.zero_le _, rfl, by simp [cntL], Lib.hid (by rw [midL_zero]; exact h), Lib.hid (TurnS.refl _ _)⟩
  case round =>
    obtain ⟨k, hk, rfl, rfl, HO, HT⟩ := hrel
    clear h
    by_cases hlt : k < n
    · obtain ⟨x, hx⟩ : ∃ x, xs[k]? = some x := ⟨_, List.getElem?_eq_getElem (by rw [L.out]; exact hlt)⟩
      have htk := cntL_take (M := ptM) xs (k + 1)
      have hks := cntL_succ (M := ptM) hx
      obtain ⟨g, pre, cs, post, E, rfl, hgS, hgE, hES, hpre, hgw, hrow, hO, hclose⟩ := HO.out.open_ (midL_at (k0 := k0) (M := ptM) hx)
      have hpre : pre.length = k * 4 := hpre
      have hrow : wr.ownsRow 0 150 4 (.slice (some ⟨g, 0, none⟩) n c) n (pre ++ (cs ++ post)) := hrow
      have HX := Lib.hid hx
      obtain ⟨K, hK⟩ : ∃ K : Int, K = k0 + cntL ptM (xs.take k) := ⟨_, rfl⟩
      have hK1 : 1 ≤ K := by omega
      have hK2 : K + (ptM.cnt x : Nat) ≤ 1000000000000 := by have := K2.out; omega
      have HK := Lib.hid hK
      rw [← hK]
      have HKS := Lib.hid hks
      clear hK hks htk hx k1
      obtain ⟨A', c', rfl, hz2, hol⟩ := hO
      have HROW := Lib.hid hrow
      have HPRE := Lib.hid hpre
      have HCL := Lib.hid hclose
      clear hrow hpre hclose
      have pc0 : wr.cell? ⟨g, k * 4, none⟩ = some (.int .i64 x.k) := (own_part (j := 0) HROW.out HPRE.out (by omega) rfl rfl hlt).1
      have pf0 : wr.frozen? ⟨g, k * 4, none⟩ = false := (own_part (j := 0) HROW.out HPRE.out (by omega) rfl rfl hlt).2
      have pc1 : wr.cell? ⟨g, k * 4 + 1, none⟩ = some (.int .i64 x.n) := (own_part (j := 1) HROW.out HPRE.out (by omega) rfl rfl hlt).1
      have pf1 : wr.frozen? ⟨g, k * 4 + 1, none⟩ = false := (own_part (j := 1) HROW.out HPRE.out (by omega) rfl rfl hlt).2
      have pc2 : wr.cell? ⟨g, k * 4 + 2, none⟩ = some (.string x.nm) := (own_part (j := 2) HROW.out HPRE.out (by omega) rfl rfl hlt).1
      have pf2 : wr.frozen? ⟨g, k * 4 + 2, none⟩ = false := (own_part (j := 2) HROW.out HPRE.out (by omega) rfl rfl hlt).2
      have pc3 : wr.cell? ⟨g, k * 4 + 3, none⟩ = some (.slice A' x.args.length c') := (own_part (j := 3) HROW.out HPRE.out (by omega) rfl rfl hlt).1
      have pf3 : wr.frozen? ⟨g, k * 4 + 3, none⟩ = false := (own_part (j := 3) HROW.out HPRE.out (by omega) rfl rfl hlt).2
      have hcnt : ((ptM.cnt x : Nat) : Int) = 3 + (cntL (listM tmM) x.args : Nat) := by show (((3 + cntL (listM tmM) x.args : Nat)) : Int) = _; omega
      rw [hcnt] at hK2
      have HCNT := Lib.hid hcnt
      clear hcnt
      have st0 := own_store (p := k * 4) (j := 0) HROW.out HPRE.out (by omega) (by simp) (.int .i64 (K))
      have st1 := own_store (p := k * 4 + 1) (j := 1) st0.1 HPRE.out (by omega) (by simp) (.int .i64 (K + 1))
      have HT1 := Lib.hid (show TurnS (fun b => b = g) wr ((wr.setCell ⟨g, k * 4, none⟩ (.int .i64 (K))).setCell ⟨g, k * 4 + 1, none⟩ (.int .i64 (K + 1))) from (((TurnS.refl (fun b => b = g) wr).trans st0.2).trans st1.2))
      have HR1 := Lib.hid (show ((wr.setCell ⟨g, k * 4, none⟩ (.int .i64 (K))).setCell ⟨g, k * 4 + 1, none⟩ (.int .i64 (K + 1))).ownsRow 0 150 4 (.slice (some ⟨g, 0, none⟩) n c) n (pre ++ ([.int .i64 (K), .int .i64 (K + 1), .string x.nm, .slice A' x.args.length c'] ++ post)) from st1.1)
      clear st0 st1
      go_wp2_with fail
      refine (markText_any (K + 1 + 1) _ (by omega) (by omega)).mono ?_
      rintro e v1 ⟨rfl, b1⟩
      have HT1 := Lib.hid (HT1.out.trans (TurnS.of_below b1))
      have HR1 := Lib.hid (own_below' HR1.out b1)
      clear b1
      have q1c0 : v1.cell? ⟨g, k * 4, none⟩ = some (.int .i64 (K)) := (own_part (j := 0) HR1.out HPRE.out (by omega) rfl rfl hlt).1
      have q1f0 : v1.frozen? ⟨g, k * 4, none⟩ = false := (own_part (j := 0) HR1.out HPRE.out (by omega) rfl rfl hlt).2
      have q1c1 : v1.cell? ⟨g, k * 4 + 1, none⟩ = some (.int .i64 (K + 1)) := (own_part (j := 1) HR1.out HPRE.out (by omega) rfl rfl hlt).1
      have q1f1 : v1.frozen? ⟨g, k * 4 + 1, none⟩ = false := (own_part (j := 1) HR1.out HPRE.out (by omega) rfl rfl hlt).2
      have q1c2 : v1.cell? ⟨g, k * 4 + 2, none⟩ = some (.string x.nm) := (own_part (j := 2) HR1.out HPRE.out (by omega) rfl rfl hlt).1
      have q1f2 : v1.frozen? ⟨g, k * 4 + 2, none⟩ = false := (own_part (j := 2) HR1.out HPRE.out (by omega) rfl rfl hlt).2
      have q1c3 : v1.cell? ⟨g, k * 4 + 3, none⟩ = some (.slice A' x.args.length c') := (own_part (j := 3) HR1.out HPRE.out (by omega) rfl rfl hlt).1
      have q1f3 : v1.frozen? ⟨g, k * 4 + 3, none⟩ = false := (own_part (j := 3) HR1.out HPRE.out (by omega) rfl rfl hlt).2
      have st2 := own_store (p := k * 4 + 2) (j := 2) HR1.out HPRE.out (by omega) (by simp) (.string (mkT (K + 1 + 1)))
      have HT2 := Lib.hid (show TurnS (fun b => b = g) wr (v1.setCell ⟨g, k * 4 + 2, none⟩ (.string (mkT (K + 1 + 1)))) from (HT1.out.trans st2.2))
      have HR2 := Lib.hid (show (v1.setCell ⟨g, k * 4 + 2, none⟩ (.string (mkT (K + 1 + 1)))).ownsRow 0 150 4 (.slice (some ⟨g, 0, none⟩) n c) n (pre ++ ([.int .i64 (K), .int .i64 (K + 1), .string (mkT (K + 1 + 1)), .slice A' x.args.length c'] ++ post)) from st2.1)
      have OL2 := hol.keep (SameB.of_turn HT2.out fun b hb e => hgE (e ▸ hb))
      clear hol st2
      have C2 := Lib.hid (markOTermSS_any A' (x.args).length c' (K + 1 + 1 + 1) (x.args) _ E OL2 (by omega) (by omega))
      clear OL2
      go_wp2_with fail
      refine (C2.out).mono ?_
      rintro e v2 ⟨rfl, ol, t2⟩
      have HR2 := Lib.hid (own_sameB (S := fun b => b = g) HR2.out (SameB.of_turn t2 fun b hb => by subst hb; exact hgE) (fun g' hg' => by injection hg' with hg'; exact hg'.symm))
      have HT2 := Lib.hid ((HT2.out.more (S' := fun b => b = g ∨ E b) fun b hb => Or.inl hb).trans (t2.more fun b hb => Or.inr hb))
      have HOLN := Lib.hid ol
      clear t2 ol
      go_wp2
      go_roundw
      case rel =>
        refine ⟨k + 1, by omega, by go_num, congrArg (Value.int .i64) (by have h1 := HKS.out; have h2 := HK.out; have h3 := HCNT.out; omega), Lib.hid ?_, Lib.hid (HT.out.trans ((HT2.out).more fun b hb => hb.elim (fun e => e ▸ hgS) (fun e => hES b e)))⟩
        have hfin := HCL.out _ _ (ptM.md K x) (HR2.out) (⟨A', c', by show (_ : List Value) = ([.int .i64 (K), .int .i64 (K + 1), .string (mkT (K + 1 + 1)), .slice A' (mkL (listM tmM) (K + 1 + 1 + 1) x.args).length c'] : List Value); rw [mkL_length], by have := mkT_size (K + 1 + 1); show (mkT (K + 1 + 1)).size ≤ maxLen; unfold maxLen; omega, by show OL _ _ _ _ _ (mkL (listM tmM) (K + 1 + 1 + 1) x.args).length _ _; rw [mkL_length]; exact HOLN.out⟩) (HT2.out)
        have e := midL_succ (M := ptM) (k0 := k0) HX.out
        rw [← HK.out] at e
        rw [e] at hfin
        exact hfin
      case measure => simp [intOf]; omega
    · obtain rfl : k = n := by omega
      have HA := Lib.hid (midL_all (M := ptM) (k0 := k0) L.out)
      have HTK := Lib.hid (show xs.take k = xs from List.take_of_length_le (by rw [L.out]; exact Nat.le_refl _))
      go_wp2
      go_ret
      exact ⟨ret_int (by rw [HTK.out]), by rw [← HA.out]; exact HO.out, HT.out⟩
set_option maxRecDepth 100000 in
set_option maxHeartbeats 4000000 in
theorem heldOPartS_any (A : Option Addr) (n c : Nat) (k0 : Int) (xs : List (Pt)) (w : World) (S : Nat → Prop) (h : LRow ptR w S A (mkL ptM k0 xs)) (hS : ∀ b, S b → b < w.heap.size) (l : xs.length = n) (hn : n ≤ maxLen) (k1 : 1 ≤ k0) (k2 : k0 + cntL ptM xs ≤ 1000000000000) :
    Calls Tryz.prog 104 #[.slice A n c, .int .i64 k0] w fun e w' => e = .returned (.int .i64 (k0 + cntL ptM xs)) ∧ Below w.heap.size w w' := by
  unfold maxLen at hn
  have L := Lib.hid l
  have K2 := Lib.hid k2
  clear k2 l
  go_enter Tryz.func104, Tryz.ntmps104
  go_wp2
  go_loopw [1, 5] (fun x i wr => ∃ k : Nat, k ≤ n ∧ i = .int .i64 k ∧ x = .int .i64 (k0 + cntL ptM (xs.take k)) ∧ Hid (Below w.heap.size w wr)) (fun _ i _ => n - (intOf i).toNat)
  case atStart => exact ⟨0, Nat.zero_le _, rfl, by simp [cntL], Lib.hid (Below.refl _ _)⟩
  case round =>
    obtain ⟨k, hk, rfl, rfl, HB⟩ := hrel
    by_cases hlt : k < n
    · obtain ⟨x, hx⟩ : ∃ x, xs[k]? = some x := ⟨_, List.getElem?_eq_getElem (by rw [L.out]; exact hlt)⟩
      obtain ⟨b, o, cs, y, rfl, hbS, hR, hy, hc⟩ := (h.keep (SameOn.of_below HB.out hS)).at_ (k := k) (by rw [mkL_length, L.out]; exact hlt)
      have htk := cntL_take (M := ptM) xs (k + 1)
      have hks := cntL_succ (M := ptM) hx
      have hym := hy.out.symm.trans (mkL_at (k0 := k0) (M := ptM) hx)
      injection hym with hym
      have hws := HB.out.size
      have hbw : b < wr.heap.size := Nat.lt_of_lt_of_le (hS b hbS) hws
      have HX := Lib.hid hx
      obtain ⟨K, hK⟩ : ∃ K : Int, K = k0 + cntL ptM (xs.take k) := ⟨_, rfl⟩
      have hK1 : 1 ≤ K := by omega
      have hK2 : K + (ptM.cnt x : Nat) ≤ 1000000000000 := by have := K2.out; omega
      have HK := Lib.hid hK
      rw [← hK] at hym ⊢
      have HKS := Lib.hid hks
      clear hK hks htk hx hy
      rw [hym] at hR
      clear hym
      obtain ⟨A', c', rfl, hz2, hlc', hcm', hr'⟩ := hR
      have hr' : LRow (listR tmR) wr S A' (mkL (listM tmM) (K + 1 + 1 + 1) x.args) := hr'
      have hpm : (x.args).length ≤ maxLen := by have h1 : (mkL (listM tmM) (K + 1 + 1 + 1) x.args).length ≤ c' := hlc'; rw [mkL_length] at h1; omega
      have hc0 : wr.cell? ⟨b, o + k * 4, none⟩ = some (.int .i64 (K)) := hc 0 _ rfl
      have hc1 : wr.cell? ⟨b, o + k * 4 + 1, none⟩ = some (.int .i64 (K + 1)) := hc 1 _ rfl
      have hc2 : wr.cell? ⟨b, o + k * 4 + 2, none⟩ = some (.string (mkT (K + 1 + 1))) := hc 2 _ rfl
      have hc3 : wr.cell? ⟨b, o + k * 4 + 3, none⟩ = some (.slice A' (x.args).length c') := by
        have e : wr.cell? ⟨b, o + k * 4 + 3, none⟩ = some (.slice A' (mkL (listM tmM) (K + 1 + 1 + 1) x.args).length c') := hc 3 _ rfl
        rw [mkL_length] at e
        exact e
      clear hc hz2
      have hcnt : ((ptM.cnt x : Nat) : Int) = 3 + (cntL (listM tmM) x.args : Nat) := by show (((3 + cntL (listM tmM) x.args : Nat)) : Int) = _; omega
      rw [hcnt] at hK2
      have HCNT := Lib.hid hcnt
      clear hcnt
      have CN := Lib.hid (fun (W : World) (hW : Below wr.heap.size wr W) => heldOTermSS_any A' (x.args).length c' (K + 1 + 1 + 1) (x.args) W S (hr'.keep (SameOn.of_below hW fun b hb => Nat.lt_of_lt_of_le (hS b hb) hws)) (fun b hb => Nat.lt_of_lt_of_le (hS b hb) (Nat.le_trans hws hW.size)) rfl hpm (by omega) (by omega))
      clear hr' hpm hlc' hcm'
      have hbwr : b < wr.heap.size := hbw
      have HBwr := Lib.hid (Below.refl wr.heap.size wr)
      have wrc0 := hc0
      clear hc0
      have wrc1 := hc1
      clear hc1
      have wrc2 := hc2
      clear hc2
      have wrc3 := hc3
      clear hc3
      have hi0 : ((K) != (K)) = false := by simp
      have hi1 : ((K + 1) != (K + 1)) = false := by simp
      have HS := Lib.hid (fun (W : World) (hW : Below wr.heap.size wr W) => (⟨hW, (hW.cell (p := ⟨b, o + k * 4 + 2, none⟩) hbwr).trans wrc2, (hW.cell (p := ⟨b, o + k * 4 + 3, none⟩) hbwr).trans wrc3⟩ : Below wr.heap.size wr W ∧ W.cell? ⟨b, o + k * 4 + 2, none⟩ = some (.string (mkT (K + 1 + 1))) ∧ W.cell? ⟨b, o + k * 4 + 3, none⟩ = some (.slice A' (x.args).length c')))
      have HV := Lib.hid (Below.refl wr.heap.size wr)
      have hsz2 : wr.heap.size ≤ wr.heap.size := Nat.le_refl _
      go_wp2
      go_region_held3 (fun W => Below wr.heap.size wr W ∧ W.cell? ⟨b, o + k * 4 + 2, none⟩ = some (.string (mkT (K + 1 + 1))) ∧ W.cell? ⟨b, o + k * 4 + 3, none⟩ = some (.slice A' (x.args).length c')) (exact HS.out _ (by first | exact HV.out.drew | exact HV.out)) (first
        | (go_at_call 102; refine (markText_any (K + 1 + 1) _ (by omega) (by omega)).mono ?_; rintro e v2 ⟨rfl, b3⟩; have HV := Lib.hid (Below.trans (by first | exact HV.out | exact HV.out.drew) (b3.mono (by first | exact Nat.le_refl _ | exact HV.out.size))); clear b3))
      have hbv2 : b < v2.heap.size := Nat.lt_of_lt_of_le hbwr HV.out.size
      have HBv2 := Lib.hid (HBwr.out.trans (HV.out.mono HBwr.out.size))
      have v2c2 : v2.cell? ⟨b, o + k * 4 + 2, none⟩ = some (.string (mkT (K + 1 + 1))) := (HV.out.cell (p := ⟨b, o + k * 4 + 2, none⟩) hbwr).trans wrc2
      have v2c3 : v2.cell? ⟨b, o + k * 4 + 3, none⟩ = some (.slice A' (x.args).length c') := (HV.out.cell (p := ⟨b, o + k * 4 + 3, none⟩) hbwr).trans wrc3
      clear HS HV hsz2
      have hneg : ¬ (K + 1 + 1 + 1 + (cntL (listM tmM) x.args : Nat) < 0) := by omega
      go_wp2_with fail
      refine (CN.out _ HBv2.out).mono ?_
      rintro e v3 ⟨rfl, b3⟩
      have HBv3 := Lib.hid (HBv2.out.trans (b3.mono HBv2.out.size))
      clear b3
      go_wp2
      go_roundw
      case rel => exact ⟨k + 1, by omega, by go_num, congrArg (Value.int .i64) (by have h1 := HKS.out; have h2 := HK.out; have h3 := HCNT.out; omega), Lib.hid (HB.out.trans (HBv3.out.mono hws))⟩
      case measure => simp [intOf]; omega
    · obtain rfl : k = n := by omega
      have HTK := Lib.hid (show xs.take k = xs from List.take_of_length_le (by rw [L.out]; exact Nat.le_refl _))
      go_wp2
      go_ret
      exact ⟨ret_int (by rw [HTK.out]), HB.out⟩
set_option maxRecDepth 100000 in
set_option maxHeartbeats 4000000 in
theorem markODefinitionS_any (A : Option Addr) (n c : Nat) (k0 : Int) (xs : List (Df)) (w : World) (S : Nat → Prop) (h : OL dfO 88 w S A n c xs) (k1 : 1 ≤ k0) (k2 : k0 + cntL dfM xs ≤ 1000000000000) :
    Calls Tryz.prog 61 #[.slice A n c, .int .i64 k0] w (MarkRet dfO 88 dfM k0 S A n c xs w) := by
  have L := Lib.hid h.len
  have hn : n ≤ 9223372036854775807 := by have := h.cap; unfold maxLen at this; omega
  have K2 := Lib.hid k2
  clear k2
  go_enter Tryz.func61, Tryz.ntmps61
  go_wp2
  go_loopw [1, 5] (fun x i wr => ∃ k : Nat, k ≤ n ∧ i = .int .i64 k ∧ x = .int .i64 (k0 + cntL dfM (xs.take k)) ∧ Hid (OL dfO 88 wr S A n c (midL dfM k0 xs k)) ∧ Hid (TurnS S w wr)) (fun _ i _ => n - (intOf i).toNat)
  case atStart => exact ⟨0, Nat.zero_le _, rfl, by simp [cntL], Lib.hid (by rw [midL_zero]; exact h), Lib.hid (TurnS.refl _ _)⟩
  case round =>
    obtain ⟨k, hk, rfl, rfl, HO, HT⟩ := hrel
    clear h
    by_cases hlt : k < n
    · obtain ⟨x, hx⟩ : ∃ x, xs[k]? = some x := ⟨_, List.getElem?_eq_getElem (by rw [L.out]; exact hlt)⟩
      have htk := cntL_take (M := dfM) xs (k + 1)
      have hks := cntL_succ (M := dfM) hx
      obtain ⟨g, pre, cs, post, E, rfl, hgS, hgE, hES, hpre, hgw, hrow, hO, hclose⟩ := HO.out.open_ (midL_at (k0 := k0) (M := dfM) hx)
      have hpre : pre.length = k * 3 := hpre
      have hrow : wr.ownsRow 0 88 3 (.slice (some ⟨g, 0, none⟩) n c) n (pre ++ (cs ++ post)) := hrow
      have HX := Lib.hid hx
      obtain ⟨K, hK⟩ : ∃ K : Int, K = k0 + cntL dfM (xs.take k) := ⟨_, rfl⟩
      have hK1 : 1 ≤ K := by omega
      have hK2 : K + (dfM.cnt x : Nat) ≤ 1000000000000 := by have := K2.out; omega
      have HK := Lib.hid hK
      rw [← hK]
      have HKS := Lib.hid hks
      clear hK hks htk hx k1
      obtain ⟨A', c', rfl, hz0, hol⟩ := hO
      have HROW := Lib.hid hrow
      have HPRE := Lib.hid hpre
      have HCL := Lib.hid hclose
      clear hrow hpre hclose
      have pc0 : wr.cell? ⟨g, k * 3, none⟩ = some (.string x.nm) := (own_part (j := 0) HROW.out HPRE.out (by omega) rfl rfl hlt).1
      have pf0 : wr.frozen? ⟨g, k * 3, none⟩ = false := (own_part (j := 0) HROW.out HPRE.out (by omega) rfl rfl hlt).2
      have pc1 : wr.cell? ⟨g, k * 3 + 1, none⟩ = some (.int .i64 x.ps) := (own_part (j := 1) HROW.out HPRE.out (by omega) rfl rfl hlt).1
      have pf1 : wr.frozen? ⟨g, k * 3 + 1, none⟩ = false := (own_part (j := 1) HROW.out HPRE.out (by omega) rfl rfl hlt).2
      have pc2 : wr.cell? ⟨g, k * 3 + 2, none⟩ = some (.slice A' x.body.length c') := (own_part (j := 2) HROW.out HPRE.out (by omega) rfl rfl hlt).1
      have pf2 : wr.frozen? ⟨g, k * 3 + 2, none⟩ = false := (own_part (j := 2) HROW.out HPRE.out (by omega) rfl rfl hlt).2
      have hcnt : ((dfM.cnt x : Nat) : Int) = 2 + (cntL ptM x.body : Nat) := by show (((2 + cntL ptM x.body : Nat)) : Int) = _; omega
      rw [hcnt] at hK2
      have HCNT := Lib.hid hcnt
      clear hcnt
      have HT1 := Lib.hid (show TurnS (fun b => b = g) wr wr from (TurnS.refl (fun b => b = g) wr))
      have HR1 := Lib.hid (show wr.ownsRow 0 88 3 (.slice (some ⟨g, 0, none⟩) n c) n (pre ++ ([.string x.nm, .int .i64 x.ps, .slice A' x.body.length c'] ++ post)) from HROW.out)
      go_wp2_with fail
      refine (markText_any (K) _ (by omega) (by omega)).mono ?_
      rintro e v1 ⟨rfl, b1⟩
      have HT1 := Lib.hid (HT1.out.trans (TurnS.of_below b1))
      have HR1 := Lib.hid (own_below' HR1.out b1)
      clear b1
      have q1c0 : v1.cell? ⟨g, k * 3, none⟩ = some (.string x.nm) := (own_part (j := 0) HR1.out HPRE.out (by omega) rfl rfl hlt).1
      have q1f0 : v1.frozen? ⟨g, k * 3, none⟩ = false := (own_part (j := 0) HR1.out HPRE.out (by omega) rfl rfl hlt).2
      have q1c1 : v1.cell? ⟨g, k * 3 + 1, none⟩ = some (.int .i64 x.ps) := (own_part (j := 1) HR1.out HPRE.out (by omega) rfl rfl hlt).1
      have q1f1 : v1.frozen? ⟨g, k * 3 + 1, none⟩ = false := (own_part (j := 1) HR1.out HPRE.out (by omega) rfl rfl hlt).2
      have q1c2 : v1.cell? ⟨g, k * 3 + 2, none⟩ = some (.slice A' x.body.length c') := (own_part (j := 2) HR1.out HPRE.out (by omega) rfl rfl hlt).1
      have q1f2 : v1.frozen? ⟨g, k * 3 + 2, none⟩ = false := (own_part (j := 2) HR1.out HPRE.out (by omega) rfl rfl hlt).2
      have st0 := own_store (p := k * 3) (j := 0) HR1.out HPRE.out (by omega) (by simp) (.string (mkT (K)))
      have st1 := own_store (p := k * 3 + 1) (j := 1) st0.1 HPRE.out (by omega) (by simp) (.int .i64 (K + 1))
      have HT2 := Lib.hid (show TurnS (fun b => b = g) wr ((v1.setCell ⟨g, k * 3, none⟩ (.string (mkT (K)))).setCell ⟨g, k * 3 + 1, none⟩ (.int .i64 (K + 1))) from ((HT1.out.trans st0.2).trans st1.2))
      have HR2 := Lib.hid (show ((v1.setCell ⟨g, k * 3, none⟩ (.string (mkT (K)))).setCell ⟨g, k * 3 + 1, none⟩ (.int .i64 (K + 1))).ownsRow 0 88 3 (.slice (some ⟨g, 0, none⟩) n c) n (pre ++ ([.string (mkT (K)), .int .i64 (K + 1), .slice A' x.body.length c'] ++ post)) from st1.1)
      have OL2 := hol.keep (SameB.of_turn HT2.out fun b hb e => hgE (e ▸ hb))
      clear hol st0 st1
      have C2 := Lib.hid (markOPartS_any A' (x.body).length c' (K + 1 + 1) (x.body) _ E OL2 (by omega) (by omega))
      clear OL2
      go_wp2_with fail
      refine (C2.out).mono ?_
      rintro e v2 ⟨rfl, ol, t2⟩
      have HR2 := Lib.hid (own_sameB (S := fun b => b = g) HR2.out (SameB.of_turn t2 fun b hb => by subst hb; exact hgE) (fun g' hg' => by injection hg' with hg'; exact hg'.symm))
      have HT2 := Lib.hid ((HT2.out.more (S' := fun b => b = g ∨ E b) fun b hb => Or.inl hb).trans (t2.more fun b hb => Or.inr hb))
      have HOLN := Lib.hid ol
      clear t2 ol
      go_wp2
      go_roundw
      case rel =>
        refine ⟨k + 1, by omega, by go_num, congrArg (Value.int .i64) (by have h1 := HKS.out; have h2 := HK.out; have h3 := HCNT.out; omega), Lib.hid ?_, Lib.hid (HT.out.trans ((HT2.out).more fun b hb => hb.elim (fun e => e ▸ hgS) (fun e => hES b e)))⟩
        have hfin := HCL.out _ _ (dfM.md K x) (HR2.out) (⟨A', c', by show (_ : List Value) = ([.string (mkT (K)), .int .i64 (K + 1), .slice A' (mkL ptM (K + 1 + 1) x.body).length c'] : List Value); rw [mkL_length], by have := mkT_size K; show (mkT K).size ≤ maxLen; unfold maxLen; omega, by show OL _ _ _ _ _ (mkL ptM (K + 1 + 1) x.body).length _ _; rw [mkL_length]; exact HOLN.out⟩) (HT2.out)
        have e := midL_succ (M := dfM) (k0 := k0) HX.out
        rw [← HK.out] at e
        rw [e] at hfin
        exact hfin
      case measure => simp [intOf]; omega
    · obtain rfl : k = n := by omega
      have HA := Lib.hid (midL_all (M := dfM) (k0 := k0) L.out)
      have HTK := Lib.hid (show xs.take k = xs from List.take_of_length_le (by rw [L.out]; exact Nat.le_refl _))
      go_wp2
      go_ret
      exact ⟨ret_int (by rw [HTK.out]), by rw [← HA.out]; exact HO.out, HT.out⟩
set_option maxRecDepth 100000 in
set_option maxHeartbeats 4000000 in
theorem heldODefinitionS_any (A : Option Addr) (n c : Nat) (k0 : Int) (xs : List (Df)) (w : World) (S : Nat → Prop) (h : LRow dfR w S A (mkL dfM k0 xs)) (hS : ∀ b, S b → b < w.heap.size) (l : xs.length = n) (hn : n ≤ maxLen) (k1 : 1 ≤ k0) (k2 : k0 + cntL dfM xs ≤ 1000000000000) :
    Calls Tryz.prog 66 #[.slice A n c, .int .i64 k0] w fun e w' => e = .returned (.int .i64 (k0 + cntL dfM xs)) ∧ Below w.heap.size w w' := by
  unfold maxLen at hn
  have L := Lib.hid l
  have K2 := Lib.hid k2
  clear k2 l
  go_enter Tryz.func66, Tryz.ntmps66
  go_wp2
  go_loopw [1, 5] (fun x i wr => ∃ k : Nat, k ≤ n ∧ i = .int .i64 k ∧ x = .int .i64 (k0 + cntL dfM (xs.take k)) ∧ Hid (Below w.heap.size w wr)) (fun _ i _ => n - (intOf i).toNat)
  case atStart => exact ⟨0, Nat.zero_le _, rfl, by simp [cntL], Lib.hid (Below.refl _ _)⟩
  case round =>
    obtain ⟨k, hk, rfl, rfl, HB⟩ := hrel
    by_cases hlt : k < n
    · obtain ⟨x, hx⟩ : ∃ x, xs[k]? = some x := ⟨_, List.getElem?_eq_getElem (by rw [L.out]; exact hlt)⟩
      obtain ⟨b, o, cs, y, rfl, hbS, hR, hy, hc⟩ := (h.keep (SameOn.of_below HB.out hS)).at_ (k := k) (by rw [mkL_length, L.out]; exact hlt)
      have htk := cntL_take (M := dfM) xs (k + 1)
      have hks := cntL_succ (M := dfM) hx
      have hym := hy.out.symm.trans (mkL_at (k0 := k0) (M := dfM) hx)
      injection hym with hym
      have hws := HB.out.size
      have hbw : b < wr.heap.size := Nat.lt_of_lt_of_le (hS b hbS) hws
      have HX := Lib.hid hx
      obtain ⟨K, hK⟩ : ∃ K : Int, K = k0 + cntL dfM (xs.take k) := ⟨_, rfl⟩
      have hK1 : 1 ≤ K := by omega
      have hK2 : K + (dfM.cnt x : Nat) ≤ 1000000000000 := by have := K2.out; omega
      have HK := Lib.hid hK
      rw [← hK] at hym ⊢
      have HKS := Lib.hid hks
      clear hK hks htk hx hy
      rw [hym] at hR
      clear hym
      obtain ⟨A', c', rfl, hz0, hlc', hcm', hr'⟩ := hR
      have hr' : LRow ptR wr S A' (mkL ptM (K + 1 + 1) x.body) := hr'
      have hpm : (x.body).length ≤ maxLen := by have h1 : (mkL ptM (K + 1 + 1) x.body).length ≤ c' := hlc'; rw [mkL_length] at h1; omega
      have hc0 : wr.cell? ⟨b, o + k * 3, none⟩ = some (.string (mkT (K))) := hc 0 _ rfl
      have hc1 : wr.cell? ⟨b, o + k * 3 + 1, none⟩ = some (.int .i64 (K + 1)) := hc 1 _ rfl
      have hc2 : wr.cell? ⟨b, o + k * 3 + 2, none⟩ = some (.slice A' (x.body).length c') := by
        have e : wr.cell? ⟨b, o + k * 3 + 2, none⟩ = some (.slice A' (mkL ptM (K + 1 + 1) x.body).length c') := hc 2 _ rfl
        rw [mkL_length] at e
        exact e
      clear hc hz0
      have hcnt : ((dfM.cnt x : Nat) : Int) = 2 + (cntL ptM x.body : Nat) := by show (((2 + cntL ptM x.body : Nat)) : Int) = _; omega
      rw [hcnt] at hK2
      have HCNT := Lib.hid hcnt
      clear hcnt
      have CN := Lib.hid (fun (W : World) (hW : Below wr.heap.size wr W) => heldOPartS_any A' (x.body).length c' (K + 1 + 1) (x.body) W S (hr'.keep (SameOn.of_below hW fun b hb => Nat.lt_of_lt_of_le (hS b hb) hws)) (fun b hb => Nat.lt_of_lt_of_le (hS b hb) (Nat.le_trans hws hW.size)) rfl hpm (by omega) (by omega))
      clear hr' hpm hlc' hcm'
      have hbwr : b < wr.heap.size := hbw
      have HBwr := Lib.hid (Below.refl wr.heap.size wr)
      have wrc0 := hc0
      clear hc0
      have wrc1 := hc1
      clear hc1
      have wrc2 := hc2
      clear hc2
      have HS := Lib.hid (fun (W : World) (hW : Below wr.heap.size wr W) => (⟨hW, (hW.cell (p := ⟨b, o + k * 3, none⟩) hbwr).trans wrc0, (hW.cell (p := ⟨b, o + k * 3 + 1, none⟩) hbwr).trans wrc1, (hW.cell (p := ⟨b, o + k * 3 + 2, none⟩) hbwr).trans wrc2⟩ : Below wr.heap.size wr W ∧ W.cell? ⟨b, o + k * 3, none⟩ = some (.string (mkT (K))) ∧ W.cell? ⟨b, o + k * 3 + 1, none⟩ = some (.int .i64 (K + 1)) ∧ W.cell? ⟨b, o + k * 3 + 2, none⟩ = some (.slice A' (x.body).length c')))
      have HV := Lib.hid (Below.refl wr.heap.size wr)
      have hsz0 : wr.heap.size ≤ wr.heap.size := Nat.le_refl _
      go_wp2
      go_region_held3 (fun W => Below wr.heap.size wr W ∧ W.cell? ⟨b, o + k * 3, none⟩ = some (.string (mkT (K))) ∧ W.cell? ⟨b, o + k * 3 + 1, none⟩ = some (.int .i64 (K + 1)) ∧ W.cell? ⟨b, o + k * 3 + 2, none⟩ = some (.slice A' (x.body).length c')) (exact HS.out _ (by first | exact HV.out.drew | exact HV.out)) (first
        | (go_at_call 102; refine (markText_any (K) _ (by omega) (by omega)).mono ?_; rintro e v0 ⟨rfl, b3⟩; have HV := Lib.hid (Below.trans (by first | exact HV.out | exact HV.out.drew) (b3.mono (by first | exact Nat.le_refl _ | exact HV.out.size))); clear b3))
      have hbv0 : b < v0.heap.size := Nat.lt_of_lt_of_le hbwr HV.out.size
      have HBv0 := Lib.hid (HBwr.out.trans (HV.out.mono HBwr.out.size))
      have v0c0 : v0.cell? ⟨b, o + k * 3, none⟩ = some (.string (mkT (K))) := (HV.out.cell (p := ⟨b, o + k * 3, none⟩) hbwr).trans wrc0
      have v0c1 : v0.cell? ⟨b, o + k * 3 + 1, none⟩ = some (.int .i64 (K + 1)) := (HV.out.cell (p := ⟨b, o + k * 3 + 1, none⟩) hbwr).trans wrc1
      have v0c2 : v0.cell? ⟨b, o + k * 3 + 2, none⟩ = some (.slice A' (x.body).length c') := (HV.out.cell (p := ⟨b, o + k * 3 + 2, none⟩) hbwr).trans wrc2
      clear HS HV hsz0
      have hi1 : ((K + 1) != (K + 1)) = false := by simp
      have hneg : ¬ (K + 1 + 1 + (cntL ptM x.body : Nat) < 0) := by omega
      go_wp2_with fail
      refine (CN.out _ HBv0.out).mono ?_
      rintro e v2 ⟨rfl, b3⟩
      have HBv2 := Lib.hid (HBv0.out.trans (b3.mono HBv0.out.size))
      clear b3
      go_wp2
      go_roundw
      case rel => exact ⟨k + 1, by omega, by go_num, congrArg (Value.int .i64) (by have h1 := HKS.out; have h2 := HK.out; have h3 := HCNT.out; omega), Lib.hid (HB.out.trans (HBv2.out.mono hws))⟩
      case measure => simp [intOf]; omega
    · obtain rfl : k = n := by omega
      have HTK := Lib.hid (show xs.take k = xs from List.take_of_length_le (by rw [L.out]; exact Nat.le_refl _))
      go_wp2
      go_ret
      exact ⟨ret_int (by rw [HTK.out]), HB.out⟩
end Go.Proofs.YtdgcpaeneafejaaGreatDoor

namespace Go.Proofs.YtdgcpaeneafejaaGreatDoor
open Go.RowKit
set_option maxRecDepth 100000 in
set_option maxHeartbeats 4000000 in
theorem markOComponentS_any (A : Option Addr) (n c : Nat) (k0 : Int) (xs : List (Cp)) (w : World) (S : Nat → Prop) (h : OL cpO 45 w S A n c xs) (k1 : 1 ≤ k0) (k2 : k0 + cntL cpM xs ≤ 1000000000000) :
    Calls Tryz.prog 62 #[.slice A n c, .int .i64 k0] w (MarkRet cpO 45 cpM k0 S A n c xs w) := by
  have L := Lib.hid h.len
  have hn : n ≤ 9223372036854775807 := by have := h.cap; unfold maxLen at this; omega
  have K2 := Lib.hid k2
  clear k2
  go_enter Tryz.func62, Tryz.ntmps62
  go_wp2
  go_loopw [1, 5] (fun x i wr => ∃ k : Nat, k ≤ n ∧ i = .int .i64 k ∧ x = .int .i64 (k0 + cntL cpM (xs.take k)) ∧ Hid (OL cpO 45 wr S A n c (midL cpM k0 xs k)) ∧ Hid (TurnS S w wr)) (fun _ i _ => n - (intOf i).toNat)
  case atStart => exact ⟨0, Nat.zero_le _, rfl, by simp [cntL], Lib.hid (by rw [midL_zero]; exact h), Lib.hid (TurnS.refl _ _)⟩
  case round =>
    obtain ⟨k, hk, rfl, rfl, HO, HT⟩ := hrel
    clear h
    by_cases hlt : k < n
    · obtain ⟨x, hx⟩ : ∃ x, xs[k]? = some x := ⟨_, List.getElem?_eq_getElem (by rw [L.out]; exact hlt)⟩
      have htk := cntL_take (M := cpM) xs (k + 1)
      have hks := cntL_succ (M := cpM) hx
      obtain ⟨g, pre, cs, post, E, rfl, hgS, hgE, hES, hpre, hgw, hrow, hO, hclose⟩ := HO.out.open_ (midL_at (k0 := k0) (M := cpM) hx)
      have hpre : pre.length = k * 2 := hpre
      have hrow : wr.ownsRow 0 45 2 (.slice (some ⟨g, 0, none⟩) n c) n (pre ++ (cs ++ post)) := hrow
      have HX := Lib.hid hx
      obtain ⟨K, hK⟩ : ∃ K : Int, K = k0 + cntL cpM (xs.take k) := ⟨_, rfl⟩
      have hK1 : 1 ≤ K := by omega
      have hK2 : K + (cpM.cnt x : Nat) ≤ 1000000000000 := by have := K2.out; omega
      have HK := Lib.hid hK
      rw [← hK]
      have HKS := Lib.hid hks
      clear hK hks htk hx k1
      obtain ⟨A', c', rfl, hol⟩ := hO
      have HROW := Lib.hid hrow
      have HPRE := Lib.hid hpre
      have HCL := Lib.hid hclose
      clear hrow hpre hclose
      have pc0 : wr.cell? ⟨g, k * 2, none⟩ = some (.int .i64 x.d) := (own_part (j := 0) HROW.out HPRE.out (by omega) rfl rfl hlt).1
      have pf0 : wr.frozen? ⟨g, k * 2, none⟩ = false := (own_part (j := 0) HROW.out HPRE.out (by omega) rfl rfl hlt).2
      have pc1 : wr.cell? ⟨g, k * 2 + 1, none⟩ = some (.slice A' x.vs.length c') := (own_part (j := 1) HROW.out HPRE.out (by omega) rfl rfl hlt).1
      have pf1 : wr.frozen? ⟨g, k * 2 + 1, none⟩ = false := (own_part (j := 1) HROW.out HPRE.out (by omega) rfl rfl hlt).2
      have hcnt : ((cpM.cnt x : Nat) : Int) = 1 + (cntL intM x.vs : Nat) := by show (((1 + cntL intM x.vs : Nat)) : Int) = _; omega
      rw [hcnt] at hK2
      have HCNT := Lib.hid hcnt
      clear hcnt
      have st0 := own_store (p := k * 2) (j := 0) HROW.out HPRE.out (by omega) (by simp) (.int .i64 (K))
      have HT1 := Lib.hid (show TurnS (fun b => b = g) wr (wr.setCell ⟨g, k * 2, none⟩ (.int .i64 (K))) from ((TurnS.refl (fun b => b = g) wr).trans st0.2))
      have HR1 := Lib.hid (show (wr.setCell ⟨g, k * 2, none⟩ (.int .i64 (K))).ownsRow 0 45 2 (.slice (some ⟨g, 0, none⟩) n c) n (pre ++ ([.int .i64 (K), .slice A' x.vs.length c'] ++ post)) from st0.1)
      have OL1 := hol.keep (SameB.of_turn HT1.out fun b hb e => hgE (e ▸ hb))
      clear hol st0
      have C1 := Lib.hid (markOInt64S_any A' (x.vs).length c' (K + 1) (x.vs) _ E OL1 (by omega) (by omega))
      clear OL1
      go_wp2_with fail
      refine (C1.out).mono ?_
      rintro e v1 ⟨rfl, ol, t2⟩
      have HR1 := Lib.hid (own_sameB (S := fun b => b = g) HR1.out (SameB.of_turn t2 fun b hb => by subst hb; exact hgE) (fun g' hg' => by injection hg' with hg'; exact hg'.symm))
      have HT1 := Lib.hid ((HT1.out.more (S' := fun b => b = g ∨ E b) fun b hb => Or.inl hb).trans (t2.more fun b hb => Or.inr hb))
      have HOLN := Lib.hid ol
      clear t2 ol
      go_wp2
      go_roundw
      case rel =>
        refine ⟨k + 1, by omega, by go_num, congrArg (Value.int .i64) (by have h1 := HKS.out; have h2 := HK.out; have h3 := HCNT.out; omega), Lib.hid ?_, Lib.hid (HT.out.trans ((HT1.out).more fun b hb => hb.elim (fun e => e ▸ hgS) (fun e => hES b e)))⟩
        have hfin := HCL.out _ _ (cpM.md K x) (HR1.out) (⟨A', c', by show (_ : List Value) = ([.int .i64 (K), .slice A' (mkL intM (K + 1) x.vs).length c'] : List Value); rw [mkL_length], by show OL _ _ _ _ _ (mkL intM (K + 1) x.vs).length _ _; rw [mkL_length]; exact HOLN.out⟩) (HT1.out)
        have e := midL_succ (M := cpM) (k0 := k0) HX.out
        rw [← HK.out] at e
        rw [e] at hfin
        exact hfin
      case measure => simp [intOf]; omega
    · obtain rfl : k = n := by omega
      have HA := Lib.hid (midL_all (M := cpM) (k0 := k0) L.out)
      have HTK := Lib.hid (show xs.take k = xs from List.take_of_length_le (by rw [L.out]; exact Nat.le_refl _))
      go_wp2
      go_ret
      exact ⟨ret_int (by rw [HTK.out]), by rw [← HA.out]; exact HO.out, HT.out⟩
set_option maxRecDepth 100000 in
set_option maxHeartbeats 4000000 in
theorem heldOComponentS_any (A : Option Addr) (n c : Nat) (k0 : Int) (xs : List (Cp)) (w : World) (S : Nat → Prop) (h : LRow cpR w S A (mkL cpM k0 xs)) (hS : ∀ b, S b → b < w.heap.size) (l : xs.length = n) (hn : n ≤ maxLen) (k1 : 1 ≤ k0) (k2 : k0 + cntL cpM xs ≤ 1000000000000) :
    Calls Tryz.prog 67 #[.slice A n c, .int .i64 k0] w fun e w' => e = .returned (.int .i64 (k0 + cntL cpM xs)) ∧ Below w.heap.size w w' := by
  unfold maxLen at hn
  have L := Lib.hid l
  have K2 := Lib.hid k2
  clear k2 l
  go_enter Tryz.func67, Tryz.ntmps67
  go_wp2
  go_loopw [1, 5] (fun x i wr => ∃ k : Nat, k ≤ n ∧ i = .int .i64 k ∧ x = .int .i64 (k0 + cntL cpM (xs.take k)) ∧ Hid (Below w.heap.size w wr)) (fun _ i _ => n - (intOf i).toNat)
  case atStart => exact ⟨0, Nat.zero_le _, rfl, by simp [cntL], Lib.hid (Below.refl _ _)⟩
  case round =>
    obtain ⟨k, hk, rfl, rfl, HB⟩ := hrel
    by_cases hlt : k < n
    · obtain ⟨x, hx⟩ : ∃ x, xs[k]? = some x := ⟨_, List.getElem?_eq_getElem (by rw [L.out]; exact hlt)⟩
      obtain ⟨b, o, cs, y, rfl, hbS, hR, hy, hc⟩ := (h.keep (SameOn.of_below HB.out hS)).at_ (k := k) (by rw [mkL_length, L.out]; exact hlt)
      have htk := cntL_take (M := cpM) xs (k + 1)
      have hks := cntL_succ (M := cpM) hx
      have hym := hy.out.symm.trans (mkL_at (k0 := k0) (M := cpM) hx)
      injection hym with hym
      have hws := HB.out.size
      have hbw : b < wr.heap.size := Nat.lt_of_lt_of_le (hS b hbS) hws
      have HX := Lib.hid hx
      obtain ⟨K, hK⟩ : ∃ K : Int, K = k0 + cntL cpM (xs.take k) := ⟨_, rfl⟩
      have hK1 : 1 ≤ K := by omega
      have hK2 : K + (cpM.cnt x : Nat) ≤ 1000000000000 := by have := K2.out; omega
      have HK := Lib.hid hK
      rw [← hK] at hym ⊢
      have HKS := Lib.hid hks
      clear hK hks htk hx hy
      rw [hym] at hR
      clear hym
      obtain ⟨A', c', rfl, hlc', hcm', hr'⟩ := hR
      have hr' : LRow intR wr S A' (mkL intM (K + 1) x.vs) := hr'
      have hpm : (x.vs).length ≤ maxLen := by have h1 : (mkL intM (K + 1) x.vs).length ≤ c' := hlc'; rw [mkL_length] at h1; omega
      have hc0 : wr.cell? ⟨b, o + k * 2, none⟩ = some (.int .i64 (K)) := hc 0 _ rfl
      have hc1 : wr.cell? ⟨b, o + k * 2 + 1, none⟩ = some (.slice A' (x.vs).length c') := by
        have e : wr.cell? ⟨b, o + k * 2 + 1, none⟩ = some (.slice A' (mkL intM (K + 1) x.vs).length c') := hc 1 _ rfl
        rw [mkL_length] at e
        exact e
      clear hc
      have hcnt : ((cpM.cnt x : Nat) : Int) = 1 + (cntL intM x.vs : Nat) := by show (((1 + cntL intM x.vs : Nat)) : Int) = _; omega
      rw [hcnt] at hK2
      have HCNT := Lib.hid hcnt
      clear hcnt
      have CN := Lib.hid (fun (W : World) (hW : Below wr.heap.size wr W) => heldOInt64S_any A' (x.vs).length c' (K + 1) (x.vs) W S (hr'.keep (SameOn.of_below hW fun b hb => Nat.lt_of_lt_of_le (hS b hb) hws)) (fun b hb => Nat.lt_of_lt_of_le (hS b hb) (Nat.le_trans hws hW.size)) rfl hpm (by omega) (by omega))
      clear hr' hpm hlc' hcm'
      have hbwr : b < wr.heap.size := hbw
      have HBwr := Lib.hid (Below.refl wr.heap.size wr)
      have wrc0 := hc0
      clear hc0
      have wrc1 := hc1
      clear hc1
      have hi0 : ((K) != (K)) = false := by simp
      have hneg : ¬ (K + 1 + (cntL intM x.vs : Nat) < 0) := by omega
      go_wp2_with fail
      refine (CN.out _ HBwr.out).mono ?_
      rintro e v1 ⟨rfl, b3⟩
      have HBv1 := Lib.hid (HBwr.out.trans (b3.mono HBwr.out.size))
      clear b3
      go_wp2
      go_roundw
      case rel => exact ⟨k + 1, by omega, by go_num, congrArg (Value.int .i64) (by have h1 := HKS.out; have h2 := HK.out; have h3 := HCNT.out; omega), Lib.hid (HB.out.trans (HBv1.out.mono hws))⟩
      case measure => simp [intOf]; omega
    · obtain rfl : k = n := by omega
      have HTK := Lib.hid (show xs.take k = xs from List.take_of_length_le (by rw [L.out]; exact Nat.le_refl _))
      go_wp2
      go_ret
      exact ⟨ret_int (by rw [HTK.out]), HB.out⟩
set_option maxRecDepth 100000 in
set_option maxHeartbeats 4000000 in
theorem markOMeetingS_any (A : Option Addr) (n c : Nat) (k0 : Int) (xs : List (Mt)) (w : World) (S : Nat → Prop) (h : OL mtO 122 w S A n c xs) (k1 : 1 ≤ k0) (k2 : k0 + cntL mtM xs ≤ 1000000000000) :
    Calls Tryz.prog 63 #[.slice A n c, .int .i64 k0] w (MarkRet mtO 122 mtM k0 S A n c xs w) := by
  have L := Lib.hid h.len
  have hn : n ≤ 9223372036854775807 := by have := h.cap; unfold maxLen at this; omega
  have K2 := Lib.hid k2
  clear k2
  go_enter Tryz.func63, Tryz.ntmps63
  go_wp2
  go_loopw [1, 5] (fun x i wr => ∃ k : Nat, k ≤ n ∧ i = .int .i64 k ∧ x = .int .i64 (k0 + cntL mtM (xs.take k)) ∧ Hid (OL mtO 122 wr S A n c (midL mtM k0 xs k)) ∧ Hid (TurnS S w wr)) (fun _ i _ => n - (intOf i).toNat)
  case atStart => exact ⟨0, Nat.zero_le _, rfl, by simp [cntL], Lib.hid (by rw [midL_zero]; exact h), Lib.hid (TurnS.refl _ _)⟩
  case round =>
    obtain ⟨k, hk, rfl, rfl, HO, HT⟩ := hrel
    clear h
    by_cases hlt : k < n
    · obtain ⟨x, hx⟩ : ∃ x, xs[k]? = some x := ⟨_, List.getElem?_eq_getElem (by rw [L.out]; exact hlt)⟩
      have htk := cntL_take (M := mtM) xs (k + 1)
      have hks := cntL_succ (M := mtM) hx
      obtain ⟨g, pre, cs, post, E, rfl, hgS, hgE, hES, hpre, hgw, hrow, hO, hclose⟩ := HO.out.open_ (midL_at (k0 := k0) (M := mtM) hx)
      have hpre : pre.length = k * 3 := hpre
      have hrow : wr.ownsRow 0 122 3 (.slice (some ⟨g, 0, none⟩) n c) n (pre ++ (cs ++ post)) := hrow
      have HX := Lib.hid hx
      obtain ⟨K, hK⟩ : ∃ K : Int, K = k0 + cntL mtM (xs.take k) := ⟨_, rfl⟩
      have hK1 : 1 ≤ K := by omega
      have hK2 : K + (mtM.cnt x : Nat) ≤ 1000000000000 := by have := K2.out; omega
      have HK := Lib.hid hK
      rw [← hK]
      have HKS := Lib.hid hks
      clear hK hks htk hx k1
      obtain ⟨rfl, hz0, hz1, hz2⟩ : cs = [Value.string x.l, Value.string x.r, Value.string x.s] ∧ _ := hO
      have HROW := Lib.hid hrow
      have HPRE := Lib.hid hpre
      have HCL := Lib.hid hclose
      clear hrow hpre hclose
      have pc0 : wr.cell? ⟨g, k * 3, none⟩ = some (.string x.l) := (own_part (j := 0) HROW.out HPRE.out (by omega) rfl rfl hlt).1
      have pf0 : wr.frozen? ⟨g, k * 3, none⟩ = false := (own_part (j := 0) HROW.out HPRE.out (by omega) rfl rfl hlt).2
      have pc1 : wr.cell? ⟨g, k * 3 + 1, none⟩ = some (.string x.r) := (own_part (j := 1) HROW.out HPRE.out (by omega) rfl rfl hlt).1
      have pf1 : wr.frozen? ⟨g, k * 3 + 1, none⟩ = false := (own_part (j := 1) HROW.out HPRE.out (by omega) rfl rfl hlt).2
      have pc2 : wr.cell? ⟨g, k * 3 + 2, none⟩ = some (.string x.s) := (own_part (j := 2) HROW.out HPRE.out (by omega) rfl rfl hlt).1
      have pf2 : wr.frozen? ⟨g, k * 3 + 2, none⟩ = false := (own_part (j := 2) HROW.out HPRE.out (by omega) rfl rfl hlt).2
      have hcnt : ((mtM.cnt x : Nat) : Int) = 3 := rfl
      rw [hcnt] at hK2
      have HCNT := Lib.hid hcnt
      clear hcnt
      have HT1 := Lib.hid (show TurnS (fun b => b = g) wr wr from (TurnS.refl (fun b => b = g) wr))
      have HR1 := Lib.hid (show wr.ownsRow 0 122 3 (.slice (some ⟨g, 0, none⟩) n c) n (pre ++ ([.string x.l, .string x.r, .string x.s] ++ post)) from HROW.out)
      go_wp2_with fail
      refine (markText_any (K) _ (by omega) (by omega)).mono ?_
      rintro e v1 ⟨rfl, b1⟩
      have HT1 := Lib.hid (HT1.out.trans (TurnS.of_below b1))
      have HR1 := Lib.hid (own_below' HR1.out b1)
      clear b1
      have q1c0 : v1.cell? ⟨g, k * 3, none⟩ = some (.string x.l) := (own_part (j := 0) HR1.out HPRE.out (by omega) rfl rfl hlt).1
      have q1f0 : v1.frozen? ⟨g, k * 3, none⟩ = false := (own_part (j := 0) HR1.out HPRE.out (by omega) rfl rfl hlt).2
      have q1c1 : v1.cell? ⟨g, k * 3 + 1, none⟩ = some (.string x.r) := (own_part (j := 1) HR1.out HPRE.out (by omega) rfl rfl hlt).1
      have q1f1 : v1.frozen? ⟨g, k * 3 + 1, none⟩ = false := (own_part (j := 1) HR1.out HPRE.out (by omega) rfl rfl hlt).2
      have q1c2 : v1.cell? ⟨g, k * 3 + 2, none⟩ = some (.string x.s) := (own_part (j := 2) HR1.out HPRE.out (by omega) rfl rfl hlt).1
      have q1f2 : v1.frozen? ⟨g, k * 3 + 2, none⟩ = false := (own_part (j := 2) HR1.out HPRE.out (by omega) rfl rfl hlt).2
      have st0 := own_store (p := k * 3) (j := 0) HR1.out HPRE.out (by omega) (by simp) (.string (mkT (K)))
      have HT2 := Lib.hid (show TurnS (fun b => b = g) wr (v1.setCell ⟨g, k * 3, none⟩ (.string (mkT (K)))) from (HT1.out.trans st0.2))
      have HR2 := Lib.hid (show (v1.setCell ⟨g, k * 3, none⟩ (.string (mkT (K)))).ownsRow 0 122 3 (.slice (some ⟨g, 0, none⟩) n c) n (pre ++ ([.string (mkT (K)), .string x.r, .string x.s] ++ post)) from st0.1)
      clear st0
      go_wp2_with fail
      refine (markText_any (K + 1) _ (by omega) (by omega)).mono ?_
      rintro e v2 ⟨rfl, b2⟩
      have HT2 := Lib.hid (HT2.out.trans (TurnS.of_below b2))
      have HR2 := Lib.hid (own_below' HR2.out b2)
      clear b2
      have q2c0 : v2.cell? ⟨g, k * 3, none⟩ = some (.string (mkT (K))) := (own_part (j := 0) HR2.out HPRE.out (by omega) rfl rfl hlt).1
      have q2f0 : v2.frozen? ⟨g, k * 3, none⟩ = false := (own_part (j := 0) HR2.out HPRE.out (by omega) rfl rfl hlt).2
      have q2c1 : v2.cell? ⟨g, k * 3 + 1, none⟩ = some (.string x.r) := (own_part (j := 1) HR2.out HPRE.out (by omega) rfl rfl hlt).1
      have q2f1 : v2.frozen? ⟨g, k * 3 + 1, none⟩ = false := (own_part (j := 1) HR2.out HPRE.out (by omega) rfl rfl hlt).2
      have q2c2 : v2.cell? ⟨g, k * 3 + 2, none⟩ = some (.string x.s) := (own_part (j := 2) HR2.out HPRE.out (by omega) rfl rfl hlt).1
      have q2f2 : v2.frozen? ⟨g, k * 3 + 2, none⟩ = false := (own_part (j := 2) HR2.out HPRE.out (by omega) rfl rfl hlt).2
      have st1 := own_store (p := k * 3 + 1) (j := 1) HR2.out HPRE.out (by omega) (by simp) (.string (mkT (K + 1)))
      have HT3 := Lib.hid (show TurnS (fun b => b = g) wr (v2.setCell ⟨g, k * 3 + 1, none⟩ (.string (mkT (K + 1)))) from (HT2.out.trans st1.2))
      have HR3 := Lib.hid (show (v2.setCell ⟨g, k * 3 + 1, none⟩ (.string (mkT (K + 1)))).ownsRow 0 122 3 (.slice (some ⟨g, 0, none⟩) n c) n (pre ++ ([.string (mkT (K)), .string (mkT (K + 1)), .string x.s] ++ post)) from st1.1)
      clear st1
      go_wp2_with fail
      refine (markText_any (K + 1 + 1) _ (by omega) (by omega)).mono ?_
      rintro e v3 ⟨rfl, b3⟩
      have HT3 := Lib.hid (HT3.out.trans (TurnS.of_below b3))
      have HR3 := Lib.hid (own_below' HR3.out b3)
      clear b3
      have q3c0 : v3.cell? ⟨g, k * 3, none⟩ = some (.string (mkT (K))) := (own_part (j := 0) HR3.out HPRE.out (by omega) rfl rfl hlt).1
      have q3f0 : v3.frozen? ⟨g, k * 3, none⟩ = false := (own_part (j := 0) HR3.out HPRE.out (by omega) rfl rfl hlt).2
      have q3c1 : v3.cell? ⟨g, k * 3 + 1, none⟩ = some (.string (mkT (K + 1))) := (own_part (j := 1) HR3.out HPRE.out (by omega) rfl rfl hlt).1
      have q3f1 : v3.frozen? ⟨g, k * 3 + 1, none⟩ = false := (own_part (j := 1) HR3.out HPRE.out (by omega) rfl rfl hlt).2
      have q3c2 : v3.cell? ⟨g, k * 3 + 2, none⟩ = some (.string x.s) := (own_part (j := 2) HR3.out HPRE.out (by omega) rfl rfl hlt).1
      have q3f2 : v3.frozen? ⟨g, k * 3 + 2, none⟩ = false := (own_part (j := 2) HR3.out HPRE.out (by omega) rfl rfl hlt).2
      have st2 := own_store (p := k * 3 + 2) (j := 2) HR3.out HPRE.out (by omega) (by simp) (.string (mkT (K + 1 + 1)))
      go_wp2
      go_roundw
      case rel =>
        refine ⟨k + 1, by omega, by go_num, congrArg (Value.int .i64) (by have h1 := HKS.out; have h2 := HK.out; have h3 := HCNT.out; omega), Lib.hid ?_, Lib.hid (HT.out.trans (((((HT3.out.trans st2.2)).more (S' := fun b => b = g ∨ E b) fun b hb => Or.inl hb)).more fun b hb => hb.elim (fun e => e ▸ hgS) (fun e => hES b e)))⟩
        have hfin := HCL.out _ _ (mtM.md K x) (st2.1) (⟨rfl, by have := mkT_size K; show (mkT K).size ≤ maxLen; unfold maxLen; omega, by have := mkT_size (K + 1); show (mkT (K + 1)).size ≤ maxLen; unfold maxLen; omega, by have := mkT_size (K + 1 + 1); show (mkT (K + 1 + 1)).size ≤ maxLen; unfold maxLen; omega⟩) ((((HT3.out.trans st2.2)).more (S' := fun b => b = g ∨ E b) fun b hb => Or.inl hb))
        have e := midL_succ (M := mtM) (k0 := k0) HX.out
        rw [← HK.out] at e
        rw [e] at hfin
        exact hfin
      case measure => simp [intOf]; omega
    · obtain rfl : k = n := by omega
      have HA := Lib.hid (midL_all (M := mtM) (k0 := k0) L.out)
      have HTK := Lib.hid (show xs.take k = xs from List.take_of_length_le (by rw [L.out]; exact Nat.le_refl _))
      go_wp2
      go_ret
      exact ⟨ret_int (by rw [HTK.out]), by rw [← HA.out]; exact HO.out, HT.out⟩
set_option maxRecDepth 100000 in
set_option maxHeartbeats 4000000 in
theorem heldOMeetingS_any (A : Option Addr) (n c : Nat) (k0 : Int) (xs : List (Mt)) (w : World) (S : Nat → Prop) (h : LRow mtR w S A (mkL mtM k0 xs)) (hS : ∀ b, S b → b < w.heap.size) (l : xs.length = n) (hn : n ≤ maxLen) (k1 : 1 ≤ k0) (k2 : k0 + cntL mtM xs ≤ 1000000000000) :
    Calls Tryz.prog 68 #[.slice A n c, .int .i64 k0] w fun e w' => e = .returned (.int .i64 (k0 + cntL mtM xs)) ∧ Below w.heap.size w w' := by
  unfold maxLen at hn
  have L := Lib.hid l
  have K2 := Lib.hid k2
  clear k2 l
  go_enter Tryz.func68, Tryz.ntmps68
  go_wp2
  go_loopw [1, 5] (fun x i wr => ∃ k : Nat, k ≤ n ∧ i = .int .i64 k ∧ x = .int .i64 (k0 + cntL mtM (xs.take k)) ∧ Hid (Below w.heap.size w wr)) (fun _ i _ => n - (intOf i).toNat)
  case atStart => exact ⟨0, Nat.zero_le _, rfl, by simp [cntL], Lib.hid (Below.refl _ _)⟩
  case round =>
    obtain ⟨k, hk, rfl, rfl, HB⟩ := hrel
    by_cases hlt : k < n
    · obtain ⟨x, hx⟩ : ∃ x, xs[k]? = some x := ⟨_, List.getElem?_eq_getElem (by rw [L.out]; exact hlt)⟩
      obtain ⟨b, o, cs, y, rfl, hbS, hR, hy, hc⟩ := (h.keep (SameOn.of_below HB.out hS)).at_ (k := k) (by rw [mkL_length, L.out]; exact hlt)
      have htk := cntL_take (M := mtM) xs (k + 1)
      have hks := cntL_succ (M := mtM) hx
      have hym := hy.out.symm.trans (mkL_at (k0 := k0) (M := mtM) hx)
      injection hym with hym
      have hws := HB.out.size
      have hbw : b < wr.heap.size := Nat.lt_of_lt_of_le (hS b hbS) hws
      have HX := Lib.hid hx
      obtain ⟨K, hK⟩ : ∃ K : Int, K = k0 + cntL mtM (xs.take k) := ⟨_, rfl⟩
      have hK1 : 1 ≤ K := by omega
      have hK2 : K + (mtM.cnt x : Nat) ≤ 1000000000000 := by have := K2.out; omega
      have HK := Lib.hid hK
      rw [← hK] at hym ⊢
      have HKS := Lib.hid hks
      clear hK hks htk hx hy
      rw [hym] at hR
      clear hym
      obtain ⟨rfl, hz0, hz1, hz2⟩ := hR
      have hc0 : wr.cell? ⟨b, o + k * 3, none⟩ = some (.string (mkT (K))) := hc 0 _ rfl
      have hc1 : wr.cell? ⟨b, o + k * 3 + 1, none⟩ = some (.string (mkT (K + 1))) := hc 1 _ rfl
      have hc2 : wr.cell? ⟨b, o + k * 3 + 2, none⟩ = some (.string (mkT (K + 1 + 1))) := hc 2 _ rfl
      clear hc hz0 hz1 hz2
      have hcnt : ((mtM.cnt x : Nat) : Int) = 3 := rfl
      rw [hcnt] at hK2
      have HCNT := Lib.hid hcnt
      clear hcnt
      have hbwr : b < wr.heap.size := hbw
      have HBwr := Lib.hid (Below.refl wr.heap.size wr)
      have wrc0 := hc0
      clear hc0
      have wrc1 := hc1
      clear hc1
      have wrc2 := hc2
      clear hc2
      have HS := Lib.hid (fun (W : World) (hW : Below wr.heap.size wr W) => (⟨hW, (hW.cell (p := ⟨b, o + k * 3, none⟩) hbwr).trans wrc0, (hW.cell (p := ⟨b, o + k * 3 + 1, none⟩) hbwr).trans wrc1, (hW.cell (p := ⟨b, o + k * 3 + 2, none⟩) hbwr).trans wrc2⟩ : Below wr.heap.size wr W ∧ W.cell? ⟨b, o + k * 3, none⟩ = some (.string (mkT (K))) ∧ W.cell? ⟨b, o + k * 3 + 1, none⟩ = some (.string (mkT (K + 1))) ∧ W.cell? ⟨b, o + k * 3 + 2, none⟩ = some (.string (mkT (K + 1 + 1)))))
      have HV := Lib.hid (Below.refl wr.heap.size wr)
      have hsz0 : wr.heap.size ≤ wr.heap.size := Nat.le_refl _
      go_wp2
      go_region_held3 (fun W => Below wr.heap.size wr W ∧ W.cell? ⟨b, o + k * 3, none⟩ = some (.string (mkT (K))) ∧ W.cell? ⟨b, o + k * 3 + 1, none⟩ = some (.string (mkT (K + 1))) ∧ W.cell? ⟨b, o + k * 3 + 2, none⟩ = some (.string (mkT (K + 1 + 1)))) (exact HS.out _ (by first | exact HV.out.drew | exact HV.out)) (first
        | (go_at_call 102; refine (markText_any (K) _ (by omega) (by omega)).mono ?_; rintro e v0 ⟨rfl, b3⟩; have HV := Lib.hid (Below.trans (by first | exact HV.out | exact HV.out.drew) (b3.mono (by first | exact Nat.le_refl _ | exact HV.out.size))); clear b3))
      have hbv0 : b < v0.heap.size := Nat.lt_of_lt_of_le hbwr HV.out.size
      have HBv0 := Lib.hid (HBwr.out.trans (HV.out.mono HBwr.out.size))
      have v0c0 : v0.cell? ⟨b, o + k * 3, none⟩ = some (.string (mkT (K))) := (HV.out.cell (p := ⟨b, o + k * 3, none⟩) hbwr).trans wrc0
      have v0c1 : v0.cell? ⟨b, o + k * 3 + 1, none⟩ = some (.string (mkT (K + 1))) := (HV.out.cell (p := ⟨b, o + k * 3 + 1, none⟩) hbwr).trans wrc1
      have v0c2 : v0.cell? ⟨b, o + k * 3 + 2, none⟩ = some (.string (mkT (K + 1 + 1))) := (HV.out.cell (p := ⟨b, o + k * 3 + 2, none⟩) hbwr).trans wrc2
      clear HS HV hsz0
      have HS := Lib.hid (fun (W : World) (hW : Below v0.heap.size v0 W) => (⟨hW, (hW.cell (p := ⟨b, o + k * 3 + 1, none⟩) hbv0).trans v0c1, (hW.cell (p := ⟨b, o + k * 3 + 2, none⟩) hbv0).trans v0c2⟩ : Below v0.heap.size v0 W ∧ W.cell? ⟨b, o + k * 3 + 1, none⟩ = some (.string (mkT (K + 1))) ∧ W.cell? ⟨b, o + k * 3 + 2, none⟩ = some (.string (mkT (K + 1 + 1)))))
      have HV := Lib.hid (Below.refl v0.heap.size v0)
      have hsz1 : v0.heap.size ≤ v0.heap.size := Nat.le_refl _
      go_wp2
      go_region_held3 (fun W => Below v0.heap.size v0 W ∧ W.cell? ⟨b, o + k * 3 + 1, none⟩ = some (.string (mkT (K + 1))) ∧ W.cell? ⟨b, o + k * 3 + 2, none⟩ = some (.string (mkT (K + 1 + 1)))) (exact HS.out _ (by first | exact HV.out.drew | exact HV.out)) (first
        | (go_at_call 102; refine (markText_any (K + 1) _ (by omega) (by omega)).mono ?_; rintro e v1 ⟨rfl, b3⟩; have HV := Lib.hid (Below.trans (by first | exact HV.out | exact HV.out.drew) (b3.mono (by first | exact Nat.le_refl _ | exact HV.out.size))); clear b3))
      have hbv1 : b < v1.heap.size := Nat.lt_of_lt_of_le hbv0 HV.out.size
      have HBv1 := Lib.hid (HBv0.out.trans (HV.out.mono HBv0.out.size))
      have v1c1 : v1.cell? ⟨b, o + k * 3 + 1, none⟩ = some (.string (mkT (K + 1))) := (HV.out.cell (p := ⟨b, o + k * 3 + 1, none⟩) hbv0).trans v0c1
      have v1c2 : v1.cell? ⟨b, o + k * 3 + 2, none⟩ = some (.string (mkT (K + 1 + 1))) := (HV.out.cell (p := ⟨b, o + k * 3 + 2, none⟩) hbv0).trans v0c2
      clear HS HV hsz1
      have HS := Lib.hid (fun (W : World) (hW : Below v1.heap.size v1 W) => (⟨hW, (hW.cell (p := ⟨b, o + k * 3 + 2, none⟩) hbv1).trans v1c2⟩ : Below v1.heap.size v1 W ∧ W.cell? ⟨b, o + k * 3 + 2, none⟩ = some (.string (mkT (K + 1 + 1)))))
      have HV := Lib.hid (Below.refl v1.heap.size v1)
      have hsz2 : v1.heap.size ≤ v1.heap.size := Nat.le_refl _
      go_wp2
      go_region_held3 (fun W => Below v1.heap.size v1 W ∧ W.cell? ⟨b, o + k * 3 + 2, none⟩ = some (.string (mkT (K + 1 + 1)))) (exact HS.out _ (by first | exact HV.out.drew | exact HV.out)) (first
        | (go_at_call 102; refine (markText_any (K + 1 + 1) _ (by omega) (by omega)).mono ?_; rintro e v2 ⟨rfl, b3⟩; have HV := Lib.hid (Below.trans (by first | exact HV.out | exact HV.out.drew) (b3.mono (by first | exact Nat.le_refl _ | exact HV.out.size))); clear b3))
      have hbv2 : b < v2.heap.size := Nat.lt_of_lt_of_le hbv1 HV.out.size
      have HBv2 := Lib.hid (HBv1.out.trans (HV.out.mono HBv1.out.size))
      have v2c2 : v2.cell? ⟨b, o + k * 3 + 2, none⟩ = some (.string (mkT (K + 1 + 1))) := (HV.out.cell (p := ⟨b, o + k * 3 + 2, none⟩) hbv1).trans v1c2
      clear HS HV hsz2
      go_wp2
      go_roundw
      case rel => exact ⟨k + 1, by omega, by go_num, congrArg (Value.int .i64) (by have h1 := HKS.out; have h2 := HK.out; have h3 := HCNT.out; omega), Lib.hid (HB.out.trans (HBv2.out.mono hws))⟩
      case measure => simp [intOf]; omega
    · obtain rfl : k = n := by omega
      have HTK := Lib.hid (show xs.take k = xs from List.take_of_length_le (by rw [L.out]; exact Nat.le_refl _))
      go_wp2
      go_ret
      exact ⟨ret_int (by rw [HTK.out]), HB.out⟩
end Go.Proofs.YtdgcpaeneafejaaGreatDoor

namespace Go.Proofs.YtdgcpaeneafejaaGreatDoor
open Go.RowKit
set_option maxRecDepth 100000 in
set_option maxHeartbeats 1000000 in
theorem markOPointS_any (A : Option Addr) (n c : Nat) (k0 : Int) (xs : List (Pn)) (w : World) (S : Nat → Prop) (h : OL pnO 106 w S A n c xs) (k1 : 1 ≤ k0) (k2 : k0 + cntL pnM xs ≤ 1000000000000) :
    Calls Tryz.prog 33 #[.slice A n c, .int .i64 k0] w (MarkRet pnO 106 pnM k0 S A n c xs w) := by
  have L := Lib.hid h.len
  have hn : n ≤ 9223372036854775807 := by have := h.cap; unfold maxLen at this; omega
  have K2 := Lib.hid k2
  clear k2
  go_enter Tryz.func33, Tryz.ntmps33
  go_wp2
  go_loopw [1, 5] (fun x i wr => ∃ k : Nat, k ≤ n ∧ i = .int .i64 k ∧ x = .int .i64 (k0 + cntL pnM (xs.take k)) ∧ Hid (OL pnO 106 wr S A n c (midL pnM k0 xs k)) ∧ Hid (TurnS S w wr)) (fun _ i _ => n - (intOf i).toNat)
  case atStart => exact ⟨0, Nat.zero_le _, rfl, by simp [cntL], Lib.hid (by rw [midL_zero]; exact h), Lib.hid (TurnS.refl _ _)⟩
  case round =>
    obtain ⟨k, hk, rfl, rfl, HO, HT⟩ := hrel
    clear h
    by_cases hlt : k < n
    · obtain ⟨x, hx⟩ : ∃ x, xs[k]? = some x := ⟨_, List.getElem?_eq_getElem (by rw [L.out]; exact hlt)⟩
      have htk := cntL_take (M := pnM) xs (k + 1)
      have hks := cntL_succ (M := pnM) hx
      obtain ⟨g, pre, cs, post, E, rfl, hgS, hgE, hES, hpre, hgw, hrow, hO, hclose⟩ := HO.out.open_ (midL_at (k0 := k0) (M := pnM) hx)
      have hpre : pre.length = k * 3 := hpre
      have hrow : wr.ownsRow 0 106 3 (.slice (some ⟨g, 0, none⟩) n c) n (pre ++ (cs ++ post)) := hrow
      have HX := Lib.hid hx
      obtain ⟨K, hK⟩ : ∃ K : Int, K = k0 + cntL pnM (xs.take k) := ⟨_, rfl⟩
      have hK1 : 1 ≤ K := by omega
      have hK2 : K + (pnM.cnt x : Nat) ≤ 1000000000000 := by have := K2.out; omega
      have HK := Lib.hid hK
      rw [← hK]
      have HKS := Lib.hid hks
      clear hK hks htk hx k1
      obtain ⟨A', c', rfl, hol⟩ := hO
      have HROW := Lib.hid hrow
      have HPRE := Lib.hid hpre
      have HCL := Lib.hid hclose
      clear hrow hpre hclose
      have pc0 : wr.cell? ⟨g, k * 3, none⟩ = some (.int .i64 x.d) := (own_part (j := 0) HROW.out HPRE.out (by omega) rfl rfl hlt).1
      have pf0 : wr.frozen? ⟨g, k * 3, none⟩ = false := (own_part (j := 0) HROW.out HPRE.out (by omega) rfl rfl hlt).2
      have pc1 : wr.cell? ⟨g, k * 3 + 1, none⟩ = some (.int .i64 x.pt) := (own_part (j := 1) HROW.out HPRE.out (by omega) rfl rfl hlt).1
      have pf1 : wr.frozen? ⟨g, k * 3 + 1, none⟩ = false := (own_part (j := 1) HROW.out HPRE.out (by omega) rfl rfl hlt).2
      have pc2 : wr.cell? ⟨g, k * 3 + 2, none⟩ = some (.slice A' x.vs.length c') := (own_part (j := 2) HROW.out HPRE.out (by omega) rfl rfl hlt).1
      have pf2 : wr.frozen? ⟨g, k * 3 + 2, none⟩ = false := (own_part (j := 2) HROW.out HPRE.out (by omega) rfl rfl hlt).2
      have hcnt : ((pnM.cnt x : Nat) : Int) = 2 + (cntL intM x.vs : Nat) := by show (((2 + cntL intM x.vs : Nat)) : Int) = _; omega
      rw [hcnt] at hK2
      have HCNT := Lib.hid hcnt
      clear hcnt
      have st0 := own_store (p := k * 3) (j := 0) HROW.out HPRE.out (by omega) (by simp) (.int .i64 (K))
      have st1 := own_store (p := k * 3 + 1) (j := 1) st0.1 HPRE.out (by omega) (by simp) (.int .i64 (K + 1))
      have HT1 := Lib.hid (show TurnS (fun b => b = g) wr ((wr.setCell ⟨g, k * 3, none⟩ (.int .i64 (K))).setCell ⟨g, k * 3 + 1, none⟩ (.int .i64 (K + 1))) from (((TurnS.refl (fun b => b = g) wr).trans st0.2).trans st1.2))
      have HR1 := Lib.hid (show ((wr.setCell ⟨g, k * 3, none⟩ (.int .i64 (K))).setCell ⟨g, k * 3 + 1, none⟩ (.int .i64 (K + 1))).ownsRow 0 106 3 (.slice (some ⟨g, 0, none⟩) n c) n (pre ++ ([.int .i64 (K), .int .i64 (K + 1), .slice A' x.vs.length c'] ++ post)) from st1.1)
      have OL1 := hol.keep (SameB.of_turn HT1.out fun b hb e => hgE (e ▸ hb))
      clear hol st0 st1
      have C1 := Lib.hid (markOInt64S_any A' (x.vs).length c' (K + 1 + 1) (x.vs) _ E OL1 (by omega) (by omega))
      clear OL1
      go_wp2_with fail
      refine (C1.out).mono ?_
      rintro e v1 ⟨rfl, ol, t2⟩
      have HR1 := Lib.hid (own_sameB (S := fun b => b = g) HR1.out (SameB.of_turn t2 fun b hb => by subst hb; exact hgE) (fun g' hg' => by injection hg' with hg'; exact hg'.symm))
      have HT1 := Lib.hid ((HT1.out.more (S' := fun b => b = g ∨ E b) fun b hb => Or.inl hb).trans (t2.more fun b hb => Or.inr hb))
      have HOLN := Lib.hid ol
      clear t2 ol
      go_wp2
      go_roundw
      case rel =>
        refine ⟨k + 1, by omega, by go_num, congrArg (Value.int .i64) (by have h1 := HKS.out; have h2 := HK.out; have h3 := HCNT.out; omega), Lib.hid ?_, Lib.hid (HT.out.trans ((HT1.out).more fun b hb => hb.elim (fun e => e ▸ hgS) (fun e => hES b e)))⟩
        have hfin := HCL.out _ _ (pnM.md K x) (HR1.out) (⟨A', c', by show (_ : List Value) = ([.int .i64 (K), .int .i64 (K + 1), .slice A' (mkL intM (K + 1 + 1) x.vs).length c'] : List Value); rw [mkL_length], by show OL _ _ _ _ _ (mkL intM (K + 1 + 1) x.vs).length _ _; rw [mkL_length]; exact HOLN.out⟩) (HT1.out)
        have e := midL_succ (M := pnM) (k0 := k0) HX.out
        rw [← HK.out] at e
        rw [e] at hfin
        exact hfin
      case measure => simp [intOf]; omega
    · obtain rfl : k = n := by omega
      have HA := Lib.hid (midL_all (M := pnM) (k0 := k0) L.out)
      have HTK := Lib.hid (show xs.take k = xs from List.take_of_length_le (by rw [L.out]; exact Nat.le_refl _))
      go_wp2
      go_ret
      exact ⟨ret_int (by rw [HTK.out]), by rw [← HA.out]; exact HO.out, HT.out⟩
set_option maxRecDepth 100000 in
set_option maxHeartbeats 1000000 in
theorem heldOPointS_any (A : Option Addr) (n c : Nat) (k0 : Int) (xs : List (Pn)) (w : World) (S : Nat → Prop) (h : LRow pnR w S A (mkL pnM k0 xs)) (hS : ∀ b, S b → b < w.heap.size) (l : xs.length = n) (hn : n ≤ maxLen) (k1 : 1 ≤ k0) (k2 : k0 + cntL pnM xs ≤ 1000000000000) :
    Calls Tryz.prog 34 #[.slice A n c, .int .i64 k0] w fun e w' => e = .returned (.int .i64 (k0 + cntL pnM xs)) ∧ Below w.heap.size w w' := by
  unfold maxLen at hn
  have L := Lib.hid l
  have K2 := Lib.hid k2
  clear k2 l
  go_enter Tryz.func34, Tryz.ntmps34
  go_wp2
  go_loopw [1, 5] (fun x i wr => ∃ k : Nat, k ≤ n ∧ i = .int .i64 k ∧ x = .int .i64 (k0 + cntL pnM (xs.take k)) ∧ Hid (Below w.heap.size w wr)) (fun _ i _ => n - (intOf i).toNat)
  case atStart => exact ⟨0, Nat.zero_le _, rfl, by simp [cntL], Lib.hid (Below.refl _ _)⟩
  case round =>
    obtain ⟨k, hk, rfl, rfl, HB⟩ := hrel
    by_cases hlt : k < n
    · obtain ⟨x, hx⟩ : ∃ x, xs[k]? = some x := ⟨_, List.getElem?_eq_getElem (by rw [L.out]; exact hlt)⟩
      obtain ⟨b, o, cs, y, rfl, hbS, hR, hy, hc⟩ := (h.keep (SameOn.of_below HB.out hS)).at_ (k := k) (by rw [mkL_length, L.out]; exact hlt)
      have htk := cntL_take (M := pnM) xs (k + 1)
      have hks := cntL_succ (M := pnM) hx
      have hym := hy.out.symm.trans (mkL_at (k0 := k0) (M := pnM) hx)
      injection hym with hym
      have hws := HB.out.size
      have hbw : b < wr.heap.size := Nat.lt_of_lt_of_le (hS b hbS) hws
      have HX := Lib.hid hx
      obtain ⟨K, hK⟩ : ∃ K : Int, K = k0 + cntL pnM (xs.take k) := ⟨_, rfl⟩
      have hK1 : 1 ≤ K := by omega
      have hK2 : K + (pnM.cnt x : Nat) ≤ 1000000000000 := by have := K2.out; omega
      have HK := Lib.hid hK
      rw [← hK] at hym ⊢
      have HKS := Lib.hid hks
      clear hK hks htk hx hy
      rw [hym] at hR
      clear hym
      obtain ⟨A', c', rfl, hlc', hcm', hr'⟩ := hR
      have hr' : LRow intR wr S A' (mkL intM (K + 1 + 1) x.vs) := hr'
      have hpm : (x.vs).length ≤ maxLen := by have h1 : (mkL intM (K + 1 + 1) x.vs).length ≤ c' := hlc'; rw [mkL_length] at h1; omega
      have hc0 : wr.cell? ⟨b, o + k * 3, none⟩ = some (.int .i64 (K)) := hc 0 _ rfl
      have hc1 : wr.cell? ⟨b, o + k * 3 + 1, none⟩ = some (.int .i64 (K + 1)) := hc 1 _ rfl
      have hc2 : wr.cell? ⟨b, o + k * 3 + 2, none⟩ = some (.slice A' (x.vs).length c') := by
        have e : wr.cell? ⟨b, o + k * 3 + 2, none⟩ = some (.slice A' (mkL intM (K + 1 + 1) x.vs).length c') := hc 2 _ rfl
        rw [mkL_length] at e
        exact e
      clear hc
      have hcnt : ((pnM.cnt x : Nat) : Int) = 2 + (cntL intM x.vs : Nat) := by show (((2 + cntL intM x.vs : Nat)) : Int) = _; omega
      rw [hcnt] at hK2
      have HCNT := Lib.hid hcnt
      clear hcnt
      have CN := Lib.hid (fun (W : World) (hW : Below wr.heap.size wr W) => heldOInt64S_any A' (x.vs).length c' (K + 1 + 1) (x.vs) W S (hr'.keep (SameOn.of_below hW fun b hb => Nat.lt_of_lt_of_le (hS b hb) hws)) (fun b hb => Nat.lt_of_lt_of_le (hS b hb) (Nat.le_trans hws hW.size)) rfl hpm (by omega) (by omega))
      clear hr' hpm hlc' hcm'
      have hbwr : b < wr.heap.size := hbw
      have HBwr := Lib.hid (Below.refl wr.heap.size wr)
      have wrc0 := hc0
      clear hc0
      have wrc1 := hc1
      clear hc1
      have wrc2 := hc2
      clear hc2
      have hi0 : ((K) != (K)) = false := by simp
      have hi1 : ((K + 1) != (K + 1)) = false := by simp
      have hneg : ¬ (K + 1 + 1 + (cntL intM x.vs : Nat) < 0) := by omega
      go_wp2_with fail
      refine (CN.out _ HBwr.out).mono ?_
      rintro e v2 ⟨rfl, b3⟩
      have HBv2 := Lib.hid (HBwr.out.trans (b3.mono HBwr.out.size))
      clear b3
      go_wp2
      go_roundw
      case rel => exact ⟨k + 1, by omega, by go_num, congrArg (Value.int .i64) (by have h1 := HKS.out; have h2 := HK.out; have h3 := HCNT.out; omega), Lib.hid (HB.out.trans (HBv2.out.mono hws))⟩
      case measure => simp [intOf]; omega
    · obtain rfl : k = n := by omega
      have HTK := Lib.hid (show xs.take k = xs from List.take_of_length_le (by rw [L.out]; exact Nat.le_refl _))
      go_wp2
      go_ret
      exact ⟨ret_int (by rw [HTK.out]), HB.out⟩
end Go.Proofs.YtdgcpaeneafejaaGreatDoor
