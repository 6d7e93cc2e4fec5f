/- The laws' own helpers on lists of terms: a copy, comparing, marks; an append of terms. -/
import Derived.Test.YtkcbmblpalmmhaaProg
import Derived.WalkKit
import Derived.ProofKit
import Derived.BigQuiet
import Derived.StillTailTactics
import Derived.OwnWalk
import Derived.Laws.AppendOwnNone
import Derived.Outline
import Derived.Test.YtkcbmblpalmmhaaMem
import Derived.Test.YtkcbmblpalmmhaaOwn
import Derived.Test.YtkcbmblpalmmhaaTurn
import Derived.Test.YtkcbmblpalmmhaaTmM
import Derived.Test.YtkcbmblpalmmhaaTmW
namespace Go.Proofs.Ytkcbmblpalmmhaa
open Go.RowKit
theorem info_tm : (Try.prog.info? 68).map (fun i => (i.zero, i.size, i.bytes)) = some (some (.agg #[.int .i64 0, .int .i64 0]), 2, 16) := by kernel_rfl
theorem toTm_any (k v : Int) (w : World) :
    Calls Try.prog 49 #[.agg #[.int .i64 k, .int .i64 v]] w fun e w' => e = .returned (.agg #[.int .i64 k, .int .i64 v]) ∧ Below w.heap.size w w' := by
  go_enter Try.func49, Try.ntmps49
  go_wp2
  refine bodyPost_ret (v := .agg #[.int .i64 k, .int .i64 v]) (by simp [results, Try.results49, go_sem]) rfl ⟨rfl, ?_⟩
  repeat (first | exact Below.refl _ _ | refine Below.setCell ?_ (by simp) _ | refine Below.alloc ?_ (by simp <;> omega) _)
theorem eqTm_yes (k v : Int) (w : World) :
    Calls Try.prog 50 #[.agg #[.int .i64 k, .int .i64 v], .agg #[.int .i64 k, .int .i64 v]] w fun e w' => e = .returned (.bool true) ∧ Below w.heap.size w w' := by
  have h1 : (k != k) = false := by simp
  have h2 : (v != v) = false := by simp
  go_enter Try.func50, Try.ntmps50
  go_wp2
  go_ret
  refine ⟨rfl, ?_⟩
  repeat (first | exact Below.refl _ _ | refine Below.setCell ?_ (by simp) _ | refine Below.alloc ?_ (by simp <;> omega) _)
set_option maxHeartbeats 1000000 in
theorem toTs_any (A : Option Addr) (n c : Nat) (es : List Tm) (w : World) (B : Nat) (h : TRow w B A es) (hB : B ≤ w.heap.size) (l : es.length = n) (m : n ≤ 2000000) :
    Calls Try.prog 18 #[.slice A n c] w fun e w' => e = .returned (.slice (some ⟨w.heap.size, 0, none⟩) n n) ∧
      w'.ownsRow w.heap.size 68 2 (.slice (some ⟨w.heap.size, 0, none⟩) n n) n (tvs es) ∧ Below w.heap.size w w' := by
  obtain ⟨i0, hi, hz0, hz1, hz2⟩ := info_parts info_tm
  have L := Lib.hid l
  clear l
  go_enter Try.func18, Try.ntmps18
  go_wp2_with (at_make; refine wpList_make_full _ rfl _ _ _ rfl w.heap.size 68 i0 (.agg #[.int .i64 0, .int .i64 0]) 2 Try.underlying24 hi hz0 hz1 .i64 .i64 _ _ n rfl rfl rfl rfl (by rw [hz2]; omega) (by unfold maxLen; omega) (Nat.le_refl _) ?_; intro w1 hown1 hg1)
  have H0 : w1.ownsRow w.heap.size 68 2 (.slice (some ⟨w.heap.size, 0, none⟩) n n) n (tvs (es.take 0) ++ List.replicate ((n - 0) * 2) (.int .i64 0)) := by
    have e := made_two (.int .i64 0) (n * 2)
    have e2 : (Value.agg #[.int .i64 0, .int .i64 0]).cells = #[.int .i64 0, .int .i64 0] := rfl
    rw [e2, e] at hown1
    simpa [tvs] using hown1
  have hb1 : Below w.heap.size w w1 := (Below.refl _ _).grown hg1 (Nat.le_refl _) (by simp)
  have h63 : n ≤ 9223372036854775807 := by omega
  clear hown1 hg1 hi hz0 hz1 hz2
  go_loopw [4] (fun i wr => ∃ k : Nat, k ≤ n ∧ i = .int .i64 k ∧ Below w.heap.size w wr ∧ wr.ownsRow w.heap.size 68 2 (.slice (some ⟨w.heap.size, 0, none⟩) n n) n (tvs (es.take k) ++ List.replicate ((n - k) * 2) (.int .i64 0))) (fun i _ => n - (intOf i).toNat)
  case atStart => exact ⟨0, Nat.zero_le _, rfl, hb1, H0⟩
  case round =>
    obtain ⟨k, hk, rfl, hb, hown⟩ := hrel
    clear H0 hb1
    by_cases hlt : k < n
    · obtain ⟨b, o, t, rfl, hbB, hc1, hc2, ht⟩ := (h.below (hb.mono hB)).at_ (k := k) (by rw [L.out]; exact hlt)
      have hws : w.heap.size ≤ wr.heap.size := hb.size
      have HB := Lib.hid hb
      have HO := Lib.hid hown
      clear hb hown
      go_wp2_with (go_at_call 49; refine (toTm_any t.k t.v _).mono ?_; rintro e w2 ⟨rfl, b2⟩; obtain ⟨⟨old1, hx1⟩, hf1⟩ := own_some (own_below' HO.out b2) (k := k * 2) (by omega); obtain ⟨⟨old2, hx2⟩, hf2⟩ := own_some (own_below' HO.out b2) (k := k * 2 + 1) (by omega); have B2 := Lib.hid b2; clear b2)
      go_roundw
      case rel => exact ⟨k + 1, by omega, by go_num, ((HB.out.trans (B2.out.mono hws)).setCell (Nat.le_refl _) _).setCell (Nat.le_refl _) _, by
        have := ((own_below' HO.out B2.out).stored (k * 2) (.int .i64 t.k)).1
        have := (this.stored (k * 2 + 1) (.int .i64 t.v)).1
        rwa [tvs_upd _ L.out ht.out] at this⟩
      case measure => simp [intOf]; omega
    · go_wp2
      go_ret
      obtain rfl : k = n := by omega
      exact ⟨rfl, by simpa [List.take_of_length_le, L.out] using hown, hb⟩
set_option maxRecDepth 100000 in
set_option maxHeartbeats 1000000 in
theorem eqTs_yes (A1 A2 : Option Addr) (n1 n2 c1 c2 : Nat) (es : List Tm) (w : World) (B : Nat) (h1 : TRow w B A1 es) (h2 : TRow w B A2 es) (hB : B ≤ w.heap.size)
    (l1 : es.length = n1) (l2 : es.length = n2) (m1 : n1 ≤ 2000000) :
    Calls Try.prog 20 #[.slice A1 n1 c1, .slice A2 n2 c2] w fun e w' => e = .returned (.bool true) ∧ Below w.heap.size w w' := by
  obtain rfl : n1 = n2 := l1.symm.trans l2
  have L1 := Lib.hid l1
  clear l1 l2
  go_enter Try.func20, Try.ntmps20
  go_wp2
  go_loopw [5] (fun i wr => ∃ k : Nat, k ≤ n1 ∧ i = .int .i64 k ∧ Below w.heap.size w wr) (fun i _ => n1 - (intOf i).toNat)
  case atStart => exact ⟨0, Nat.zero_le _, rfl, Below.refl _ _⟩
  case round =>
    obtain ⟨k, hk1, rfl, hb⟩ := hrel
    by_cases hlt1 : k < n1
    · obtain ⟨b1, o1, t, rfl, hb1, hc1, hc1', hu⟩ := (h1.below (hb.mono hB)).at_ (k := k) (by rw [L1.out]; exact hlt1)
      obtain ⟨b2, o2, t2, rfl, hb2, hc2, hc2', hv⟩ := (h2.below (hb.mono hB)).at_ (k := k) (by rw [L1.out]; exact hlt1)
      obtain rfl : t = t2 := by have := hu.out.symm.trans hv.out; injection this
      have d1 : wr.drew.cell? ⟨b1, o1 + k * 2, none⟩ = some (.int .i64 t.k) := hc1
      have d1' : wr.drew.cell? ⟨b1, o1 + k * 2 + 1, none⟩ = some (.int .i64 t.v) := hc1'
      have d2 : wr.drew.cell? ⟨b2, o2 + k * 2, none⟩ = some (.int .i64 t.k) := hc2
      have d2' : wr.drew.cell? ⟨b2, o2 + k * 2 + 1, none⟩ = some (.int .i64 t.v) := hc2'
      have HB := Lib.hid hb
      have hws : w.heap.size ≤ wr.heap.size := hb.size
      clear hb
      go_wp2
      go_still_tail 8, (by kernel_rfl)
      change wpList _ _ _ _ _ wr.drew
      go_wp2_with (go_at_call 50; refine (eqTm_yes t.k t.v _).mono ?_; rintro e w2 ⟨rfl, b2⟩; have B2 := Lib.hid b2; clear b2)
      go_roundw
      case rel => exact ⟨k + 1, by omega, by go_num, (HB.out.drew).trans (B2.out.mono hws)⟩
      case measure => simp [intOf]; omega
    · go_wp2
      go_ret
      exact ⟨rfl, hb⟩
set_option maxHeartbeats 1000000 in
theorem markTs_any {T : TypeId} (A : Option Addr) (n c : Nat) (k0 : Int) (es : List Tm) (w : World) (base : Nat) (h : w.ownsRow base T 2 (.slice A n c) n (tvs es)) (m : n ≤ 2000000) (k1 : 0 ≤ k0) (k2 : k0 ≤ 9000000000000000) :
    Calls Try.prog 24 #[.slice A n c, .int .i64 k0] w fun e w' => e = .returned (.int .i64 (k0 + 2 * n)) ∧
      w'.ownsRow base T 2 (.slice A n c) n (tvs (marksT k0 n)) ∧ w.grownBy w' (Value.slice A n c).ownBlock := by
  have L := Lib.hid (show es.length = n by have := h.1; rw [tvs_length] at this; omega)
  go_enter Try.func24, Try.ntmps24
  go_wp2
  go_loopw [1, 5] (fun x i wr => ∃ k : Nat, k ≤ n ∧ i = .int .i64 k ∧ x = .int .i64 (k0 + 2 * k) ∧ wr.ownsRow base T 2 (.slice A n c) n (tvs (midT k0 es n k)) ∧ w.grownBy wr (Value.slice A n c).ownBlock) (fun _ i _ => n - (intOf i).toNat)
  case atStart => exact ⟨0, Nat.zero_le _, rfl, by simp, by rw [midT_zero]; exact h, World.grownBy.refl _ _⟩
  case round =>
    obtain ⟨k, hk, rfl, rfl, hown, hg⟩ := hrel
    by_cases hlt : k < n
    · obtain ⟨g, rfl, hbg, hgs⟩ := own_at hown (by omega)
      obtain ⟨⟨old1, hx1⟩, hf1⟩ := own_some hown (k := k * 2) (by omega)
      obtain ⟨⟨old2, hx2⟩, hf2⟩ := own_some hown (k := k * 2 + 1) (by omega)
      have HO := Lib.hid hown
      have HG := Lib.hid hg
      clear hown hg h
      go_wp2
      go_roundw
      case rel => exact ⟨k + 1, by omega, by go_num, congrArg (Value.int .i64) (by omega), by
        have hm : (midT k0 es n k)[k]? = some ((midT k0 es n k)[k]'(by rw [midT_len L.out hk]; exact hlt)) := List.getElem?_eq_getElem _
        have := ((HO.out.stored (k * 2) (.int .i64 (k0 + 2 * k))).1.stored (k * 2 + 1) (.int .i64 (k0 + 2 * k + 1))).1
        rwa [tvs_set (u := ⟨k0 + 2 * k, k0 + 2 * k + 1⟩) hm, midT_set L.out hlt] at this, grown_trans HG.out (grown_trans (HO.out.stored (k * 2) _).2 ((HO.out.stored (k * 2) _).1.stored (k * 2 + 1) _).2)⟩
      case measure => simp [intOf]; omega
    · go_wp2
      go_ret
      obtain rfl : k = n := by omega
      exact ⟨rfl, by rwa [midT_all L.out] at hown, hg⟩
set_option maxHeartbeats 1000000 in
theorem heldTs_any {T : TypeId} (A : Option Addr) (n c : Nat) (k0 : Int) (w : World) (base : Nat) (h : w.ownsRow base T 2 (.slice A n c) n (tvs (marksT k0 n))) (m : n ≤ 2000000) (k1 : 0 ≤ k0) (k2 : k0 ≤ 9000000000000000) :
    Calls Try.prog 28 #[.slice A n c, .int .i64 k0] w fun e w' => e = .returned (.int .i64 (k0 + 2 * n)) ∧ w = w' := by
  go_enter Try.func28, Try.ntmps28
  go_wp2
  go_loop [1, 5] (fun x i => ∃ k : Nat, k ≤ n ∧ i = .int .i64 k ∧ x = .int .i64 (k0 + 2 * k)) (fun _ i => n - (intOf i).toNat)
  case atStart => exact ⟨0, Nat.zero_le _, rfl, by simp⟩
  case round =>
    obtain ⟨k, hk, rfl, rfl⟩ := hrel
    by_cases hlt : k < n
    · obtain ⟨g, rfl, hbg, hgs⟩ := own_at h (by omega)
      have hx := h.cellAt (k * 2) (by omega)
      have hy := h.cellAt (k * 2 + 1) (by omega)
      rw [(tvs_at (marksT_at hlt)).1] at hx
      rw [(tvs_at (marksT_at hlt)).2] at hy
      have hne : ((k0 + 2 * (k : Int)) != (k0 + 2 * (k : Int))) = false := by simp
      have hne2 : ((k0 + 2 * (k : Int) + 1) != (k0 + 2 * (k : Int) + 1)) = false := by simp
      go_wp2
      go_round
      case rel => exact ⟨k + 1, by omega, by go_num, congrArg (Value.int .i64) (by omega)⟩
      case measure => simp [intOf]; omega
    · go_wp2
      go_ret
      obtain rfl : k = n := by omega
      exact ⟨rfl, rfl⟩
def szT (n : Nat) (left : Int) : Int := if left - n < 0 then -1 else left - n
theorem szT_any (A : Option Addr) (n c : Nat) (left : Int) (w : World) (h1 : n ≤ 9223372036854775807) (h2 : 0 ≤ left) (h3 : left ≤ 1048576) :
    Calls Try.prog 17 #[.slice A n c, .int .i64 left] w fun e w' => e = .returned (.int .i64 (szT n left)) ∧ w = w' := by
  by_cases h : left - n < 0
  · have H := Lib.hid (show szT n left = -1 by unfold szT; rw [if_pos h])
    go_enter Try.func17, Try.ntmps17
    go_wp2
    go_ret
    exact ⟨ret_int H.out.symm, rfl⟩
  · have H := Lib.hid (show szT n left = left - n by unfold szT; rw [if_neg h])
    go_enter Try.func17, Try.ntmps17
    go_wp2
    go_ret
    exact ⟨ret_int H.out.symm, rfl⟩
theorem toTs_own (A : Option Addr) (n c : Nat) (es : List Tm) (w : World) (B : Nat) (h : TRow w B A es) (hB : B ≤ w.heap.size) (l : es.length = n) (m : n ≤ 2000000) :
    Calls Try.prog 18 #[.slice A n c] w fun e w' => e = .returned (.slice (some ⟨w.heap.size, 0, none⟩) n n) ∧
      OwnV w' w.heap.size w'.heap.size 68 2 (some ⟨w.heap.size, 0, none⟩) n n (tvs es) ∧ Below w.heap.size w w' :=
  (toTs_any A n c es w B h hB l m).mono fun _ _ ⟨h1, h2, h3⟩ => ⟨h1, OwnV.mk' h2, h3⟩
theorem markTs_turn {T : TypeId} (A : Option Addr) (n c : Nat) (k0 : Int) (es : List Tm) (w : World) (lo hi : Nat) (h : OwnV w lo hi T 2 A n c (tvs es)) (m : n ≤ 2000000) (k1 : 0 ≤ k0) (k2 : k0 ≤ 900000000000000) :
    Calls Try.prog 24 #[.slice A n c, .int .i64 k0] w fun e w' => e = .returned (.int .i64 (k0 + 2 * n)) ∧
      OwnV w' lo hi T 2 A n c (tvs (marksT k0 n)) ∧ Turns lo hi w w' :=
  (markTs_any A n c k0 es w lo h.own m k1 (by omega)).mono fun _ _ ⟨h1, h2, h3⟩ => ⟨h1, ⟨h2, h.top⟩, Turns.of_grown h3 fun g hg => ⟨(h.own.lt g hg).1, h.top g hg⟩⟩
theorem heldTs_own {T : TypeId} (A : Option Addr) (n c : Nat) (k0 : Int) (w : World) (lo hi : Nat) (h : OwnV w lo hi T 2 A n c (tvs (marksT k0 n))) (m : n ≤ 2000000) (k1 : 0 ≤ k0) (k2 : k0 ≤ 9000000000000000) :
    Calls Try.prog 28 #[.slice A n c, .int .i64 k0] w fun e w' => e = .returned (.int .i64 (k0 + 2 * n)) ∧ w = w' :=
  heldTs_any A n c k0 w lo h.own m k1 k2
theorem eqTs_own {T1 T2 : TypeId} (A1 A2 : Option Addr) (n1 n2 c1 c2 : Nat) (es : List Tm) (w : World) (lo1 hi1 lo2 hi2 : Nat) (h1 : OwnV w lo1 hi1 T1 2 A1 n1 c1 (tvs es)) (h2 : OwnV w lo2 hi2 T2 2 A2 n2 c2 (tvs es)) (m1 : n1 ≤ 2000000) (b1 : hi1 ≤ w.heap.size) (b2 : hi2 ≤ w.heap.size) :
    Calls Try.prog 20 #[.slice A1 n1 c1, .slice A2 n2 c2] w fun e w' => e = .returned (.bool true) ∧ Below w.heap.size w w' :=
  eqTs_yes A1 A2 n1 n2 c1 c2 es w (max hi1 hi2) (h1.trow.more (Nat.le_max_left _ _)) (h2.trow.more (Nat.le_max_right _ _)) (by omega) h1.tlen h2.tlen m1
end Go.Proofs.Ytkcbmblpalmmhaa
