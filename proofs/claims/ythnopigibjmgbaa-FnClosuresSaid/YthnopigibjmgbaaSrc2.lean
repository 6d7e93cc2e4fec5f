/- The relation that the model draws, and the law's own comparisons. -/
import Derived.Test.YthnopigibjmgbaaProg
import Derived.WalkKit
import Derived.ProofKit
import Derived.BigQuiet
import Derived.Outline
import Derived.IntWalk
import Derived.StillTailTactics
import Derived.Test.YthnopigibjmgbaaMem
import Derived.Test.YthnopigibjmgbaaOwn
import Derived.Test.YthnopigibjmgbaaTurn
import Derived.Test.YthnopigibjmgbaaLawI
import Derived.Test.YthnopigibjmgbaaLawI2
import Derived.Test.YthnopigibjmgbaaLawII
import Derived.Test.YthnopigibjmgbaaRelM
import Derived.Test.YthnopigibjmgbaaRRow
import Derived.Test.YthnopigibjmgbaaBuild
import Derived.Test.YthnopigibjmgbaaPairs
import Derived.Test.YthnopigibjmgbaaRowsM
import Derived.Test.YthnopigibjmgbaaMat
import Derived.Test.YthnopigibjmgbaaRelF
import Derived.Test.YthnopigibjmgbaaSrc
namespace Go.Proofs.Ythnopigibjmgbaa
open Go.RowKit
theorem src_new (w : World) (A : Option Addr) (n c : Nat) : Src (w.alloc (.cells #[.slice A n c, .int .i64 0, .int .u64 0] 82)) w.heap.size w.heap.size A n c 0 :=
  ⟨0, World.ownsRow_lit (base := w.heap.size) (e := 82) (size := 1) w #[.slice A n c, .int .i64 0, .int .u64 0] 3 (Nat.le_refl _) (by unfold maxLen; omega) rfl⟩
theorem from_any (A : Option Addr) (n c : Nat) (w : World) :
    Calls Try.prog 56 #[.slice A n c] w fun e w' => e = .returned (.pointer (some ⟨w.heap.size, 0, none⟩)) ∧ Src w' w.heap.size w.heap.size A n c 0 ∧ Below w.heap.size w w' := by
  have H := Lib.hid (src_new w A n c)
  go_enter Try.func56, Try.ntmps56
  go_wp2
  go_ret
  exact ⟨rfl, H.out, (Below.refl _ _).alloc (Nat.le_refl _) _⟩
def RetDraw (w : World) (e : Ending) (w' : World) : Prop := ∃ (n : Nat) (f : Nat → Nat → Bool) (v : Value), 1 ≤ n ∧ n ≤ 40 ∧ e = .returned (.tuple #[.int .i64 (n : Int), v]) ∧ Build w' w.heap.size v (picked f n n) ∧ Below w.heap.size w w'
theorem Src.turn {w w' : World} {lo sb : Nat} {A : Option Addr} {n c k g : Nat} (h : Src w lo sb A n c k) (hg : w.grownBy w' (some g)) (hne : sb ≠ g) : Src w' lo sb A n c k := by
  obtain ⟨s, h⟩ := h; exact ⟨s, h.kept hg (.inr (by simp [Value.ownBlock]; exact hne))⟩
theorem Src.grownNone {w w' : World} {lo sb : Nat} {A : Option Addr} {n c k : Nat} (h : Src w lo sb A n c k) (hg : w.grownBy w' none) : Src w' lo sb A n c k := by
  obtain ⟨s, h⟩ := h; exact ⟨s, h.kept hg (.inr (by simp [Value.ownBlock]))⟩
theorem HasMat.turn {w w' : World} {lo g N n sb : Nat} {f : Nat → Nat → Bool} (h : HasMat w lo g N f n) (hg : w.grownBy w' (some sb)) (hne : g ≠ sb) : HasMat w' lo g N f n :=
  ⟨h.1, h.2.kept hg (.inr (by simp [Value.ownBlock]; exact hne))⟩
theorem HasMat.any {w : World} {lo g N n : Nat} {f : Nat → Nat → Bool} (h : HasMat w lo g N f n) {x : Nat} (hx : x < N) : (∃ old, w.cell? ⟨g, x, none⟩ = some old) ∧ w.frozen? ⟨g, x, none⟩ = false ∧ ∃ f', HasMat (w.setCell ⟨g, x, none⟩ (.bool true)) lo g N f' n := by
  obtain ⟨e, ho⟩ := h
  have hn : 0 < n := by rcases Nat.eq_zero_or_pos n with h | h <;> simp_all
  have h1 : x / n < n := Nat.div_lt_of_lt_mul (by rw [← e]; exact hx)
  have h2 : x % n < n := Nat.mod_lt _ hn
  have h3 : x = x / n * n + x % n := by have := Nat.div_add_mod x n; rw [Nat.mul_comm] at this; exact this.symm
  refine ⟨(own_some ho (by omega)).1, ho.frozenAt x, addF f (x / n) (x % n), ?_⟩
  have := HasMat.put ⟨e, ho⟩ h1 h2 (Lib.hid (rfl : x / n * n = x / n * n))
  rwa [← h3] at this
set_option maxHeartbeats 4000000 in
set_option maxRecDepth 100000 in
theorem draw_any (A : Option Addr) (len c : Nat) (xs : List Int) (w : World) (B : Nat) (hx : BRow w B A xs) (hB : B ≤ w.heap.size) (l : xs.length = len) (m : len ≤ 1048576) (hb : ∀ u ∈ xs, 0 ≤ u ∧ u ≤ 255) :
    Calls Try.prog 18 #[.slice A len c] w fun e w' => RetDraw w e w' := by
  have L := Lib.hid l
  have HB := Lib.hid hb
  obtain ⟨i0, hi, hz0, hz1, hz2⟩ := info_parts info_bool
  clear l hb
  go_enter Try.func18, Try.ntmps18
  go_wp2_with fail
  refine (from_any A len c w).mono ?_; rintro e w0 ⟨rfl, hs0, hb0⟩
  have HS0 := Lib.hid hs0
  have HB0 := Lib.hid hb0
  have hsz0 := hb0.size
  clear hs0 hb0
  go_wp2_with fail
  refine (pick_any 6 w.heap.size w.heap.size A len c 0 xs w0 B HS0.out (hx.below (HB0.out.mono hB)) hB L.out m (by omega) HB.out (by omega) (by omega)).mono ?_; rintro e w1 ⟨k1, hk1, x1, hx1, rfl, hs1, hg1⟩
  have HS1 := Lib.hid hs1
  have HB1 := Lib.hid (HB0.out.grown hg1 hsz0 (fun g e => by cases e; exact Nat.le_refl _))
  have hsz1 := hg1.size
  obtain ⟨n, hn⟩ : ∃ n, n = 1 + x1 := ⟨_, rfl⟩
  have hn' : (1 : Int) + (x1 : Int) = (n : Int) := by omega
  have hn1 : 1 ≤ n := by omega
  have hn6 : n ≤ 6 := by omega
  obtain ⟨N, hN0⟩ : ∃ N, N = n * n := ⟨_, rfl⟩
  have hN := Lib.hid hN0
  have hN36 : N ≤ 36 := by rw [hN0]; exact Nat.mul_le_mul hn6 hn6
  have hN1 : 1 ≤ N := by rw [hN0]; exact Nat.mul_pos hn1 hn1
  obtain ⟨hsq, _⟩ := sq_num (show n ≤ 40 by omega) hN.out
  have hgr := HS1.out
  clear hs1 hg1 hN0 hn
  have hslt : w.heap.size < w1.heap.size := by obtain ⟨s, h⟩ := hgr; exact (h.lt w.heap.size rfl).2
  clear hgr
  go_wp2_with (at_make; refine wpList_make_full _ rfl _ _ _ rfl w.heap.size 4 i0 (.bool false) 1 Try.underlying50 hi hz0 hz1 .i64 .i64 _ _ N rfl rfl rfl rfl (by rw [hz2]; omega) (by unfold maxLen; omega) (by omega) ?_; intro w2 hown2 hg2)
  have HM := Lib.hid (HasMat.new (lo := w.heap.size) hN.out hown2)
  have HS2 := Lib.hid (HS1.out.grownNone hg2)
  have HB2 := Lib.hid (HB1.out.grown hg2 (by omega) (by simp))
  have hsz2 := hg2.size
  clear hown2 hg2 hi hz0 hz1 hz2
  go_wp2_with fail
  refine (pick_any 8 w.heap.size w.heap.size A len c k1 xs w2 B HS2.out (hx.below (HB2.out.mono hB)) hB L.out m (by omega) HB.out (by omega) (by omega)).mono ?_; rintro e w3 ⟨k2, hk2, x2, hx2, rfl, hs3, hg3⟩
  have HS3 := Lib.hid hs3
  have HM3 := Lib.hid (HM.out.turn hg3 (by omega))
  have HB3 := Lib.hid (HB2.out.grown hg3 (by omega) (fun g e => by cases e; exact Nat.le_refl _))
  have hsz3 := hg3.size
  clear hs3 hg3
  go_wp2
  go_loopw [7] (fun i wr => ∃ t : Nat, t ≤ 7 ∧ i = .int .i64 t ∧ Hid (∃ k f, k + t ≤ 20 ∧ Src wr w.heap.size w.heap.size A len c k ∧ HasMat wr w.heap.size w1.heap.size N f n) ∧ Below w.heap.size w wr) (fun i _ => (intOf i).toNat)
  case atStart => exact ⟨x2, by omega, rfl, Lib.hid ⟨k2, _, by omega, HS3.out, HM3.out⟩, HB3.out⟩
  case round =>
    obtain ⟨t, ht, rfl, HV, hb⟩ := hrel
    clear HS3 HM3 HB3
    obtain ⟨k, f, hkt, hS, hM⟩ := HV.out
    have HBb := Lib.hid hb
    by_cases h0 : 0 < t
    · have h0' : (0 : Int) < (t : Int) := by omega
      have C := Lib.hid (pick_any N w.heap.size w.heap.size A len c k xs wr B hS (hx.below (hb.mono hB)) hB L.out m (by omega) HB.out hN1 (by omega))
      have HMM := Lib.hid hM
      clear hb HV hS hM
      go_wp2_with (go_at_call 57; refine (C.out).mono ?_; rintro e w4 ⟨k4, hk4, x4, hx4, rfl, hs4, hg4⟩; have HS4 := Lib.hid hs4; have HG4 := Lib.hid hg4; have HM4 := Lib.hid (HMM.out.turn hg4 (by omega)); obtain ⟨⟨old, hcx⟩, hfz, hput⟩ := HM4.out.any hx4; have HPUT := Lib.hid hput; clear hs4 hg4 hput)
      go_roundw
      case rel =>
        have hb4 := HBb.out.grown HG4.out HBb.out.size (fun g e => by cases e; exact Nat.le_refl _)
        obtain ⟨f', hf'⟩ := HPUT.out
        refine ⟨t - 1, by omega, by go_num, Lib.hid ⟨k4, f', by omega, ?_, hf'⟩, hb4.setCell (show w.heap.size ≤ w1.heap.size by omega) _⟩
        exact HS4.out.turn (HM4.out.2.stored x4 (.bool true)).2 (by omega)
      case measure => simp [intOf]; omega
    · have h0' : ¬ (0 : Int) < (t : Int) := by omega
      have C := Lib.hid (l02List_any w1.heap.size N n f wr w.heap.size hM (by omega))
      clear hb HV hS hM
      go_wp2_with (go_at_call 58; refine (C.out).mono ?_; rintro e w5 ⟨v, rfl, hv, hb5⟩)
      have H : RetDraw w (.returned (.tuple #[.int .i64 (n : Int), v])) w5 := ⟨n, f, v, hn1, by omega, rfl, hv.base HBb.out.size, HBb.out.trans (hb5.mono HBb.out.size)⟩
      clear hv hb5
      go_wp2
      go_ret2
      exact H
end Go.Proofs.Ythnopigibjmgbaa
