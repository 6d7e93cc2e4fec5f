/- Relations as rows of bits: the relation laid into rows, and the inverse. -/
import Derived.Test.YthnopigibjmgbaaProg
import Derived.WalkKit
import Derived.ProofKit
import Derived.BigQuiet
import Derived.Outline
import Derived.IntWalk
import Derived.StillTailTactics
import Derived.Test.YthnopigibjmgbaaMem
import Derived.Test.YthnopigibjmgbaaOwn
import Derived.Test.YthnopigibjmgbaaTurn
import Derived.Test.YthnopigibjmgbaaLawI
import Derived.Test.YthnopigibjmgbaaLawI2
import Derived.Test.YthnopigibjmgbaaLawII
import Derived.Test.YthnopigibjmgbaaPart3
import Derived.Test.YthnopigibjmgbaaRelM
import Derived.Test.YthnopigibjmgbaaBuild
import Derived.Test.YthnopigibjmgbaaPairs
import Derived.Test.YthnopigibjmgbaaRowsM
import Derived.Test.YthnopigibjmgbaaRows2
import Derived.Test.YthnopigibjmgbaaRel
namespace Go.Proofs.Ythnopigibjmgbaa
open Go.RowKit
/-- The k-th pair of a relation: where its slice lies and what it reads as. -/
theorem pair_at {w : World} {B : Nat} {A : Option Addr} {n : Int} {r : List (List Int)} (h : RRow w B A r) (hr : relB n r = true) {k : Nat} (hk : k < r.length) :
    ∃ b o b2 o2 c' u v, A = some ⟨b, o, none⟩ ∧ b < B ∧ w.cell? ⟨b, o + k, none⟩ = some (.slice (some ⟨b2, o2, none⟩) 2 c') ∧ b2 < B ∧ w.cell? ⟨b2, o2, none⟩ = some (.int .i64 ((u : Nat) : Int)) ∧ w.cell? ⟨b2, o2 + 1, none⟩ = some (.int .i64 ((v : Nat) : Int)) ∧ (u : Int) < n ∧ (v : Int) < n ∧ Hid (r[k]? = some [(u : Int), (v : Int)]) := by
  obtain ⟨b, o, A', c', xs, e1, hb, hc, hrow, hx⟩ := h.at_ (k := k) hk
  obtain ⟨u, v, e2, hu, hv⟩ := rel_pair hr hk
  have := hx.out.symm.trans e2
  injection this with this
  subst this
  obtain ⟨b2, o2, x, e3, hb2, hc2, hx2⟩ := hrow.at_ (k := 0) (by simp)
  obtain ⟨b3, o3, y, e4, hb3, hc3, hx3⟩ := hrow.at_ (k := 1) (by simp)
  subst e3
  injection e4 with e4
  injection e4 with e4 e5 _
  subst e4; subst e5
  have hx2 := hx2.out; have hx3 := hx3.out
  simp at hx2 hx3
  subst hx2; subst hx3
  exact ⟨b, o, b2, o2, c', u, v, e1, hb, hc, hb2, hc2, hc3, hu, hv, hx⟩
theorem words_new (w : World) (lo : Nat) (h : lo ≤ w.heap.size) : HasWords (w.alloc (.cells (Array.replicate 40 (.int .u64 0)) 59)) lo w.heap.size (fun _ _ => false) :=
  ⟨List.replicate 40 0, Bits.zero, by
    have := World.ownsRow_lit (base := lo) (e := 59) (size := 1) w (Array.replicate 40 (.int .u64 0)) 40 h (by unfold maxLen; omega) (by simp)
    unfold Words
    simpa using this⟩
set_option maxHeartbeats 1000000 in
set_option maxRecDepth 100000 in
theorem rowsOf_any (nn : Int) (A : Option Addr) (n c : Nat) (r : List (List Int)) (w : World) (B : Nat) (h : RRow w B A r) (hB : B ≤ w.heap.size) (l : r.length = n) (m : n ≤ 2000000) (hr : relB nn r = true) :
    Calls Try.prog 59 #[.slice A n c] w fun e w' => e = .returned (.pointer (some ⟨w.heap.size, 0, none⟩)) ∧ HasWords w' w.heap.size w.heap.size (memF r) ∧ Below w.heap.size w w' := by
  have L := Lib.hid l
  have HR := Lib.hid hr
  have h40 := (rel_small hr).2
  clear l hr
  go_enter Try.func59, Try.ntmps59
  go_wp2
  go_loopw [9] (fun i wr => ∃ k : Nat, k ≤ n ∧ i = .int .i64 k ∧ HasWords wr w.heap.size w.heap.size (memTo r k) ∧ Below w.heap.size w wr) (fun i _ => n - (intOf i).toNat)
  case atStart => exact ⟨0, Nat.zero_le _, rfl, (words_new _ _ (Nat.le_refl _)).congr fun i j _ _ => (memTo_zero r i j).symm, (Below.refl _ _).alloc (Nat.le_refl _) _⟩
  case round =>
    obtain ⟨k, hk, rfl, HV, hb⟩ := hrel
    by_cases hlt : k < n
    · obtain ⟨b, o, b2, o2, c', u, v, rfl, hbB, hc, hb2, hcu, hcv, hu, hv, hx⟩ := pair_at (h.below (hb.mono hB)) HR.out (k := k) (by rw [L.out]; exact hlt)
      have C := Lib.hid (add_any w.heap.size u v (memTo r k) wr.drew w.heap.size (HV.drawn (Drawn.refl _).drew) (by omega) (by omega))
      have hcu2 : wr.drew.cell? ⟨b2, o2, none⟩ = some (.int .i64 (u : Int)) := hcu
      have hcv2 : wr.drew.cell? ⟨b2, o2 + 1, none⟩ = some (.int .i64 (v : Int)) := hcv
      have HB := Lib.hid hb
      clear hb HV
      go_wp2
      go_still_tail 7, (by kernel_rfl)
      change wpList _ _ _ _ _ wr.drew
      go_wp2_with (go_at_call 60; refine (C.out).mono ?_; rintro e w' ⟨rfl, hw, hg⟩; have HW := Lib.hid hw; have HG := Lib.hid hg; clear hw hg)
      go_roundw
      case rel => exact ⟨k + 1, by omega, by go_num, HW.out.congr fun i j _ _ => (memTo_next hx.out i j).symm, (HB.out.trans (below_drewN _ _ 1)).grown HG.out HB.out.size (fun g e => by cases e; exact Nat.le_refl _)⟩
      case measure => simp [intOf]; omega
    · have HV2 := Lib.hid (show HasWords wr w.heap.size w.heap.size (memF r) from by rw [memTo_all r (by rw [L.out]; omega)] at HV; exact HV)
      clear HV
      go_wp2
      go_ret
      exact ⟨rfl, HV2.out, hb⟩
end Go.Proofs.Ythnopigibjmgbaa
