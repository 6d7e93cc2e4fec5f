/- The meet of two partitions, and whether one refines the other: the model's and the program's functions. -/
import Derived.Test.YthnopigibjmgbaaProg
import Derived.WalkKit
import Derived.ProofKit
import Derived.BigQuiet
import Derived.Outline
import Derived.IntWalk
import Derived.StillTailTactics
import Derived.Test.YthnopigibjmgbaaMem
import Derived.Test.YthnopigibjmgbaaOwn
import Derived.Test.YthnopigibjmgbaaTurn
import Derived.Test.YthnopigibjmgbaaLawI
import Derived.Test.YthnopigibjmgbaaLawI2
import Derived.Test.YthnopigibjmgbaaPartM
import Derived.Test.YthnopigibjmgbaaPart
import Derived.Test.YthnopigibjmgbaaPart2
import Derived.Test.YthnopigibjmgbaaPart3
import Derived.Test.YthnopigibjmgbaaForM
import Derived.Test.YthnopigibjmgbaaFor
import Derived.Test.YthnopigibjmgbaaFor2
import Derived.Test.YthnopigibjmgbaaJoinM
import Derived.Test.YthnopigibjmgbaaJoin
import Derived.Test.YthnopigibjmgbaaJoin2
import Derived.Test.YthnopigibjmgbaaNum2
import Derived.Test.YthnopigibjmgbaaMeetM
namespace Go.Proofs.Ythnopigibjmgbaa
open Go.RowKit
def meetL (p q : List Int) : List Int × Int := if faultP p q = 0 then (normL (meetV p q), 0) else ([], faultP p q)
theorem meetL_yes {p q : List Int} (h : faultP p q = 0) : meetL p q = (normL (meetV p q), 0) := by unfold meetL; rw [if_pos h]
theorem meetL_no {p q : List Int} {c : Int} (h : faultP p q = c) (hc : c ≠ 0) : meetL p q = ([], c) := by unfold meetL; rw [if_neg (by rw [h]; exact hc), h]
theorem meetL_len (p q : List Int) (h : p.length ≤ 2000000) : (meetL p q).1.length ≤ 2000000 := by
  unfold meetL; split
  · show (normL _).length ≤ _; rw [normL_length]; unfold meetV; rw [List.length_zipWith]; omega
  · simp
theorem row_of_own2 {w : World} {lo g n c s : Nat} {T : TypeId} {vs : List Value} (h : w.ownsRow lo T s (.slice (some ⟨g, 0, none⟩) n c) n vs) : Row w w.heap.size (some ⟨g, 0, none⟩) vs := by
  intro hp
  refine ⟨g, 0, rfl, (h.lt g rfl).2, fun i v hv => ?_⟩
  have hi := (List.getElem?_eq_some_iff.1 hv).1
  rw [Nat.zero_add, h.cellAt i (by have := h.1; omega), hv]
set_option maxHeartbeats 1000000 in
set_option maxRecDepth 100000 in
theorem l02Meet_any (A1 : Option Addr) (n c1 : Nat) (p : List Int) (A2 : Option Addr) (c2 : Nat) (q : List Int) (w : World) (B1 : Nat) (h1 : IRow w B1 A1 p) (hB1 : B1 ≤ w.heap.size) (l1 : p.length = n) (m1 : n ≤ 2000000) (b1 : ∀ (k : Nat) u, p[k]? = some u → 0 ≤ u ∧ u < 40)
    (B2 : Nat) (h2 : IRow w B2 A2 q) (hB2 : B2 ≤ w.heap.size) (l2 : q.length = n) (b2 : ∀ (k : Nat) u, q[k]? = some u → 0 ≤ u ∧ u < 40) :
    Calls Try.prog 79 #[.slice A1 n c1, .slice A2 n c2] w fun e w' => RetRow w w.heap.size n (normL (meetV p q)) e w' := by
  have L1 := Lib.hid l1
  have L2 := Lib.hid l2
  have BB1 := Lib.hid b1
  have BB2 := Lib.hid b2
  have HNL := Lib.hid (meetV_length l1 l2)
  obtain ⟨i0, hi, hz0, hz1, hz2⟩ := info_parts info_i64
  clear l1 l2 b1 b2
  go_enter Try.func79, Try.ntmps79
  go_wp2_with (at_make; refine wpList_make_full _ rfl _ _ _ rfl w.heap.size 2 i0 (.int .i64 0) 1 Try.underlying30 hi hz0 hz1 .i64 .i64 _ _ n rfl rfl rfl rfl (by rw [hz2]; omega) (by unfold maxLen; omega) (Nat.le_refl _) ?_; intro w1 hown1 hg1)
  have H0 := Lib.hid (zeros_of hown1 (meetV p q))
  have hb1 : Below w.heap.size w w1 := (Below.refl _ _).grown hg1 (Nat.le_refl _) (by simp)
  clear hown1 hg1 hi hz0 hz1 hz2
  go_loopw [6] (fun i wr => ∃ k : Nat, k ≤ n ∧ i = .int .i64 k ∧ Below w.heap.size w wr ∧ wr.ownsRow w.heap.size 2 1 (.slice (some ⟨w.heap.size, 0, none⟩) n n) n (((meetV p q).map (Value.int .i64)).take k ++ List.replicate (n - k) (.int .i64 0))) (fun i _ => n - (intOf i).toNat)
  case atStart => exact ⟨0, Nat.zero_le _, rfl, hb1, H0.out⟩
  case round =>
    obtain ⟨k, hk, rfl, hb, hown⟩ := hrel
    clear H0 hb1
    by_cases hlt : k < n
    · obtain ⟨b, o, u, rfl, hbB, hc, hu⟩ := (h1.below (hb.mono hB1)).at_ (k := k) (by rw [L1.out]; exact hlt)
      obtain ⟨b', o', v, rfl, hbB', hc', hv⟩ := (h2.below (hb.mono hB2)).at_ (k := k) (by rw [L2.out]; exact hlt)
      obtain ⟨⟨old, hx⟩, hf⟩ := own_old hown hlt
      have hcd : wr.drew.cell? ⟨b, o + k, none⟩ = some (.int .i64 u) := hc
      have hcd' : wr.drew.cell? ⟨b', o' + k, none⟩ = some (.int .i64 v) := hc'
      have hxd : wr.drew.cell? ⟨w.heap.size, k, none⟩ = some old := hx
      have hfd : wr.drew.frozen? ⟨w.heap.size, k, none⟩ = false := hf
      obtain ⟨u0, u1⟩ := BB1.out k u hu.out
      obtain ⟨v0, v1⟩ := BB2.out k v hv.out
      have e1 : IntKind.i64.wrap (u * 40) = u * 40 := IntWalk.i64_in _ (by omega)
      have e2 : IntKind.i64.wrap (u * 40 + v) = u * 40 + v := IntWalk.i64_in _ (by omega)
      have HO := Lib.hid hown
      have HB := Lib.hid hb
      have HU := Lib.hid (meetV_at hu.out hv.out)
      clear hown hb
      go_wp2
      go_still_tail 13, (by kernel_rfl)
      change wpList _ _ _ _ _ wr.drew
      clear e1 e2
      go_wp2
      go_roundw
      case rel => exact ⟨k + 1, by omega, by go_num, (HB.out.setCell (Nat.le_refl _) _).trans (below_drewN _ _ 1), by
        have := own_drawn (HO.out.stored k (.int .i64 (u * 40 + v))).1 (Drawn.refl _).drew
        rwa [upd_take _ _ _ _ _ (by rw [List.length_map]; exact HNL.out) (by rw [List.getElem?_map, HU.out]; rfl)] at this⟩
      case measure => simp [intOf]; omega
    · obtain rfl : k = n := by omega
      have HO := Lib.hid (show wr.ownsRow w.heap.size 2 1 (.slice (some ⟨w.heap.size, 0, none⟩) k k) k ((meetV p q).map (Value.int .i64)) from by simpa [List.take_of_length_le, HNL.out] using hown)
      have C := Lib.hid (l02Norm_any (some ⟨w.heap.size, 0, none⟩) k k (meetV p q) wr wr.heap.size (Row.of_own HO.out) (Nat.le_refl _) HNL.out m1)
      have HB := Lib.hid hb
      clear hown hb
      go_wp2_with (go_at_call 70; refine (C.out).mono ?_; rintro e w3 ⟨rfl, ho, hb3⟩)
      have H : RetRow w w.heap.size k (normL (meetV p q)) (.returned (.slice (some ⟨wr.heap.size, 0, none⟩) k k)) w3 := ⟨_, _, rfl, own_base' ho HB.out.size, HB.out.trans (hb3.mono HB.out.size)⟩
      clear ho hb3
      go_wp2
      go_ret
      exact H
set_option maxHeartbeats 1000000 in
theorem specMeet_any (A1 : Option Addr) (n1 c1 : Nat) (p : List Int) (A2 : Option Addr) (n2 c2 : Nat) (q : List Int) (w : World) (B1 : Nat) (h1 : IRow w B1 A1 p) (hB1 : B1 ≤ w.heap.size) (l1 : p.length = n1) (m1 : n1 ≤ 2000000)
    (B2 : Nat) (h2 : IRow w B2 A2 q) (hB2 : B2 ≤ w.heap.size) (l2 : q.length = n2) (m2 : n2 ≤ 2000000) :
    Calls Try.prog 44 #[.slice A1 n1 c1, .slice A2 n2 c2] w fun e w' => RetI2 w (meetL p q) e w' := by
  have C1 := Lib.hid (l02Is_any A1 n1 c1 p w B1 h1 l1 m1)
  have C2 := Lib.hid (l02Is_any A2 n2 c2 q w B2 h2 l2 m2)
  rcases hp : partB p with _ | _
  · have HR := Lib.hid (meetL_no (fault_bad (p := p) (q := q) (.inl hp)) (by omega))
    have HP := Lib.hid hp
    clear hp l1 l2
    go_enter Try.func44, Try.ntmps44
    go_wp2_with (go_at_call 66; refine (C1.out).mono ?_; rw [HP.out]; rintro e w' ⟨rfl, rfl⟩)
    go_ret2
    exact RetI2.nil HR.out (Below.refl _ _)
  rcases hq : partB q with _ | _
  · have HR := Lib.hid (meetL_no (fault_bad (p := p) (q := q) (.inr hq)) (by omega))
    have HP := Lib.hid hp
    have HQ := Lib.hid hq
    clear hp hq l1 l2
    go_enter Try.func44, Try.ntmps44
    go_wp2_with fail
    refine (C1.out).mono ?_; rw [HP.out]; rintro e w' ⟨rfl, rfl⟩
    go_wp2_with fail
    refine (C2.out).mono ?_; rw [HQ.out]; rintro e w' ⟨rfl, rfl⟩
    go_wp2
    go_ret2
    exact RetI2.nil HR.out (Below.refl _ _)
  by_cases hn : n1 = n2
  · have HR := Lib.hid (meetL_yes (fault_ok hp hq (by omega)))
    have HP := Lib.hid hp
    have HQ := Lib.hid hq
    subst hn
    have hne : ((n1 : Int) != (n1 : Int)) = false := by simp
    have C3 := Lib.hid (l02Meet_any A1 n1 c1 p A2 c2 q w B1 h1 hB1 l1 m1 (bounds hp) B2 h2 hB2 l2 (bounds hq))
    clear hp hq l1 l2
    go_enter Try.func44, Try.ntmps44
    go_wp2_with fail
    refine (C1.out).mono ?_; rw [HP.out]; rintro e w' ⟨rfl, rfl⟩
    go_wp2_with fail
    refine (C2.out).mono ?_; rw [HQ.out]; rintro e w' ⟨rfl, rfl⟩
    go_wp2_with fail
    refine (C3.out).mono ?_; rintro e w3 ⟨A3, c3, rfl, ho, hb3⟩
    have HO := Lib.hid ho
    have HB3 := Lib.hid hb3
    clear ho hb3
    go_wp2
    go_ret2
    exact RetI2.mk' HR.out HO.out HB3.out
  · have HR := Lib.hid (meetL_no (fault_len (p := p) (q := q) hp hq (by omega)) (by omega))
    have hne : ((n1 : Int) != (n2 : Int)) = true := by simp; omega
    have HP := Lib.hid hp
    have HQ := Lib.hid hq
    clear hp hq l1 l2 hn
    go_enter Try.func44, Try.ntmps44
    go_wp2_with fail
    refine (C1.out).mono ?_; rw [HP.out]; rintro e w' ⟨rfl, rfl⟩
    go_wp2_with fail
    refine (C2.out).mono ?_; rw [HQ.out]; rintro e w' ⟨rfl, rfl⟩
    go_wp2
    go_ret2
    exact RetI2.nil HR.out (Below.refl _ _)
theorem pair_zeros {w' : World} {lo g n : Nat} (h : w'.ownsRow lo 75 2 (.slice (some ⟨g, 0, none⟩) n n) n (madeCells (Value.agg #[.int .i64 0, .int .i64 0]).cells (n * 2)).toList) (xs : List Pr) :
    w'.ownsRow lo 75 2 (.slice (some ⟨g, 0, none⟩) n n) n (halfP xs n 0) := by
  have e : (madeCells (Value.agg #[.int .i64 0, .int .i64 0]).cells (n * 2)).toList = halfP xs n 0 := by
    apply List.ext_getElem?
    intro j
    by_cases hj : j < n * 2
    · have : j % 2 = 0 ∨ j % 2 = 1 := by omega
      rcases this with e | e <;> simp [madeCells, halfP, hj, Value.cells, e]
    · simp [madeCells, halfP, hj, Value.cells]
  rwa [e] at h
set_option maxHeartbeats 2000000 in
set_option maxRecDepth 100000 in
theorem implMeet_any (A1 : Option Addr) (n1 c1 : Nat) (p : List Int) (A2 : Option Addr) (n2 c2 : Nat) (q : List Int) (w : World) (B1 : Nat) (h1 : IRow w B1 A1 p) (hB1 : B1 ≤ w.heap.size) (l1 : p.length = n1) (m1 : n1 ≤ 2000000) (f1 : ∀ x ∈ p, (Lit.int .i64 x).wf = true)
    (B2 : Nat) (h2 : IRow w B2 A2 q) (hB2 : B2 ≤ w.heap.size) (l2 : q.length = n2) (m2 : n2 ≤ 2000000) (f2 : ∀ x ∈ q, (Lit.int .i64 x).wf = true) :
    Calls Try.prog 45 #[.slice A1 n1 c1, .slice A2 n2 c2] w fun e w' => RetI2 w (meetL p q) e w' := by
  have C := Lib.hid (twoFault_any A1 n1 c1 p A2 n2 c2 q w B1 h1 hB1 l1 m1 f1 B2 h2 hB2 l2 m2 f2)
  rcases fault_cases p q with ⟨hf, hp, hq, hl⟩ | hf | hf
  · have HR := Lib.hid (meetL_yes hf)
    have HF := Lib.hid hf
    obtain rfl : n1 = n2 := by omega
    have L1 := Lib.hid l1
    have L2 := Lib.hid l2
    have BB1 := Lib.hid (bounds hp)
    have BB2 := Lib.hid (bounds hq)
    have HN := Lib.hid (meet_norm l1 l2 (bounds hp) (bounds hq))
    have HNL := Lib.hid (pairsP_length l1 l2)
    obtain ⟨i0, hi, hz0, hz1, hz2⟩ := info_parts info_pair
    clear hf hp hq hl l1 l2 f1 f2
    go_enter Try.func45, Try.ntmps45
    go_wp2_with fail
    refine (C.out).mono ?_; rw [HF.out]; rintro e w0 ⟨rfl, hb0⟩
    have hs0 := hb0.size
    clear C
    go_wp2_with (at_make; refine wpList_make_full _ rfl _ _ _ rfl w0.heap.size 75 i0 (.agg #[.int .i64 0, .int .i64 0]) 2 Try.underlying74 hi hz0 hz1 .i64 .i64 _ _ n1 rfl rfl rfl rfl (by rw [hz2]; omega) (by unfold maxLen; omega) (Nat.le_refl _) ?_; intro w1 hown1 hg1)
    have H0 := Lib.hid (pair_zeros hown1 (pairsP p q))
    have hb1 : Below w.heap.size w w1 := hb0.grown hg1 hs0 (by simp)
    clear hown1 hg1 hi hz0 hz1 hz2 hb0
    go_loopw [20] (fun i wr => ∃ k : Nat, k ≤ n1 ∧ i = .int .i64 k ∧ Below w.heap.size w wr ∧ wr.ownsRow w0.heap.size 75 2 (.slice (some ⟨w0.heap.size, 0, none⟩) n1 n1) n1 (halfP (pairsP p q) n1 k)) (fun i _ => n1 - (intOf i).toNat)
    case atStart => exact ⟨0, Nat.zero_le _, rfl, hb1, H0.out⟩
    case round =>
      obtain ⟨k, hk, rfl, hb, hown⟩ := hrel
      clear H0 hb1
      by_cases hlt : k < n1
      · obtain ⟨b, o, u, rfl, hbB, hc, hu⟩ := (h1.below (hb.mono hB1)).at_ (k := k) (by rw [L1.out]; exact hlt)
        obtain ⟨b', o', v, rfl, hbB', hc', hv⟩ := (h2.below (hb.mono hB2)).at_ (k := k) (by rw [L2.out]; exact hlt)
        obtain ⟨⟨old, hx⟩, hf⟩ := own_some hown (k := k * 2) (by omega)
        obtain ⟨⟨old2, hx2⟩, hf2⟩ := own_some hown (k := k * 2 + 1) (by omega)
        have hcd : wr.drew.cell? ⟨b, o + k, none⟩ = some (.int .i64 u) := hc
        have hcd' : wr.drew.cell? ⟨b', o' + k, none⟩ = some (.int .i64 v) := hc'
        have hxd : wr.drew.cell? ⟨w0.heap.size, k * 2, none⟩ = some old := hx
        have hfd : wr.drew.frozen? ⟨w0.heap.size, k * 2, none⟩ = false := hf
        have hxd2 : wr.drew.cell? ⟨w0.heap.size, k * 2 + 1, none⟩ = some old2 := hx2
        have hfd2 : wr.drew.frozen? ⟨w0.heap.size, k * 2 + 1, none⟩ = false := hf2
        have HO := Lib.hid hown
        have HB := Lib.hid hb
        clear hown hb
        go_wp2
        go_still_tail 12, (by kernel_rfl)
        change wpList _ _ _ _ _ wr.drew
        go_wp2
        go_roundw
        case rel =>
          obtain ⟨u0, u1⟩ := BB1.out k u hu.out
          obtain ⟨v0, v1⟩ := BB2.out k v hv.out
          refine ⟨k + 1, by omega, by go_num, ((HB.out.setCell hs0 _).setCell hs0 _).trans (below_drewN _ _ 1), ?_⟩
          have := own_drawn ((HO.out.stored (k * 2) (.int .i64 u)).1.stored (k * 2 + 1) (.int .i64 v)).1 (Drawn.refl _).drew
          have e := halfP_next HNL.out (pairsP_at hu.out hv.out)
          rw [fin64_val u0 (by omega), fin64_val v0 (by omega)] at e
          rwa [e] at this
        case measure => simp [intOf]; omega
      · obtain rfl : k = n1 := by omega
        have HO := Lib.hid (show wr.ownsRow w0.heap.size 75 2 (.slice (some ⟨w0.heap.size, 0, none⟩) k k) k ((pairsP p q).flatMap pv) from by rw [← halfP_all HNL.out]; exact hown)
        have C := Lib.hid (numberPairs_any (some ⟨w0.heap.size, 0, none⟩) k k (pairsP p q) wr wr.heap.size (row_of_own2 HO.out) (Nat.le_refl _) HNL.out m1)
        have HB := Lib.hid hb
        clear hown hb
        go_wp2_with (go_at_call 81; refine (C.out).mono ?_; rintro e w3 ⟨rfl, ho, hb3⟩; have HO3 := Lib.hid ho; have HB3 := Lib.hid hb3; clear ho hb3)
        go_ret2
        exact RetI2.mk' (HR.out.trans (by rw [HN.out])) (own_base' HO3.out HB.out.size) (HB.out.trans (HB3.out.mono HB.out.size))
  · have HR := Lib.hid (meetL_no hf (by omega))
    have HF := Lib.hid hf
    clear hf l1 l2 f1 f2
    go_enter Try.func45, Try.ntmps45
    go_wp2_with (go_at_call 80; refine (C.out).mono ?_; rw [HF.out]; rintro e w0 ⟨rfl, hb0⟩)
    go_ret2
    exact RetI2.nil HR.out hb0
  · have HR := Lib.hid (meetL_no hf (by omega))
    have HF := Lib.hid hf
    clear hf l1 l2 f1 f2
    go_enter Try.func45, Try.ntmps45
    go_wp2_with (go_at_call 80; refine (C.out).mono ?_; rw [HF.out]; rintro e w0 ⟨rfl, hb0⟩)
    go_ret2
    exact RetI2.nil HR.out hb0
end Go.Proofs.Ythnopigibjmgbaa
