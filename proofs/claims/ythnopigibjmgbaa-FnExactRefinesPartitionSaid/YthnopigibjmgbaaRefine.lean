/- Whether one partition refines another: the model's and the program's functions. -/
import Derived.Test.YthnopigibjmgbaaProg
import Derived.WalkKit
import Derived.ProofKit
import Derived.BigQuiet
import Derived.Outline
import Derived.IntWalk
import Derived.StillTailTactics
import Derived.Test.YthnopigibjmgbaaMem
import Derived.Test.YthnopigibjmgbaaOwn
import Derived.Test.YthnopigibjmgbaaTurn
import Derived.Test.YthnopigibjmgbaaLawI
import Derived.Test.YthnopigibjmgbaaLawI2
import Derived.Test.YthnopigibjmgbaaPartM
import Derived.Test.YthnopigibjmgbaaPart
import Derived.Test.YthnopigibjmgbaaPart2
import Derived.Test.YthnopigibjmgbaaPart3
import Derived.Test.YthnopigibjmgbaaForM
import Derived.Test.YthnopigibjmgbaaFor
import Derived.Test.YthnopigibjmgbaaFor2
import Derived.Test.YthnopigibjmgbaaJoinM
import Derived.Test.YthnopigibjmgbaaJoin
import Derived.Test.YthnopigibjmgbaaJoin2
import Derived.Test.YthnopigibjmgbaaNum2
import Derived.Test.YthnopigibjmgbaaMeetM
import Derived.Test.YthnopigibjmgbaaMeet
namespace Go.Proofs.Ythnopigibjmgbaa
open Go.RowKit
open Classical in
noncomputable def refL (p q : List Int) : Bool × Int := if faultP p q = 0 then (decide (refP p q), 0) else (false, faultP p q)
open Classical in
theorem refL_yes {p q : List Int} (h : faultP p q = 0) (h2 : refP p q) : refL p q = (true, 0) := by unfold refL; rw [if_pos h, decide_eq_true h2]
open Classical in
theorem refL_not {p q : List Int} (h : faultP p q = 0) (h2 : ¬ refP p q) : refL p q = (false, 0) := by unfold refL; rw [if_pos h, decide_eq_false h2]
open Classical in
theorem refL_no {p q : List Int} {c : Int} (h : faultP p q = c) (hc : c ≠ 0) : refL p q = (false, c) := by unfold refL; rw [if_neg (by rw [h]; exact hc), h]
theorem ret_pair {a b : Bool × Int} (h : a = b) : Ending.returned (.tuple #[.bool a.1, .int .i64 a.2]) = .returned (.tuple #[.bool b.1, .int .i64 b.2]) := by rw [h]
/-- The places below k have been looked at against place i. -/
def RefTo (p q : List Int) (i k : Nat) : Prop := (∀ (i' k' : Nat) (u v v' : Int), i' < i → k' < i' → p[i']? = some u → p[k']? = some u → q[i']? = some v → q[k']? = some v' → v = v') ∧ ∀ (k' : Nat) (u v v' : Int), k' < k → p[i]? = some u → p[k']? = some u → q[i]? = some v → q[k']? = some v' → v = v'
theorem RefTo.zero (p q : List Int) : RefTo p q 0 0 := ⟨fun i' _ _ _ _ h => by omega, fun k' _ _ _ h => by omega⟩
theorem RefTo.row {p q : List Int} {i : Nat} (h : RefTo p q i i) : RefTo p q (i + 1) 0 := by
  refine ⟨fun i' k' u v v' h1 h2 a b c d => ?_, fun k' _ _ _ h => by omega⟩
  by_cases e : i' = i
  · subst e; exact h.2 k' u v v' h2 a b c d
  · exact h.1 i' k' u v v' (by omega) h2 a b c d
theorem RefTo.skip {p q : List Int} {i k : Nat} {u u' : Int} (h : RefTo p q i k) (hu : p[i]? = some u) (hu' : p[k]? = some u') (hne : u ≠ u') : RefTo p q i (k + 1) := by
  refine ⟨h.1, fun k' a v v' h1 ha hb hc hd => ?_⟩
  by_cases e : k' = k
  · subst e; rw [hu] at ha; rw [hu'] at hb; injection ha with ha; injection hb with hb; exact absurd (ha.trans hb.symm) hne
  · exact h.2 k' a v v' (by omega) ha hb hc hd
theorem RefTo.same {p q : List Int} {i k : Nat} {v v' : Int} (h : RefTo p q i k) (hv : q[i]? = some v) (hv' : q[k]? = some v') (he : v = v') : RefTo p q i (k + 1) := by
  refine ⟨h.1, fun k' a x x' h1 ha hb hc hd => ?_⟩
  by_cases e : k' = k
  · subst e; rw [hv] at hc; rw [hv'] at hd; injection hc with hc; injection hd with hd; rw [← hc, ← hd, he]
  · exact h.2 k' a x x' (by omega) ha hb hc hd
theorem RefTo.done {p q : List Int} {n : Nat} (h : RefTo p q n 0) (hp : p.length ≤ n) : refP p q := fun i k u v v' hki a b c d => h.1 i k u v v' (by have := (List.getElem?_eq_some_iff.1 a).1; omega) hki a b c d
set_option maxHeartbeats 2000000 in
set_option maxRecDepth 100000 in
theorem l02Refines_any (A1 : Option Addr) (n c1 : Nat) (p : List Int) (A2 : Option Addr) (c2 : Nat) (q : List Int) (w : World) (B1 : Nat) (h1 : IRow w B1 A1 p) (l1 : p.length = n) (m1 : n ≤ 2000000)
    (B2 : Nat) (h2 : IRow w B2 A2 q) (l2 : q.length = n) :
    Calls Try.prog 78 #[.slice A1 n c1, .slice A2 n c2] w fun e w' => (∃ b : Bool, e = .returned (.bool b) ∧ (b = true ↔ refP p q)) ∧ Drawn w w' := by
  have L1 := Lib.hid l1
  have L2 := Lib.hid l2
  clear l1 l2
  go_enter Try.func78, Try.ntmps78
  go_wp2
  go_loopw [5] (fun i wr => ∃ k : Nat, k ≤ n ∧ i = .int .i64 k ∧ Hid (RefTo p q k 0) ∧ Drawn w wr) (fun i _ => n - (intOf i).toNat)
  case atStart => exact ⟨0, Nat.zero_le _, rfl, Lib.hid (RefTo.zero p q), Drawn.refl _⟩
  case round =>
    obtain ⟨k, hk, rfl, HE, hD⟩ := hrel
    by_cases hlt : k < n
    · obtain ⟨b, o, u, rfl, hbB, _, hu⟩ := h1.at_ (k := k) (by rw [L1.out]; exact hlt)
      obtain ⟨b', o', v, rfl, hbB', _, hv⟩ := h2.at_ (k := k) (by rw [L2.out]; exact hlt)
      have HD := Lib.hid hD
      clear hD
      go_wp2
      go_loopw [6] (fun i wr => ∃ t : Nat, t ≤ k ∧ i = .int .i64 t ∧ Hid (RefTo p q k t) ∧ Drawn w wr) (fun i _ => k - (intOf i).toNat)
      case atStart => exact ⟨0, Nat.zero_le _, rfl, HE, HD.out⟩
      case round =>
        clear HE HD
        obtain ⟨t, ht, rfl, HE, hD⟩ := hrel
        by_cases hlt2 : t < k
        · obtain ⟨b1, o1, x, e1, _, hc1, hx⟩ := (h1.drawn hD).at_ (k := k) (by rw [L1.out]; exact hlt)
          obtain ⟨b2, o2, y, e2, _, hc2, hy⟩ := (h1.drawn hD).at_ (k := t) (by rw [L1.out]; omega)
          obtain ⟨b3, o3, x', e3, _, hc3, hx'⟩ := (h2.drawn hD).at_ (k := k) (by rw [L2.out]; exact hlt)
          obtain ⟨b4, o4, y', e4, _, hc4, hy'⟩ := (h2.drawn hD).at_ (k := t) (by rw [L2.out]; omega)
          obtain ⟨rfl, rfl⟩ : b1 = b ∧ o1 = o := by simp only [Option.some.injEq, Addr.mk.injEq, and_true] at e1; exact ⟨e1.1.symm, e1.2.symm⟩
          obtain ⟨rfl, rfl⟩ : b2 = b1 ∧ o2 = o1 := by simp only [Option.some.injEq, Addr.mk.injEq, and_true] at e2; exact ⟨e2.1.symm, e2.2.symm⟩
          obtain ⟨rfl, rfl⟩ : b3 = b' ∧ o3 = o' := by simp only [Option.some.injEq, Addr.mk.injEq, and_true] at e3; exact ⟨e3.1.symm, e3.2.symm⟩
          obtain ⟨rfl, rfl⟩ : b4 = b3 ∧ o4 = o3 := by simp only [Option.some.injEq, Addr.mk.injEq, and_true] at e4; exact ⟨e4.1.symm, e4.2.symm⟩
          clear e1 e2 e3 e4
          by_cases he : x = y
          · subst he
            have hbe : (x == x) = true := by simp
            by_cases he2 : x' = y'
            · have HN := Lib.hid (HE.out.same hx'.out hy'.out he2)
              subst he2
              have hbe2 : (x' != x') = false := by simp
              clear HE
              go_wp2
              go_quiet (fail)
              go_wp2
              go_roundw
              case rel => exact ⟨t + 1, by omega, by go_num, HN, by repeat (first | exact hD | apply Drawn.drewN)⟩
              case measure => simp [intOf]; omega
            · have hbe2 : (x' != y') = true := by simp [he2]
              have HR := Lib.hid (show ¬ refP p q from fun hr => he2 (hr k t x x' y' hlt2 hx.out hy.out hx'.out hy'.out))
              clear HE he2
              go_wp2
              go_quiet (fail)
              go_wp2
              go_ret
              exact ⟨⟨false, rfl, by simp; exact HR.out⟩, by repeat (first | exact hD | apply Drawn.drewN)⟩
          · have hbe : (x == y) = false := by simp [he]
            have HN := Lib.hid (HE.out.skip hx.out hy.out he)
            clear HE he
            go_wp2
            go_quiet (fail)
            go_wp2
            go_roundw
            case rel => exact ⟨t + 1, by omega, by go_num, HN, by repeat (first | exact hD | apply Drawn.drewN)⟩
            case measure => simp [intOf]; omega
        · obtain rfl : t = k := by omega
          have HN := Lib.hid HE.out.row
          clear HE
          go_wp2
          go_roundw
          case rel => exact ⟨t + 1, by omega, by go_num, HN, hD⟩
          case measure => simp [intOf]; omega
    · have HR := Lib.hid (HE.out.done (by rw [L1.out]; omega))
      clear HE
      go_wp2
      go_ret
      exact ⟨⟨true, rfl, by simp; exact HR.out⟩, hD⟩
theorem ref_ret {p q : List Int} {b : Bool} (hf : faultP p q = 0) (h : b = true ↔ refP p q) : refL p q = (b, 0) := by
  rcases hb : b with _ | _
  · exact refL_not hf fun hr => by rw [h.2 hr] at hb; cases hb
  · exact refL_yes hf (h.1 hb)
set_option maxHeartbeats 1000000 in
theorem specRef_any (A1 : Option Addr) (n1 c1 : Nat) (p : List Int) (A2 : Option Addr) (n2 c2 : Nat) (q : List Int) (w : World) (B1 : Nat) (h1 : IRow w B1 A1 p) (hB1 : B1 ≤ w.heap.size) (l1 : p.length = n1) (m1 : n1 ≤ 2000000)
    (B2 : Nat) (h2 : IRow w B2 A2 q) (hB2 : B2 ≤ w.heap.size) (l2 : q.length = n2) (m2 : n2 ≤ 2000000) :
    Calls Try.prog 42 #[.slice A1 n1 c1, .slice A2 n2 c2] w fun e w' => e = .returned (.tuple #[.bool (refL p q).1, .int .i64 (refL p q).2]) ∧ Below w.heap.size w w' := by
  have C1 := Lib.hid (l02Is_any A1 n1 c1 p w B1 h1 l1 m1)
  have C2 := Lib.hid (l02Is_any A2 n2 c2 q w B2 h2 l2 m2)
  rcases hp : partB p with _ | _
  · have HR := Lib.hid (refL_no (fault_bad (p := p) (q := q) (.inl hp)) (by omega))
    have HP := Lib.hid hp
    clear hp l1 l2
    go_enter Try.func42, Try.ntmps42
    go_wp2_with (go_at_call 66; refine (C1.out).mono ?_; rw [HP.out]; rintro e w' ⟨rfl, rfl⟩)
    go_ret2
    exact ⟨by rw [HR.out]; rfl, Below.refl _ _⟩
  rcases hq : partB q with _ | _
  · have HR := Lib.hid (refL_no (fault_bad (p := p) (q := q) (.inr hq)) (by omega))
    have HP := Lib.hid hp
    have HQ := Lib.hid hq
    clear hp hq l1 l2
    go_enter Try.func42, Try.ntmps42
    go_wp2_with fail
    refine (C1.out).mono ?_; rw [HP.out]; rintro e w' ⟨rfl, rfl⟩
    go_wp2_with fail
    refine (C2.out).mono ?_; rw [HQ.out]; rintro e w' ⟨rfl, rfl⟩
    go_wp2
    go_ret2
    exact ⟨by rw [HR.out]; rfl, Below.refl _ _⟩
  by_cases hn : n1 = n2
  · have HF := Lib.hid (fault_ok hp hq (by omega))
    have HP := Lib.hid hp
    have HQ := Lib.hid hq
    subst hn
    have hne : ((n1 : Int) != (n1 : Int)) = false := by simp
    have C3 := Lib.hid (l02Refines_any A1 n1 c1 p A2 c2 q w B1 h1 l1 m1 B2 h2 l2)
    clear hp hq l1 l2
    go_enter Try.func42, Try.ntmps42
    go_wp2_with fail
    refine (C1.out).mono ?_; rw [HP.out]; rintro e w' ⟨rfl, rfl⟩
    go_wp2_with fail
    refine (C2.out).mono ?_; rw [HQ.out]; rintro e w' ⟨rfl, rfl⟩
    go_wp2_with fail
    refine (C3.out).mono ?_; rintro e w3 ⟨⟨bb, rfl, hbb⟩, hD⟩
    have HBB := Lib.hid (ref_ret HF.out hbb)
    have HD := Lib.hid hD
    clear hbb hD
    go_wp2
    go_ret2
    exact ⟨by rw [HBB.out]; rfl, HD.out.below _⟩
  · have HR := Lib.hid (refL_no (fault_len (p := p) (q := q) hp hq (by omega)) (by omega))
    have hne : ((n1 : Int) != (n2 : Int)) = true := by simp; omega
    have HP := Lib.hid hp
    have HQ := Lib.hid hq
    clear hp hq l1 l2 hn
    go_enter Try.func42, Try.ntmps42
    go_wp2_with fail
    refine (C1.out).mono ?_; rw [HP.out]; rintro e w' ⟨rfl, rfl⟩
    go_wp2_with fail
    refine (C2.out).mono ?_; rw [HQ.out]; rintro e w' ⟨rfl, rfl⟩
    go_wp2
    go_ret2
    exact ⟨by rw [HR.out]; rfl, Below.refl _ _⟩
set_option maxHeartbeats 1000000 in
theorem implRef_any (A1 : Option Addr) (n1 c1 : Nat) (p : List Int) (A2 : Option Addr) (n2 c2 : Nat) (q : List Int) (w : World) (B1 : Nat) (h1 : IRow w B1 A1 p) (hB1 : B1 ≤ w.heap.size) (l1 : p.length = n1) (m1 : n1 ≤ 2000000) (f1 : ∀ x ∈ p, (Lit.int .i64 x).wf = true)
    (B2 : Nat) (h2 : IRow w B2 A2 q) (hB2 : B2 ≤ w.heap.size) (l2 : q.length = n2) (m2 : n2 ≤ 2000000) (f2 : ∀ x ∈ q, (Lit.int .i64 x).wf = true) :
    Calls Try.prog 43 #[.slice A1 n1 c1, .slice A2 n2 c2] w fun e w' => e = .returned (.tuple #[.bool (refL p q).1, .int .i64 (refL p q).2]) ∧ Below w.heap.size w w' := by
  have C := implMeet_any A1 n1 c1 p A2 n2 c2 q w B1 h1 hB1 l1 m1 f1 B2 h2 hB2 l2 m2 f2
  rcases fault_cases p q with ⟨hf, hp, hq, hl⟩ | hf | hf
  · rw [meetL_yes hf] at C
    have C := Lib.hid C
    have HL := Lib.hid (meetV_length l1 (by omega : q.length = n1))
    have HR := Lib.hid (show refL p q = (decide (normL (meetV p q) = p), 0) from ref_ret hf (by rw [decide_eq_true_iff]; exact meet_refines hp l1 (by omega) (bounds hq)))
    have L1 := Lib.hid l1
    clear hf hp hq hl l1 l2 f1 f2
    go_enter Try.func43, Try.ntmps43
    go_wp2_with fail
    refine (C.out).mono ?_; rintro e w0 ⟨A', n', c', rfl, ho, hb0⟩
    have hn' : n' = n1 := by have h := ho.len; rw [List.length_map] at h; rw [← h]; show (normL (meetV p q)).length = n1; rw [normL_length]; exact HL.out
    subst hn'
    have HO := Lib.hid ho
    have HB := Lib.hid hb0
    clear ho hb0 C
    go_wp2_with (go_at_call 68; refine (slicesEqI_any _ _ _ _ _ _ (normL (meetV p q)) p _ w0.heap.size B1 HO.out.row (h1.below (HB.out.mono hB1)) (by rw [normL_length]; exact HL.out) L1.out m1).mono ?_; rintro e w2 ⟨rfl, hD⟩; have HD := Lib.hid hD; clear hD)
    go_ret2
    exact ⟨by rw [HR.out]; rfl, HB.out.trans (HD.out.below _)⟩
  · rw [meetL_no hf (by omega)] at C
    have C := Lib.hid C
    have HR := Lib.hid (refL_no hf (by omega))
    clear hf l1 l2 f1 f2
    go_enter Try.func43, Try.ntmps43
    go_wp2_with fail
    refine (C.out).mono ?_; rintro e w0 ⟨A', n', c', rfl, ho, hb0⟩
    have HB := Lib.hid hb0
    clear ho hb0 C
    go_wp2
    go_ret2
    exact ⟨by rw [HR.out]; rfl, HB.out⟩
  · rw [meetL_no hf (by omega)] at C
    have C := Lib.hid C
    have HR := Lib.hid (refL_no hf (by omega))
    clear hf l1 l2 f1 f2
    go_enter Try.func43, Try.ntmps43
    go_wp2_with fail
    refine (C.out).mono ?_; rintro e w0 ⟨A', n', c', rfl, ho, hb0⟩
    have HB := Lib.hid hb0
    clear ho hb0 C
    go_wp2
    go_ret2
    exact ⟨by rw [HR.out]; rfl, HB.out⟩
end Go.Proofs.Ythnopigibjmgbaa
