/- The join of two partitions: the model's and the program's functions. -/
import Derived.Test.YthnopigibjmgbaaProg
import Derived.WalkKit
import Derived.ProofKit
import Derived.BigQuiet
import Derived.Outline
import Derived.IntWalk
import Derived.StillTailTactics
import Derived.OwnWalk
import Derived.Test.YthnopigibjmgbaaMem
import Derived.Test.YthnopigibjmgbaaOwn
import Derived.Test.YthnopigibjmgbaaTurn
import Derived.Test.YthnopigibjmgbaaLawI
import Derived.Test.YthnopigibjmgbaaLawI2
import Derived.Test.YthnopigibjmgbaaPartM
import Derived.Test.YthnopigibjmgbaaPart
import Derived.Test.YthnopigibjmgbaaPart2
import Derived.Test.YthnopigibjmgbaaPart3
import Derived.Test.YthnopigibjmgbaaBuild
import Derived.Test.YthnopigibjmgbaaForM
import Derived.Test.YthnopigibjmgbaaFor
import Derived.Test.YthnopigibjmgbaaFor2
import Derived.Test.YthnopigibjmgbaaSpan
import Derived.Test.YthnopigibjmgbaaJoinM
import Derived.Test.YthnopigibjmgbaaJoin
namespace Go.Proofs.Ythnopigibjmgbaa
open Go.RowKit
def faultP (p q : List Int) : Int := if partB p = true ∧ partB q = true then (if p.length = q.length then 0 else 2) else 1
theorem fault_ok {p q : List Int} (h1 : partB p = true) (h2 : partB q = true) (h : p.length = q.length) : faultP p q = 0 := by unfold faultP; rw [if_pos ⟨h1, h2⟩, if_pos h]
theorem fault_len {p q : List Int} (h1 : partB p = true) (h2 : partB q = true) (h : p.length ≠ q.length) : faultP p q = 2 := by unfold faultP; rw [if_pos ⟨h1, h2⟩, if_neg h]
theorem fault_bad {p q : List Int} (h : partB p = false ∨ partB q = false) : faultP p q = 1 := by
  unfold faultP; rw [if_neg]
  rintro ⟨h1, h2⟩
  rcases h with h | h <;> simp_all
set_option maxHeartbeats 1000000 in
theorem twoFault_any (A1 : Option Addr) (n1 c1 : Nat) (p : List Int) (A2 : Option Addr) (n2 c2 : Nat) (q : List Int) (w : World) (B1 : Nat) (h1 : IRow w B1 A1 p) (hB1 : B1 ≤ w.heap.size) (l1 : p.length = n1) (m1 : n1 ≤ 2000000) (f1 : ∀ x ∈ p, (Lit.int .i64 x).wf = true)
    (B2 : Nat) (h2 : IRow w B2 A2 q) (hB2 : B2 ≤ w.heap.size) (l2 : q.length = n2) (m2 : n2 ≤ 2000000) (f2 : ∀ x ∈ q, (Lit.int .i64 x).wf = true) :
    Calls Try.prog 80 #[.slice A1 n1 c1, .slice A2 n2 c2] w fun e w' => e = .returned (.int .i64 (faultP p q)) ∧ Below w.heap.size w w' := by
  have C1 := Lib.hid (implIsPart_any A1 n1 c1 p w B1 h1 hB1 l1 m1 f1)
  have C2 := Lib.hid (fun wx (hb : Below w.heap.size w wx) => implIsPart_any A2 n2 c2 q wx B2 (h2.below (hb.mono hB2)) (Nat.le_trans hB2 hb.size) l2 m2 f2)
  have L1 := Lib.hid l1
  have L2 := Lib.hid l2
  clear l1 l2 f1 f2
  rcases hp : partB p with _ | _
  · have HR := Lib.hid (fault_bad (p := p) (q := q) (.inl hp))
    have HP := Lib.hid hp
    clear hp
    go_enter Try.func80, Try.ntmps80
    go_wp2_with (go_at_call 27; refine (C1.out).mono ?_; rw [HP.out]; rintro e w1 ⟨rfl, hb⟩)
    go_ret
    exact ⟨ret_int HR.out.symm, hb⟩
  have HP := Lib.hid hp
  clear hp
  rcases hq : partB q with _ | _
  · have HR := Lib.hid (fault_bad (p := p) (q := q) (.inr hq))
    have HQ := Lib.hid hq
    clear hq
    go_enter Try.func80, Try.ntmps80
    go_wp2_with fail
    refine (C1.out).mono ?_; rw [HP.out]; rintro e w1 ⟨rfl, hb⟩
    have HB := Lib.hid hb
    clear hb
    go_wp2_with fail
    refine (C2.out _ HB.out).mono ?_; rw [HQ.out]; rintro e w2 ⟨rfl, hb⟩
    go_wp2
    go_ret
    exact ⟨ret_int HR.out.symm, HB.out.trans (hb.mono HB.out.size)⟩
  have HQ := Lib.hid hq
  clear hq
  by_cases hn : n1 = n2
  · have HR := Lib.hid (fault_ok HP.out HQ.out (by rw [L1.out, L2.out, hn]))
    have hne : ((n1 : Int) != (n2 : Int)) = false := by simp [hn]
    clear hn
    go_enter Try.func80, Try.ntmps80
    go_wp2_with fail
    refine (C1.out).mono ?_; rw [HP.out]; rintro e w1 ⟨rfl, hb⟩
    have HB := Lib.hid hb
    clear hb
    go_wp2_with fail
    refine (C2.out _ HB.out).mono ?_; rw [HQ.out]; rintro e w2 ⟨rfl, hb⟩
    go_wp2
    go_ret
    exact ⟨ret_int HR.out.symm, HB.out.trans (hb.mono HB.out.size)⟩
  · have HR := Lib.hid (fault_len HP.out HQ.out (by rw [L1.out, L2.out]; exact hn))
    have hne : ((n1 : Int) != (n2 : Int)) = true := by simp; omega
    clear hn
    go_enter Try.func80, Try.ntmps80
    go_wp2_with fail
    refine (C1.out).mono ?_; rw [HP.out]; rintro e w1 ⟨rfl, hb⟩
    have HB := Lib.hid hb
    clear hb
    go_wp2_with fail
    refine (C2.out _ HB.out).mono ?_; rw [HQ.out]; rintro e w2 ⟨rfl, hb⟩
    go_wp2
    go_ret
    exact ⟨ret_int HR.out.symm, HB.out.trans (hb.mono HB.out.size)⟩
theorem fault_cases (p q : List Int) : (faultP p q = 0 ∧ partB p = true ∧ partB q = true ∧ p.length = q.length) ∨ faultP p q = 1 ∨ faultP p q = 2 := by
  unfold faultP
  split
  · rename_i h
    split
    · rename_i e; exact .inl ⟨rfl, h.1, h.2, e⟩
    · exact .inr (.inr rfl)
  · exact .inr (.inl rfl)
def joinR (p q : List Int) (n : Nat) : Nat → Nat := blocksR (blocksR (fun i => i) p n) q n
def joinL (p q : List Int) : List Int × Int := if faultP p q = 0 then (normL (rootsL p.length (joinR p q p.length)), 0) else ([], faultP p q)
theorem joinL_yes {p q : List Int} (h : faultP p q = 0) : joinL p q = (normL (rootsL p.length (joinR p q p.length)), 0) := by unfold joinL; rw [if_pos h]
theorem joinL_no {p q : List Int} {c : Int} (h : faultP p q = c) (hc : c ≠ 0) : joinL p q = ([], c) := by unfold joinL; rw [if_neg (by rw [h]; exact hc), h]
theorem joinL_len (p q : List Int) (h : p.length ≤ 2000000) : (joinL p q).1.length ≤ 2000000 := by
  unfold joinL; split
  · show (normL _).length ≤ _; rw [normL_length, rootsL_length]; exact h
  · simp
theorem small_wf {p : List Int} (h : partB p = true) : p.length ≤ 40 ∧ 1 ≤ p.length := ⟨(partB_iff.1 h).2.1, (partB_iff.1 h).1⟩
set_option maxHeartbeats 4000000 in
set_option maxRecDepth 100000 in
theorem implJoin_any (A1 : Option Addr) (n1 c1 : Nat) (p : List Int) (A2 : Option Addr) (n2 c2 : Nat) (q : List Int) (w : World) (B1 : Nat) (h1 : IRow w B1 A1 p) (hB1 : B1 ≤ w.heap.size) (l1 : p.length = n1) (m1 : n1 ≤ 2000000) (f1 : ∀ x ∈ p, (Lit.int .i64 x).wf = true)
    (B2 : Nat) (h2 : IRow w B2 A2 q) (hB2 : B2 ≤ w.heap.size) (l2 : q.length = n2) (m2 : n2 ≤ 2000000) (f2 : ∀ x ∈ q, (Lit.int .i64 x).wf = true) :
    Calls Try.prog 47 #[.slice A1 n1 c1, .slice A2 n2 c2] w fun e w' => RetI2 w (joinL p q) e w' := by
  have C := Lib.hid (twoFault_any A1 n1 c1 p A2 n2 c2 q w B1 h1 hB1 l1 m1 f1 B2 h2 hB2 l2 m2 f2)
  rcases fault_cases p q with ⟨hf, hp, hq, hl⟩ | hf | hf
  · have HR := Lib.hid (joinL_yes hf)
    have HF := Lib.hid hf
    obtain rfl : n1 = n2 := by omega
    have C2 := Lib.hid (fun lo fb g R d wx hF (hb : Below w.heap.size w wx) (h : B1 ≤ lo) (h' : lo ≤ wx.heap.size) => uniteBlocks_any lo n1 fb g R d A1 c1 p wx B1 hF (h1.below (hb.mono hB1)) h h' l1 m1 f1)
    have C3 := Lib.hid (fun lo fb g R d wx hF (hb : Below w.heap.size w wx) (h : B2 ≤ lo) (h' : lo ≤ wx.heap.size) => uniteBlocks_any lo n1 fb g R d A2 c2 q wx B2 hF (h2.below (hb.mono hB2)) h h' l2 m2 f2)
    have L := Lib.hid l1
    clear hf hp hq hl l1 l2 f1 f2
    go_enter Try.func47, Try.ntmps47
    go_wp2_with fail
    refine (C.out).mono ?_; rw [HF.out]; rintro e w0 ⟨rfl, hb0⟩
    have HB0 := Lib.hid hb0
    have hs0 := hb0.size
    clear hb0 C
    go_wp2_with fail
    refine (newForest_any n1 w0 m1).mono ?_; rintro e w1 ⟨fb, rfl, hF, hb1⟩
    have F1 := Lib.hid hF
    have HB1 := Lib.hid hb1
    have hs1 := hb1.size
    clear hF hb1
    go_wp2_with fail
    refine (C2.out w0.heap.size fb w0.heap.size _ _ w1 F1.out (HB0.out.trans (HB1.out.mono hs0)) (by omega) hs1).mono ?_; rintro e w2 ⟨rfl, hF, hb2⟩
    obtain ⟨d2, hF⟩ := hF
    have F2 := Lib.hid hF
    have HB2 := Lib.hid (HB1.out.trans hb2)
    have hs2 := hb2.size
    clear hF hb2 HB1
    go_wp2_with fail
    refine (C3.out w0.heap.size fb w0.heap.size _ _ w2 F2.out (HB0.out.trans (HB2.out.mono hs0)) (by omega) (by omega)).mono ?_; rintro e w3 ⟨rfl, hF, hb3⟩
    obtain ⟨d3, hF⟩ := hF
    have F3 := Lib.hid hF
    have HB3 := Lib.hid (HB2.out.trans hb3)
    have hs3 := hb3.size
    clear hF hb3 HB2
    go_wp2_with fail
    refine (partition_any w0.heap.size n1 fb w0.heap.size _ d3 w3 F3.out m1 (by omega)).mono ?_; rintro e w4 ⟨A4, c4, rfl, ho, hb4⟩
    have HO := Lib.hid ho
    have HB4 := Lib.hid (HB3.out.trans hb4)
    clear ho hb4 HB3
    go_wp2
    go_ret2
    exact RetI2.mk' (HR.out.trans (by rw [L.out]; rfl)) (own_base' HO.out (by omega)) (HB0.out.trans (HB4.out.mono hs0))
  · have HR := Lib.hid (joinL_no hf (by omega))
    have HF := Lib.hid hf
    clear hf l1 l2 f1 f2
    go_enter Try.func47, Try.ntmps47
    go_wp2_with (go_at_call 80; refine (C.out).mono ?_; rw [HF.out]; rintro e w0 ⟨rfl, hb0⟩)
    go_ret2
    exact RetI2.nil HR.out hb0
  · have HR := Lib.hid (joinL_no hf (by omega))
    have HF := Lib.hid hf
    clear hf l1 l2 f1 f2
    go_enter Try.func47, Try.ntmps47
    go_wp2_with (go_at_call 80; refine (C.out).mono ?_; rw [HF.out]; rintro e w0 ⟨rfl, hb0⟩)
    go_ret2
    exact RetI2.nil HR.out hb0
set_option maxHeartbeats 1000000 in
set_option maxRecDepth 100000 in
theorem l00Own_any (A : Option Addr) (n c : Nat) (p : List Int) (w : World) (B : Nat) (h : IRow w B A p) (hB : B ≤ w.heap.size) (l : p.length = n) (m : n ≤ 40) (hn : 0 < n) :
    Calls Try.prog 82 #[.slice A n c] w fun e w' => RetRow w w.heap.size n p e w' := by
  obtain ⟨i0, hi, hz0, hz1, hz2⟩ := info_parts info_i64
  obtain ⟨b, o, u, rfl, hbB, hc, hu⟩ := h.at_ (k := 0) (by omega)
  have HC := Lib.hid (show ∀ (j : Nat) v, (p.map (Value.int .i64))[j]? = some v → (w.alloc (.cells #[] 2)).cell? ((⟨b, o, none⟩ : Addr).add j) = some v from fun j v hv => by
    obtain ⟨b', o', e, hb', hr⟩ := (h.below ((Below.refl B w).alloc hB (.cells #[] 2))) (by simp; omega)
    injection e with e; injection e with e1 e2 _
    subst e1; subst e2
    have := hr j v hv
    rwa [add_lit])
  have L := Lib.hid l
  clear l hc h
  have HO := Lib.hid (World.ownsRow_made (e := 2) (size := 1) w #[] 0 (Nat.le_refl _) (Nat.zero_le _) rfl)
  go_enter Try.func82, Try.ntmps82
  go_wp2_with (at_builtin; refine wpList_append_own _ rfl _ _ 30 rfl w.heap.size 2 i0 (.int .i64 0) 1 8 Try.underlying30 hi hz0 hz1 hz2 rfl (by decide) (.slice (some ⟨w.heap.size, 0, none⟩) 0 0) 0 [] rfl (by exact HO.out) ⟨b, o, none⟩ n c (p.map (Value.int .i64)) rfl (by rw [List.length_map, L.out, Nat.mul_one]) HC.out (by intro u hu; simp at hu; obtain ⟨x, _, rfl⟩ := hu; rfl) (by unfold maxLen; omega) (by omega) (by simp) ?_; intro v' w' ho hg _)
  obtain ⟨A', c', rfl⟩ := own_form ho
  have H : RetRow w w.heap.size n p (.returned (.slice A' (0 + n) c')) w' := by
    rw [Nat.zero_add] at *
    refine ⟨_, _, rfl, by simpa using ho, ?_⟩
    exact ((Below.refl _ _).alloc (Nat.le_refl _) _).grown hg (by simp) (fun g e => by cases e; exact Nat.le_refl _)
  clear ho hg
  go_wp2
  go_ret
  exact H
end Go.Proofs.Ythnopigibjmgbaa
