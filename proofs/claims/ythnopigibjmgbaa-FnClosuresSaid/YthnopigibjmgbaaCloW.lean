/- The law of closures: every call of it returns true. -/
import Derived.Test.YthnopigibjmgbaaProg
import Derived.WalkKit
import Derived.ProofKit
import Derived.IntWalk
import Derived.BigQuiet
import Derived.Outline
import Derived.Test.YthnopigibjmgbaaMem
import Derived.Test.YthnopigibjmgbaaCloM
import Derived.Test.YthnopigibjmgbaaSrc2
import Derived.Test.YthnopigibjmgbaaClo
import Derived.Test.YthnopigibjmgbaaRelJ
import Derived.Test.YthnopigibjmgbaaSpan
namespace Go.Proofs.Ythnopigibjmgbaa
open Go.RowKit
theorem long_any (a : Option Addr) (n c : Nat) (w : World) (b : Bool) (h : (b = true ∧ 1048576 < n) ∨ (b = false ∧ n ≤ 1048576)) (hn : n ≤ 9223372036854775807) :
    Calls Try.prog 17 #[.slice a n c] w fun e w' => e = .returned (.bool b) ∧ w = w' := by
  rcases h with ⟨rfl, h⟩ | ⟨rfl, h⟩
  · have h' : (1048576 : Int) < (n : Int) := by omega
    go_enter Try.func17, Try.ntmps17
    go_wp2
    go_ret
    exact ⟨rfl, rfl⟩
  · have h' : ¬ (1048576 : Int) < (n : Int) := by omega
    go_enter Try.func17, Try.ntmps17
    go_wp2
    go_ret
    exact ⟨rfl, rfl⟩
theorem rstep {w w' : World} {B : Nat} {A : Option Addr} {r : List (List Int)} (h : RRow w B A r) (hB : B ≤ w.heap.size) (b : Below w.heap.size w w') : RRow w' B A r := h.below (b.mono hB)
theorem istep {w w' : World} {B : Nat} {A : Option Addr} {r : List Int} (h : IRow w B A r) (hB : B ≤ w.heap.size) (b : Below w.heap.size w w') : IRow w' B A r := h.below (b.mono hB)
theorem two_small {f : Nat → Nat → Bool} {n : Nat} : ∀ xs ∈ picked f n n, xs.length ≤ 2000000 := fun xs hx => by have := picked_inner _ _ _ xs hx; omega
/-- The first results of the calls, and that all codes are 0. -/
theorem comp_parts {n : Nat} {r q : List (List Int)} (h : relB n r = true) (h2 : relB n q = true) : compL n r q = ((compL n r q).1, 0) := by rw [compL_yes h h2]
theorem inv_parts {n : Nat} {r : List (List Int)} (h : relB n r = true) : invL n r = ((invL n r).1, 0) := by rw [invL_yes h]
theorem span_parts {n : Nat} {r : List (List Int)} (h : relB n r = true) : spanL n r = ((spanL n r).1, 0) := by rw [spanL_yes h]
theorem span_count {n : Nat} {r : List (List Int)} (h : relB n r = true) : (spanL n r).1.length = n := by rw [spanL_yes h]; show (normL _).length = n; rw [normL_length, rootsL_length]
theorem clo_len40 {n : Nat} {f : Nat → Nat → Bool} (h : n ≤ 40) : (picked f n n).length ≤ 2000000 := picked_len40 f h
set_option maxHeartbeats 4000000 in
set_option maxRecDepth 100000 in
theorem closures_any (a0 : Option Addr) (len0 cap0 : Nat) (xs0 : List Int) (w : World) (hx : BRow w w.heap.size a0 xs0) (lx : xs0.length = len0) (bx : ∀ n ∈ xs0, 0 ≤ n ∧ n ≤ 255) (hlenb : len0 ≤ 9223372036854775807) :
    Calls Try.prog 3 #[.slice a0 len0 cap0] w fun e w' => e = .returned (.bool true) ∧ Below w.heap.size w w' := by
  by_cases hl : 1048576 < len0
  · have C0 := Lib.hid (long_any a0 len0 cap0 w true (.inl ⟨rfl, hl⟩) hlenb)
    clear hx lx bx
    go_enter Try.func3, Try.ntmps3
    go_wp2_with (go_at_call 17; refine (C0.out).mono ?_; rintro e w' ⟨rfl, rfl⟩)
    go_ret
    exact ⟨rfl, Below.refl _ _⟩
  have C0 := Lib.hid (long_any a0 len0 cap0 w false (.inr ⟨rfl, by omega⟩) hlenb)
  have C1 := Lib.hid (draw_any a0 len0 cap0 xs0 w w.heap.size hx (Nat.le_refl _) lx (by omega) bx)
  clear hx lx bx hlenb hl
  go_enter Try.func3, Try.ntmps3
  go_wp2_with (go_at_call 17; refine (C0.out).mono ?_; rintro e w' ⟨rfl, rfl⟩)
  refine (C1.out).mono ?_
  rintro e u1 ⟨n, f, v, hn1, hn, rfl, hv, b1⟩
  obtain ⟨A, c, rfl, hO⟩ := hv.done
  have hrel := relB_picked f hn1 hn
  have hinv := inv_twice (f := f) hn1 hn
  have hin := two_small (f := f) (n := n)
  have hle := clo_len40 (f := f) hn
  generalize picked f n n = r at *
  generalize hnr : r.length = nr at *
  have R1 := Lib.hid hO.row
  have B1 := Lib.hid b1
  have s1 := b1.size
  have REL := Lib.hid hrel
  have INV := Lib.hid hinv
  have INN := Lib.hid hin
  have NR := Lib.hid hnr
  have hcrel := clo_rel (n := n) r hn1 hn
  have CREL := Lib.hid hcrel
  have CIN := Lib.hid (two_small (f := closeF n r) (n := n))
  have hcl := clo_len40 (f := closeF n r) hn
  have hcc := clo_count (n := n) r n (Nat.le_refl _)
  have HCL := Lib.hid (show closeL n r = (cloL n r, 0) from closeL_yes hrel)
  have HTW := Lib.hid (clo_twice (n := n) (r := r) hn1 hn)
  have HLF := Lib.hid (comp_parts hrel hcrel)
  have HLM := Lib.hid (clo_left (n := n) hrel hn1 hn)
  have HSP := Lib.hid (clo_span hrel hn1 hn)
  have HSN := Lib.hid (span_parts hrel)
  have HSC := Lib.hid (span_count hrel)
  have HLL := Lib.hid (compL_len n r (cloL n r))
  have HLI := Lib.hid (compL_inner n r (cloL n r))
  have HVP := Lib.hid (inv_parts hrel)
  have HVL := Lib.hid (invL_len n r)
  have HVI := Lib.hid (invL_inner n r)
  change (picked (closeF n r) n n).length ≤ _ at hcl
  change n ≤ (picked (closeF n r) n n).length at hcc
  obtain ⟨nC, hnC⟩ : ∃ nC, (picked (closeF n r) n n).length = nC := ⟨_, rfl⟩
  rw [hnC] at hcl hcc
  have NC := Lib.hid (show (cloL n r).length = nC from hnC)
  clear hv hO b1 hrel hinv hin hnr hcrel hnC C0 C1
  go_wp2_with fail
  refine (implClose_any n A nr c r u1 u1.heap.size R1.out (Nat.le_refl _) NR.out hle INN.out).mono ?_
  rw [HCL.out]
  rintro e u2 ⟨AC, nC', cC, rfl, oC, b2⟩
  obtain rfl : nC' = nC := by have := oC.len; rw [← this]; exact NC.out
  have RC := Lib.hid oC.row
  have R2 := Lib.hid (rstep R1.out (Nat.le_refl _) b2)
  have B2 := Lib.hid (B1.out.trans (b2.mono s1))
  have s2 := b2.size
  clear oC b2 R1 B1
  have hcc' : ¬ (nC' : Int) < (n : Int) := by omega
  go_wp2_with fail
  refine (implComp_any n AC nC' cC (cloL n r) AC nC' cC (cloL n r) u2 u2.heap.size RC.out (Nat.le_refl _) NC.out hcl CIN.out u2.heap.size RC.out (Nat.le_refl _) NC.out hcl CIN.out).mono ?_
  rw [HTW.out]
  rintro e u3 ⟨AT, nT, cT, rfl, oT, b3⟩
  obtain rfl : nT = nC' := by have := oT.len; rw [← this]; exact NC.out
  have RT := Lib.hid oT.row
  have RC3 := Lib.hid (rstep RC.out (Nat.le_refl _) b3)
  have R3 := Lib.hid (rstep R2.out s2 b3)
  have B3 := Lib.hid (B2.out.trans (b3.mono (by omega)))
  have s3 := b3.size
  clear oT b3 R2 B2 RC
  go_wp2_with fail
  refine (implComp_any n A nr c r AC nT cC (cloL n r) u3 u1.heap.size R3.out (by omega) NR.out hle INN.out u2.heap.size RC3.out (by omega) NC.out hcl CIN.out).mono ?_
  rw [HLF.out]
  rintro e u4 ⟨AL, nL, cL, rfl, oL, b4⟩
  have RL := Lib.hid oL.row
  have NL := Lib.hid oL.len
  have hnL : nL ≤ 2000000 := by have h : (compL n r (cloL n r)).1.length = nL := oL.len; have h2 := HLL.out; omega
  have RC4 := Lib.hid (rstep RC3.out (by omega) b4)
  have R4 := Lib.hid (rstep R3.out (by omega) b4)
  have RT4 := Lib.hid (rstep RT.out (Nat.le_refl _) b4)
  have B4 := Lib.hid (B3.out.trans (b4.mono (by omega)))
  have s4 := b4.size
  clear oL b4 R3 B3 RC3 RT
  go_wp2_with fail
  refine (implInv_any n A nr c r u4 u1.heap.size R4.out (by omega) NR.out hle INN.out).mono ?_
  rw [HVP.out]
  rintro e u5 ⟨AV, nV, cV, rfl, oV, b5⟩
  have RV := Lib.hid oV.row
  have NV := Lib.hid oV.len
  have hnV : nV ≤ 2000000 := by have h : (invL n r).1.length = nV := oV.len; have h2 := HVL.out; omega
  have RC5 := Lib.hid (rstep RC4.out (by omega) b5)
  have R5 := Lib.hid (rstep R4.out (by omega) b5)
  have RT5 := Lib.hid (rstep RT4.out (by omega) b5)
  have RL5 := Lib.hid (rstep RL.out (Nat.le_refl _) b5)
  have B5 := Lib.hid (B4.out.trans (b5.mono (by omega)))
  have s5 := b5.size
  clear oV b5 R4 B4 RC4 RT4 RL
  go_wp2_with fail
  refine (implInv_any n AV nV cV (invL n r).1 u5 u5.heap.size RV.out (Nat.le_refl _) NV.out hnV HVI.out).mono ?_
  rw [INV.out]
  rintro e u6 ⟨AB, nB, cB, rfl, oB, b6⟩
  obtain rfl : nB = nr := by have := oB.len; rw [← this]; exact NR.out
  have RB := Lib.hid oB.row
  have RC6 := Lib.hid (rstep RC5.out (by omega) b6)
  have R6 := Lib.hid (rstep R5.out (by omega) b6)
  have RT6 := Lib.hid (rstep RT5.out (by omega) b6)
  have RL6 := Lib.hid (rstep RL5.out (by omega) b6)
  have B6 := Lib.hid (B5.out.trans (b6.mono (by omega)))
  have s6 := b6.size
  clear oB b6 R5 B5 RC5 RT5 RL5 RV
  go_wp2_with fail
  refine (implSpan_any n A nB c r u6 u1.heap.size R6.out (by omega) NR.out hle INN.out).mono ?_
  rw [HSN.out]
  rintro e u7 ⟨AP, nP, cP, rfl, oP, b7⟩
  obtain rfl : nP = n := by have h := oP.len; rw [List.length_map] at h; rw [← h]; exact HSC.out
  have IP := Lib.hid (show IRow u7 u7.heap.size AP (spanL nP r).1 from oP.row)
  have RC7 := Lib.hid (rstep RC6.out (by omega) b7)
  have R7 := Lib.hid (rstep R6.out (by omega) b7)
  have RT7 := Lib.hid (rstep RT6.out (by omega) b7)
  have RL7 := Lib.hid (rstep RL6.out (by omega) b7)
  have RB7 := Lib.hid (rstep RB.out (Nat.le_refl _) b7)
  have B7 := Lib.hid (B6.out.trans (b7.mono (by omega)))
  have s7 := b7.size
  clear oP b7 R6 B6 RC6 RT6 RL6 RB
  go_wp2_with fail
  refine (implSpan_any nP AC nT cC (cloL nP r) u7 u2.heap.size RC7.out (by omega) NC.out hcl CIN.out).mono ?_
  rw [HSP.out, HSN.out]
  rintro e u8 ⟨AQ, nQ, cQ, rfl, oQ, b8⟩
  obtain rfl : nQ = nP := by have h := oQ.len; rw [List.length_map] at h; rw [← h]; exact HSC.out
  have IQ := Lib.hid (show IRow u8 u8.heap.size AQ (spanL nQ r).1 from oQ.row)
  have IP8 := Lib.hid (istep IP.out (Nat.le_refl _) b8)
  have RC8 := Lib.hid (rstep RC7.out (by omega) b8)
  have R8 := Lib.hid (rstep R7.out (by omega) b8)
  have RT8 := Lib.hid (rstep RT7.out (by omega) b8)
  have RL8 := Lib.hid (rstep RL7.out (by omega) b8)
  have RB8 := Lib.hid (rstep RB7.out (by omega) b8)
  have B8 := Lib.hid (B7.out.trans (b8.mono (by omega)))
  have s8 := b8.size
  clear oQ b8 R7 B7 RC7 RT7 RL7 RB7 IP
  have hne : ((nQ : Int) != (nQ : Int)) = false := by simp
  go_wp2_with fail
  refine (rows_any AT AC nT cT cC (cloL nQ r) u8 u3.heap.size u2.heap.size RT8.out RC8.out NC.out hcl CIN.out).mono ?_
  rintro e u9 ⟨rfl, d9⟩
  have D9 := Lib.hid d9
  clear d9
  go_wp2_with fail
  refine (rows_any AB A nB cB c r u9 u6.heap.size u1.heap.size (RB8.out.drawn D9.out) (R8.out.drawn D9.out) NR.out hle INN.out).mono ?_
  rintro e u10 ⟨rfl, d10⟩
  have D10 := Lib.hid (D9.out.trans d10)
  clear d10 D9
  go_wp2_with fail
  refine (nums_yes AP AQ nQ nQ cP cQ (spanL nQ r).1 u10 u7.heap.size u8.heap.size (IP8.out.drawn D10.out) (IQ.out.drawn D10.out) HSC.out HSC.out (by omega)).mono ?_
  rintro e u11 ⟨rfl, d11⟩
  have D11 := Lib.hid (D10.out.trans d11)
  clear d11 D10 RT8 R8 RB8 IP8 IQ
  go_wp2
  go_loopw [19] (fun i wr => ∃ k : Nat, k ≤ nL ∧ i = .int .i64 k ∧ Hid (Drawn u8 wr)) (fun i _ => nL - (intOf i).toNat)
  case atStart => exact ⟨0, Nat.zero_le _, rfl, D11⟩
  case round =>
    obtain ⟨k, hk, rfl, HD⟩ := hrel
    by_cases hlt : k < nL
    · obtain ⟨b, o, A', c', xs, rfl, hb, hc, hrow, hxs⟩ := (RL8.out.drawn HD.out).at_ (k := k) (by rw [NL.out]; exact hlt)
      have hmem := Lib.hid (HLM.out xs (List.mem_of_getElem? hxs.out))
      have hxl := HLI.out xs (List.mem_of_getElem? hxs.out)
      have HD0 := Lib.hid HD.out
      clear HD
      go_wp2
      go_loopw [20, 21] (fun fnd i wr => ∃ (t : Nat) (bb : Bool), t ≤ nT ∧ i = .int .i64 t ∧ fnd = .bool bb ∧ Hid (bb = true ↔ xs ∈ (cloL nQ r).take t) ∧ Hid (Drawn u8 wr)) (fun _ i _ => nT - (intOf i).toNat)
      case atStart => exact ⟨0, false, Nat.zero_le _, rfl, rfl, Lib.hid (by simp), HD0⟩
      case round =>
        clear HD0 hc hrow
        obtain ⟨t, bb, ht, rfl, rfl, HBB, HD⟩ := hrel
        by_cases hlt2 : t < nT
        · obtain ⟨b1, o1, A1', c1', xs1, e1, _, hc1, hr1, hx1⟩ := (RL8.out.drawn HD.out).at_ (k := k) (by rw [NL.out]; exact hlt)
          obtain ⟨b2, o2, A2', c2', ys, rfl, _, hc2, hr2, hy⟩ := (RC8.out.drawn HD.out).at_ (k := t) (by rw [NC.out]; exact hlt2)
          obtain ⟨rfl, rfl⟩ : b1 = b ∧ o1 = o := by simp only [Option.some.injEq, Addr.mk.injEq, and_true] at e1; exact ⟨e1.1.symm, e1.2.symm⟩
          obtain rfl : xs1 = xs := by have := hx1.out.symm.trans hxs.out; injection this
          clear e1
          have HT := Lib.hid (take_one _ _ _ hy.out)
          rcases bb with _ | _
          · have C := Lib.hid (fun m => nums_any A1' A2' xs1.length ys.length c1' c2' xs1 ys (wr.drewN m) _ _ (hr1.drewN m) (hr2.drewN m) rfl rfl hxl)
            have HN := Lib.hid (show (decide (xs1 = ys) = true ↔ xs1 ∈ (cloL nQ r).take (t + 1)) from by
              rw [HT.out, List.mem_append, List.mem_singleton, decide_eq_true_iff]
              constructor
              · exact .inr
              · rintro (h | h)
                · have := HBB.out.2 h; cases this
                · exact h)
            generalize decide (xs1 = ys) = dd at *
            clear HBB hr1 hr2
            go_wp2
            go_quiet ((go_at_call 24; exact quiet_drawn (C.out _)))
            go_wp2
            go_roundw
            case rel => exact ⟨t + 1, dd, by omega, by go_num, rfl, HN, Lib.hid (HD.out.trans ((Drawn.refl _).drewN _))⟩
            case measure => simp [intOf]; omega
          · have HN := Lib.hid (show (true = true ↔ xs1 ∈ (cloL nQ r).take (t + 1)) from by
              rw [HT.out, List.mem_append]
              exact ⟨fun _ => .inl (HBB.out.1 rfl), fun _ => rfl⟩)
            clear HBB hr1 hr2
            go_wp2
            go_quiet (fail)
            go_wp2
            go_roundw
            case rel => exact ⟨t + 1, true, by omega, by go_num, rfl, Lib.hid (by have := HN.out; simpa using this), Lib.hid (HD.out.trans ((Drawn.refl _).drewN _))⟩
            case measure => simp [intOf]; omega
        · obtain rfl : bb = true := HBB.out.2 (by rw [List.take_of_length_le (by rw [NC.out]; omega)]; exact hmem.out)
          clear HBB
          go_wp2
          go_roundw
          case rel => exact ⟨k + 1, by omega, by go_num, HD⟩
          case measure => simp [intOf]; omega
    · go_wp2
      go_ret
      exact ⟨rfl, B8.out.trans (HD.out.below _)⟩
end Go.Proofs.Ythnopigibjmgbaa
