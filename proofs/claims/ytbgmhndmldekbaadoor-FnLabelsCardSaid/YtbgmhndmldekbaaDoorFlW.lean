/- The law of labels: what it draws. -/
import Derived.Test.YtbgmhndmldekbaaDoorSrcX
namespace Go.Proofs.YtbgmhndmldekbaaDoor
open Go.RowKit
set_option linter.unusedVariables false
set_option linter.unusedSimpArgs false
theorem lit_rowV (w : World) (ys : List ByteArray) (T : TypeId) : Row (w.alloc (.cells (ys.map Value.string).toArray T)) (w.heap.size + 1) (some ⟨w.heap.size, 0, none⟩) (ys.map Value.string) := by
  intro _
  refine ⟨w.heap.size, 0, rfl, by omega, fun i v hv => ?_⟩
  rw [Nat.zero_add, cell_of_row _ _ i _ _ (0, 0) (heap_alloc_new w _)]
  rw [← hv]
  simp
def nmV : List ByteArray := [⟨#[97]⟩, ⟨#[98]⟩, ⟨#[115, 101, 110, 100]⟩, ⟨#[103, 101, 116]⟩, ⟨#[120, 55]⟩]
theorem nmV_mem {v : ByteArray} (h : v ∈ nmV) : drawnN v.data.toList := by
  unfold nmV at h
  rcases List.mem_cons.1 h with rfl | h
  · exact .inl rfl
  rcases List.mem_cons.1 h with rfl | h
  · exact .inr (.inl rfl)
  rcases List.mem_cons.1 h with rfl | h
  · exact .inr (.inr (.inl rfl))
  rcases List.mem_cons.1 h with rfl | h
  · exact .inr (.inr (.inr (.inl rfl)))
  rcases List.mem_cons.1 h with rfl | h
  · exact .inr (.inr (.inr (.inr rfl)))
  cases h
theorem mod_snoc {vs : List Int} {x : Nat} (h : vs.all inMod = true) (hx : x < 64) : (vs ++ [(x : Int)]).all inMod = true := by
  rw [List.all_append, h]
  simp [inMod]
  omega
set_option maxRecDepth 100000 in
set_option maxHeartbeats 4000000 in
theorem r8Label_any (A : Option Addr) (n c : Nat) (xs : List Int) (w : World) (hx : BySrc w w.heap.size A xs) (l : xs.length = n) (m : n ≤ 1048576) (hb : ∀ u ∈ xs, 0 ≤ u ∧ u ≤ 255) :
    Calls Tryd.prog 5 #[.slice A n c] w fun e w' => ∃ (nm : ByteArray) (vs : List Int) (A' : Option Addr) (n' c' : Nat), drawnN nm.data.toList ∧ n' ≤ 2 ∧ vs.all inMod = true ∧ vs.length = n' ∧ e = .returned (.tuple #[.string nm, .slice A' n' c']) ∧ w'.ownsRow w.heap.size 2 1 (.slice A' n' c') n' (vs.map (Value.int .i64)) ∧ Below w.heap.size w w' := by
  have L := Lib.hid l
  have HBB := Lib.hid hb
  clear l hb
  go_enter Tryd.func5, Tryd.ntmps5
  go_wp2_with fail
  refine (from_any A n c w).mono ?_; rintro e w0 ⟨rfl, hs0, hb0⟩
  have hz0 := hs0.lt
  have HS0 := Lib.hid (hs0.alloc (.cells (nmV.map Value.string).toArray 9))
  have HB0 := Lib.hid (hb0.alloc (by omega) (.cells (nmV.map Value.string).toArray 9))
  have HR0 := Lib.hid (lit_rowV w0 nmV 9)
  have hza : (w0.alloc (.cells (nmV.map Value.string).toArray 9)).heap.size = w0.heap.size + 1 := by simp
  have C1 := text_any w.heap.size w.heap.size A n c 0 xs _ w.heap.size HS0.out (hx.below HB0.out) (Nat.le_refl _) L.out m (by omega) HBB.out (some ⟨w0.heap.size, 0, none⟩) 5 5 nmV (w0.heap.size + 1) HR0.out (by omega) (fun b o e => by injection e with e; injection e with e1 e2; omega) rfl (by omega) (by omega)
  clear hs0 hb0
  go_wp2_with fail
  refine C1.mono ?_; rintro e w1 ⟨k1, nm, hk1, hv1, rfl, hs1, hg1⟩
  have hnm := nmV_mem hv1
  have hz1 := hg1.size
  have HNM := Lib.hid hnm
  have HB1' := HB0.out.grown hg1 (by omega) (fun g e => by cases e; exact Nat.le_refl _)
  have HS1 := Lib.hid (hs1.alloc (.cells #[] 2))
  have HB1 := Lib.hid (HB1'.alloc (by omega) (.cells #[] 2))
  have HM1 := Lib.hid (show (w1.alloc (.cells #[] 2)).ownsRow w1.heap.size 2 1 (.slice (some ⟨w1.heap.size, 0, none⟩) 0 0) 0 (([] : List Int).map (Value.int .i64)) from World.ownsRow_made (e := 2) (size := 1) w1 #[] 0 (Nat.le_refl _) (Nat.zero_le _) rfl)
  have hzb : (w1.alloc (.cells #[] 2)).heap.size = w1.heap.size + 1 := by simp
  have C2 := pick_any 3 w.heap.size w.heap.size A n c k1 xs _ w.heap.size HS1.out (hx.below HB1.out) (Nat.le_refl _) L.out m (by omega) HBB.out (by omega) (by omega)
  clear hs1 hg1 HB1' hv1 hnm C1 HS0 HB0 HR0
  go_wp2_with fail
  refine C2.mono ?_; rintro e w2 ⟨k2, hk2, x2, hx2, rfl, hs2, hg2⟩
  have hz2 := hg2.size
  have HS2 := Lib.hid hs2
  have HB2 := Lib.hid (HB1.out.grown hg2 (by omega) (fun g e => by cases e; exact Nat.le_refl _))
  have HM2 := Lib.hid (own_keptL HM1.out hg2 (by omega))
  clear hs2 hg2 C2 HS1 HB1 HM1
  go_wp2
  go_loopw [6, 7] (fun v i wr => ∃ (t k : Nat) (vs : List Int) (A' : Option Addr) (c' : Nat), t + vs.length = x2 ∧ i = .int .i64 (t : Int) ∧ v = .slice A' vs.length c' ∧ k ≤ 2 + vs.length ∧ vs.all inMod = true ∧ Hid (wr.ownsRow w1.heap.size 2 1 (.slice A' vs.length c') vs.length (vs.map (Value.int .i64))) ∧ Hid (Src wr w.heap.size w.heap.size A n c k) ∧ Hid (Below w.heap.size w wr) ∧ w1.heap.size ≤ wr.heap.size) (fun _ i _ => (intOf i).toNat)
  case atStart => exact ⟨x2, k2, [], some ⟨w1.heap.size, 0, none⟩, 0, by simp, rfl, rfl, by simp; omega, rfl, HM2, HS2, HB2, by omega⟩
  case round =>
    clear HM2 HS2 HB2
    obtain ⟨t, k, vs, A', c', ht, rfl, rfl, hk, hall, HO, HS, HB, hzr⟩ := hrel
    obtain ⟨q, hq⟩ : ∃ q, q = vs.length := ⟨_, rfl⟩
    rw [← hq] at HO ht hk ⊢
    have HQ := Lib.hid hq
    have HA := Lib.hid hall
    clear hq hall
    rcases Nat.eq_zero_or_pos t with h0 | h0
    · subst h0
      have HO4 := Lib.hid (own_lowerS HO.out (show w.heap.size ≤ w1.heap.size by omega))
      go_wp2
      go_ret2
      exact ⟨nm, vs, A', q, c', HNM.out, by omega, HA.out, HQ.out.symm, rfl, HO4.out, HB.out⟩
    · have htp : (0 : Int) < (t : Int) := by omega
      have C := pick_any 64 w.heap.size w.heap.size A n c k xs wr w.heap.size HS.out (hx.below HB.out) (Nat.le_refl _) L.out m (by omega) HBB.out (by omega) (by omega)
      have hw : w.heap.size < w1.heap.size := by omega
      go_wp2_with fail
      refine C.mono ?_; rintro e w3 ⟨k3, hk3, x3, hx3, rfl, hs3, hg3⟩
      have hz3 := hg3.size
      have HS3 := Lib.hid (hs3.alloc (.cells #[.int .i64 (x3 : Int)] 2))
      have HB3 := Lib.hid ((HB.out.grown hg3 (by omega) (fun g e => by cases e; exact Nat.le_refl _)).alloc (by omega) (.cells #[.int .i64 (x3 : Int)] 2))
      have HO3 := Lib.hid ((own_keptL HO.out hg3 hw).alloc (.cells #[.int .i64 (x3 : Int)] 2))
      have HA3 := Lib.hid (mod_snoc HA.out hx3)
      have HQ3 := Lib.hid (show (vs ++ [(x3 : Int)]).length = q + 1 by rw [List.length_append, HQ.out]; rfl)
      have htw : IntKind.i64.wrap ((t : Int) - 1) = ((t - 1 : Nat) : Int) := by rw [IntKind.wrap_i64]; omega
      clear hs3 hg3 C
      go_wp2_with (at_builtin; refine wpList_append_iL rfl _ _ rfl _ w1.heap.size (.slice A' q c') q vs rfl (by exact HO3.out) w3.heap.size 1 (x3 : Int) rfl (by exact cell_one1 _ _ _) (by omega) (by simp; omega) ?_; intro A7 c7 w7 ho hg; have HO7 := Lib.hid ho; have HS7 := Lib.hid (HS3.out.other hg (fun g e => by have := (HO3.out.lt g e).1; omega)); have HB7 := Lib.hid (HB3.out.grown hg (by simp; omega) (fun g e => by have := (HO3.out.lt g e).1; omega)); have hz7 := hg.size; have hz8 : w1.heap.size ≤ w7.heap.size := (by simp at hz7; omega); clear ho hg hz7)
      go_roundw
      case rel => exact ⟨t - 1, k3, vs ++ [(x3 : Int)], A7, c7, by rw [HQ3.out]; omega, by first | rfl | go_num | (rw [htw]), by rw [HQ3.out], by rw [HQ3.out]; omega, HA3.out, Lib.hid (by rw [HQ3.out]; exact HO7.out), HS7, HB7, hz8⟩
      case measure => simp [intOf] <;> omega
set_option maxRecDepth 100000 in
set_option maxHeartbeats 2000000 in
theorem r8SameL_any (A1 A2 : Option Addr) (n1 n2 c1 c2 : Nat) (xs ys : List Int) (w : World) (B : Nat) (h1 : IRow w B A1 xs) (h2 : IRow w B A2 ys) (hB : B ≤ w.heap.size) (l1 : xs.length = n1) (l2 : ys.length = n2) (m1 : n1 ≤ 2000000) (m2 : n2 ≤ 2000000) :
    Calls Tryd.prog 10 #[.slice A1 n1 c1, .slice A2 n2 c2] w fun e w' => e = .returned (.bool (decide (xs = ys))) ∧ Drawn w w' := by
  have L1 := Lib.hid l1
  have L2 := Lib.hid l2
  have H1 := Lib.hid h1
  have H2 := Lib.hid h2
  by_cases hn : n1 = n2
  case neg =>
    have HF := Lib.hid (show decide (xs = ys) = false from decide_eq_false (fun e => hn (by rw [← l1, ← l2, e])))
    have hne : ((n1 : Int) != (n2 : Int)) = true := by simp; omega
    clear l1 l2 h1 h2 hn
    go_enter Tryd.func10, Tryd.ntmps10
    go_wp2
    go_ret
    exact ⟨by rw [HF.out]; rfl, Drawn.refl _⟩
  subst hn
  clear l1 l2 h1 h2
  have hne : ((n1 : Int) != (n1 : Int)) = false := by simp
  go_enter Tryd.func10, Tryd.ntmps10
  go_wp2
  go_loopw [5] (fun i wr => ∃ j : Nat, j ≤ n1 ∧ i = .int .i64 (j : Int) ∧ Hid (Drawn w wr) ∧ Hid (xs.take j = ys.take j)) (fun i _ => n1 - (intOf i).toNat)
  case atStart => exact ⟨0, Nat.zero_le _, rfl, Lib.hid (Drawn.refl _), Lib.hid rfl⟩
  case round =>
    obtain ⟨j, hj, rfl, HD, HE⟩ := hrel
    by_cases hlt : j < n1
    · obtain ⟨b1, o1, u, rfl, hb1, r1, hu⟩ := (H1.out.drawn HD.out).at_ (k := j) (by rw [L1.out]; exact hlt)
      obtain ⟨b2, o2, v, rfl, hb2, r2, hv⟩ := (H2.out.drawn HD.out).at_ (k := j) (by rw [L2.out]; exact hlt)
      have lb1 := World.block_lt_of_cell? wr _ r1
      have lb2 := World.block_lt_of_cell? wr _ r2
      by_cases e : u = v
      · have HN := Lib.hid (show xs.take (j + 1) = ys.take (j + 1) by rw [take_one _ _ _ hu.out, take_one _ _ _ hv.out, HE.out, e])
        have hq : (u != v) = false := by simp [e]
        clear e
        go_wp2
        go_quiet (fail)
        go_wp2
        go_roundw
        case rel => exact ⟨j + 1, by omega, by go_num, Lib.hid (HD.out.drewN _), HN⟩
        case measure => simp [intOf]; omega
      · have HF := Lib.hid (show decide (xs = ys) = false from decide_eq_false (fun h => e (by have h1 := hu.out; rw [h, hv.out] at h1; injection h1 with h1; exact h1.symm)))
        have hq : (u != v) = true := by simp [e]
        clear e
        go_wp2
        go_quiet (fail)
        go_wp2
        go_ret
        exact ⟨by rw [HF.out]; rfl, HD.out.drewN _⟩
    · have HF := Lib.hid (show decide (xs = ys) = true from decide_eq_true (by
        have h := HE.out
        rwa [List.take_of_length_le (by rw [L1.out]; omega), List.take_of_length_le (by rw [L2.out]; omega)] at h))
      go_wp2
      go_ret
      exact ⟨by rw [HF.out]; rfl, HD.out⟩
set_option maxRecDepth 100000 in
theorem l00OwnL_any (g m c : Nat) (xs : List Int) (w : World) (B : Nat) (h : w.ownsRow B 2 1 (.slice (some ⟨g, 0, none⟩) m c) m (xs.map (Value.int .i64))) (l : xs.length = m) (hm : m ≤ 1000) :
    Calls Tryd.prog 21 #[.slice (some ⟨g, 0, none⟩) m c] w fun e w' => ∃ A' c', e = .returned (.slice A' m c') ∧ w'.ownsRow w.heap.size 2 1 (.slice A' m c') m (xs.map (Value.int .i64)) ∧ Below w.heap.size w w' := by
  obtain ⟨i0, hi, hz0, hz1, hz2⟩ := info_parts (show (Tryd.prog.info? 2).map (fun i => (i.zero, i.size, i.bytes)) = some (some (.int .i64 0), 1, 8) by kernel_rfl)
  have HM := Lib.hid (show (w.alloc (.cells #[] 2)).ownsRow w.heap.size 2 1 (.slice (some ⟨w.heap.size, 0, none⟩) 0 0) 0 [] from World.ownsRow_made (e := 2) (size := 1) w #[] 0 (Nat.le_refl _) (Nat.zero_le _) rfl)
  have HC := Lib.hid (fun (j : Nat) (u : Value) (hj : (xs.map (Value.int .i64))[j]? = some u) => ((h.alloc (.cells #[] 2)).cells (g := g) rfl j u hj))
  have L := Lib.hid l
  clear h l
  go_enter Tryd.func21, Tryd.ntmps21
  go_wp2_with (at_builtin; refine wpList_append_own _ rfl _ _ 24 rfl w.heap.size 2 i0 (.int .i64 0) 1 8 Tryd.underlying24 hi hz0 hz1 hz2 rfl (by decide) (.slice (some ⟨w.heap.size, 0, none⟩) 0 0) 0 [] rfl (by exact HM.out) ⟨g, 0, none⟩ m c (xs.map (Value.int .i64)) rfl (by rw [List.length_map, L.out]; omega) (by exact HC.out) (by intro u hu; obtain ⟨_, _, rfl⟩ := List.mem_map.1 hu; rfl) (by unfold maxLen; omega) (by omega) (by simp) ?_; intro v' w' ho hg _; obtain ⟨A', c', rfl⟩ := own_sliceL ho; have HO := Lib.hid ho; have HG := Lib.hid hg; clear ho hg)
  go_ret
  exact ⟨A', c', rfl, by have h := HO.out; rw [Nat.zero_add, List.nil_append] at h; exact h, ((Below.refl _ _).alloc (Nat.le_refl _) _).grown HG.out (by simp) (fun g e => by cases e; exact Nat.le_refl _)⟩
theorem ownsRow_succL {W : World} {base : Nat} {e : TypeId} {size : Nat} {v : Value} {k : Nat} {xs : List Value} (h : W.ownsRow base e size v (k + 1) xs) : ∃ g cap, v = .slice (some ⟨g, 0, none⟩) (k + 1) cap := by
  rcases h.2 with ⟨_, h0⟩ | ⟨g, cap, _, rfl, _⟩
  · omega
  · exact ⟨g, cap, rfl⟩
theorem own_belowL {w w' : World} {lo n : Nat} {T : TypeId} {s : Nat} {v : Value} {vs : List Value} (h : w.ownsRow lo T s v n vs) (hb : Below w.heap.size w w') : w'.ownsRow lo T s v n vs := own_below' h hb
theorem irow_ofL {w : World} {lo n c : Nat} {A : Option Addr} {xs : List Int} (h : w.ownsRow lo 2 1 (.slice A n c) n (xs.map (Value.int .i64))) : IRow w w.heap.size A xs := by
  intro hp
  obtain ⟨b, off, e, hb, hc⟩ := Row.of_own h hp
  exact ⟨b, off, e, hb, hc⟩
set_option maxRecDepth 100000 in
set_option maxHeartbeats 4000000 in
theorem r8Lists_any (A : Option Addr) (n c : Nat) (xs : List Int) (w : World) (hx : BySrc w w.heap.size A xs) (l : xs.length = n) (m : n ≤ 1048576) (hb : ∀ u ∈ xs, 0 ≤ u ∧ u ≤ 255) :
    Calls Tryd.prog 11 #[.slice A n c] w fun e w' => ∃ (av bs : List Int) (A1 : Option Addr) (n1 c1 : Nat) (A2 : Option Addr) (n2 c2 : Nat), av.length = n1 ∧ bs.length = n2 ∧ n1 ≤ 10 ∧ n2 ≤ 10 ∧ e = .returned (.tuple #[.slice A1 n1 c1, .slice A2 n2 c2]) ∧ IRow w' w'.heap.size A1 av ∧ IRow w' w'.heap.size A2 bs ∧ Below w.heap.size w w' := by
  have L := Lib.hid l
  have HBB := Lib.hid hb
  clear l hb
  go_enter Tryd.func11, Tryd.ntmps11
  go_wp2_with fail
  refine (from_any A n c w).mono ?_; rintro e w1 ⟨rfl, hs1, hb1⟩
  have hz1 := hs1.lt
  have HS1 := Lib.hid (hs1.alloc (.cells #[] 2))
  have HB1 := Lib.hid (hb1.alloc (by omega) (.cells #[] 2))
  have HM1 := Lib.hid (show (w1.alloc (.cells #[] 2)).ownsRow w1.heap.size 2 1 (.slice (some ⟨w1.heap.size, 0, none⟩) 0 0) 0 (([] : List Int).map (Value.int .i64)) from World.ownsRow_made (e := 2) (size := 1) w1 #[] 0 (Nat.le_refl _) (Nat.zero_le _) rfl)
  have hzb : (w1.alloc (.cells #[] 2)).heap.size = w1.heap.size + 1 := by simp
  have C2 := pick_any 5 w.heap.size w.heap.size A n c 0 xs _ w.heap.size HS1.out (hx.below HB1.out) (Nat.le_refl _) L.out m (by omega) HBB.out (by omega) (by omega)
  clear hs1 hb1
  go_wp2_with fail
  refine C2.mono ?_; rintro e w2 ⟨k2, hk2, x2, hx2, rfl, hs2, hg2⟩
  have hz2 := hg2.size
  have HS2 := Lib.hid hs2
  have HB2 := Lib.hid (HB1.out.grown hg2 (by omega) (fun g e => by cases e; exact Nat.le_refl _))
  have HM2 := Lib.hid (own_keptL HM1.out hg2 (by omega))
  have hlw : w.heap.size < w1.heap.size := by omega
  clear hs2 hg2 C2 HS1 HB1 HM1
  go_wp2
  go_loopw [5, 6] (fun v i wr => ∃ (t k : Nat) (av : List Int) (g c' : Nat), t + av.length = x2 ∧ i = .int .i64 (t : Int) ∧ v = .slice (some ⟨g, 0, none⟩) av.length c' ∧ k ≤ 1 + av.length ∧ Hid (wr.ownsRow w1.heap.size 2 1 (.slice (some ⟨g, 0, none⟩) av.length c') av.length (av.map (Value.int .i64))) ∧ Hid (Src wr w.heap.size w.heap.size A n c k) ∧ Hid (Below w.heap.size w wr) ∧ w1.heap.size ≤ wr.heap.size) (fun _ i _ => (intOf i).toNat)
  case atStart => exact ⟨x2, k2, [], w1.heap.size, 0, by simp, rfl, rfl, by simp; omega, HM2, HS2, HB2, by omega⟩
  case round =>
    clear HM2 HS2 HB2
    obtain ⟨t, k, av, g, c', ht, rfl, rfl, hk, HO, HS, HB, hzr⟩ := hrel
    obtain ⟨q, hq⟩ : ∃ q, q = av.length := ⟨_, rfl⟩
    rw [← hq] at HO ht hk ⊢
    have HQ := Lib.hid hq
    clear hq
    rcases Nat.eq_zero_or_pos t with h0 | h0
    · subst h0
      have hq5 : q ≤ 5 := by omega
      obtain ⟨hi1, hhi⟩ : ∃ hi1, hi1 = wr.heap.size := ⟨_, rfl⟩
      have hgw := (HO.out.lt g rfl).2
      have hgl := (HO.out.lt g rfl).1
      have hghi : g < hi1 := by omega
      have C3 := l00OwnL_any g q c' av wr w1.heap.size HO.out HQ.out.symm (by omega)
      rw [← hhi] at C3
      go_wp2_with fail
      refine C3.mono ?_; rintro e w3 ⟨A2, c2, rfl, hO3, hb3⟩
      have hz3 : hi1 ≤ w3.heap.size := by have := hb3.size; omega
      have HAQ3 := Lib.hid (own_belowL HO.out (by rw [← hhi]; exact hb3))
      have HS3 := Lib.hid (Src.below HS.out (by rw [← hhi]; exact hb3))
      have HB3 := Lib.hid (HB.out.trans (hb3.mono (by omega)))
      have HO3 := Lib.hid hO3
      have hlw2 : w.heap.size < hi1 := by omega
      clear hO3 hb3 C3 hhi
      have C4 := pick_any 3 w.heap.size w.heap.size A n c k xs w3 w.heap.size HS3.out (hx.below HB3.out) (Nat.le_refl _) L.out m (by omega) HBB.out (by omega) (by omega)
      go_wp2_with fail
      refine C4.mono ?_; rintro e w4 ⟨k4, hk4, x4, hx4, rfl, hs4, hg4⟩
      have hz4 := hg4.size
      have HSQ := Lib.hid hs4
      have HBQ := Lib.hid (HB3.out.grown hg4 (by omega) (fun g e => by cases e; exact Nat.le_refl _))
      have HAQ := Lib.hid (own_keptL HAQ3.out hg4 hlw)
      have HOQ := Lib.hid (own_keptL HO3.out hg4 hlw2)
      clear hs4 hg4 C4
      have HYL := Lib.hid HQ.out.symm
      rcases Nat.eq_zero_or_pos x4 with h4 | h4
      · subst h4
        have C6 := one_any 3 w.heap.size w.heap.size A n c k4 xs w4 w.heap.size HSQ.out (hx.below HBQ.out) (Nat.le_refl _) L.out m (by omega) HBB.out (by omega) (by omega)
        go_wp2_with fail
        refine C6.mono ?_; rintro e w8 ⟨k8, b8, hk8, rfl, hs8, hg8⟩
        have hz8 := hg8.size
        have HS8 := Lib.hid hs8
        have HB8 := Lib.hid (HBQ.out.grown hg8 (by omega) (fun g e => by cases e; exact Nat.le_refl _))
        have HA8 := Lib.hid (own_keptL HAQ.out hg8 hlw)
        have HO8 := Lib.hid (own_keptL HOQ.out hg8 hlw2)
        clear hs8 hg8 C6
        rcases b8 with _ | _
        · go_wp2
          go_ret2
          exact ⟨av, av, some ⟨g, 0, none⟩, q, c', A2, q, c2, HQ.out.symm, HYL.out, by omega, by omega, rfl, irow_ofL HA8.out, irow_ofL HO8.out, HB8.out⟩
        · have C7 := pick_any 3 w.heap.size w.heap.size A n c k8 xs w8 w.heap.size HS8.out (hx.below HB8.out) (Nat.le_refl _) L.out m (by omega) HBB.out (by omega) (by omega)
          go_wp2_with fail
          refine C7.mono ?_; rintro e w9 ⟨k9, hk9, x9, hx9, rfl, hs9, hg9⟩
          have hz9 := hg9.size
          have HB9 := Lib.hid ((HB8.out.grown hg9 (by omega) (fun g e => by cases e; exact Nat.le_refl _)).alloc (by omega) (.cells #[.int .i64 (x9 : Int)] 2))
          have HA9 := Lib.hid ((own_keptL HA8.out hg9 hlw).alloc (.cells #[.int .i64 (x9 : Int)] 2))
          have HO9 := Lib.hid ((own_keptL HO8.out hg9 hlw2).alloc (.cells #[.int .i64 (x9 : Int)] 2))
          clear hs9 hg9 C7
          go_wp2_with (at_builtin; refine wpList_append_iL rfl _ _ rfl _ hi1 (.slice A2 q c2) q av rfl (by exact HO9.out) w9.heap.size 1 (x9 : Int) rfl (by exact cell_one1 _ _ _) (by omega) (by simp; omega) ?_; intro A7 c7 w7 ho hg; have HO7 := Lib.hid ho; have HA7 := Lib.hid (HA9.out.kept hg (.inr (fun e => by have h1 := (HO9.out.lt g (by rw [← e]; rfl)).1; omega))); have HB7 := Lib.hid (HB9.out.grown hg (by simp; omega) (fun g e => by have := (HO9.out.lt g e).1; omega)); clear ho hg)
          go_ret2
          exact ⟨av, av ++ [(x9 : Int)], some ⟨g, 0, none⟩, q, c', A7, q + 1, c7, HQ.out.symm, by rw [List.length_append, HYL.out]; rfl, by omega, by omega, rfl, irow_ofL HA7.out, irow_ofL HO7.out, HB7.out⟩
      · have hx4p : (0 : Int) < (x4 : Int) := by omega
        rcases Nat.eq_zero_or_pos q with h5 | h5
        · subst h5
          have C6 := one_any 3 w.heap.size w.heap.size A n c k4 xs w4 w.heap.size HSQ.out (hx.below HBQ.out) (Nat.le_refl _) L.out m (by omega) HBB.out (by omega) (by omega)
          go_wp2_with fail
          refine C6.mono ?_; rintro e w8 ⟨k8, b8, hk8, rfl, hs8, hg8⟩
          have hz8 := hg8.size
          have HS8 := Lib.hid hs8
          have HB8 := Lib.hid (HBQ.out.grown hg8 (by omega) (fun g e => by cases e; exact Nat.le_refl _))
          have HA8 := Lib.hid (own_keptL HAQ.out hg8 hlw)
          have HO8 := Lib.hid (own_keptL HOQ.out hg8 hlw2)
          clear hs8 hg8 C6
          rcases b8 with _ | _
          · go_wp2
            go_ret2
            exact ⟨av, av, some ⟨g, 0, none⟩, 0, c', A2, 0, c2, HQ.out.symm, HYL.out, by omega, by omega, rfl, irow_ofL HA8.out, irow_ofL HO8.out, HB8.out⟩
          · have C7 := pick_any 3 w.heap.size w.heap.size A n c k8 xs w8 w.heap.size HS8.out (hx.below HB8.out) (Nat.le_refl _) L.out m (by omega) HBB.out (by omega) (by omega)
            go_wp2_with fail
            refine C7.mono ?_; rintro e w9 ⟨k9, hk9, x9, hx9, rfl, hs9, hg9⟩
            have hz9 := hg9.size
            have HB9 := Lib.hid ((HB8.out.grown hg9 (by omega) (fun g e => by cases e; exact Nat.le_refl _)).alloc (by omega) (.cells #[.int .i64 (x9 : Int)] 2))
            have HA9 := Lib.hid ((own_keptL HA8.out hg9 hlw).alloc (.cells #[.int .i64 (x9 : Int)] 2))
            have HO9 := Lib.hid ((own_keptL HO8.out hg9 hlw2).alloc (.cells #[.int .i64 (x9 : Int)] 2))
            clear hs9 hg9 C7
            go_wp2_with (at_builtin; refine wpList_append_iL rfl _ _ rfl _ hi1 (.slice A2 0 c2) 0 av rfl (by exact HO9.out) w9.heap.size 1 (x9 : Int) rfl (by exact cell_one1 _ _ _) (by omega) (by simp; omega) ?_; intro A7 c7 w7 ho hg; have HO7 := Lib.hid ho; have HA7 := Lib.hid (HA9.out.kept hg (.inr (fun e => by have h1 := (HO9.out.lt g (by rw [← e]; rfl)).1; omega))); have HB7 := Lib.hid (HB9.out.grown hg (by simp; omega) (fun g e => by have := (HO9.out.lt g e).1; omega)); clear ho hg)
            go_ret2
            exact ⟨av, av ++ [(x9 : Int)], some ⟨g, 0, none⟩, 0, c', A7, 0 + 1, c7, HQ.out.symm, by rw [List.length_append, HYL.out]; rfl, by omega, by omega, rfl, irow_ofL HA7.out, irow_ofL HO7.out, HB7.out⟩
        · have hqp : (0 : Int) < (q : Int) := by omega
          obtain ⟨g2, rfl⟩ : ∃ g2, A2 = some ⟨g2, 0, none⟩ := by
            rcases HOQ.out.2 with ⟨e, h0⟩ | ⟨g2, cap, cur, e, _⟩
            · omega
            · injection e with e _ _; exact ⟨g2, e⟩
          have hg2l := (HOQ.out.lt g2 rfl)
          have C5 := pick_any q w.heap.size w.heap.size A n c k4 xs w4 w.heap.size HSQ.out (hx.below HBQ.out) (Nat.le_refl _) L.out m (by omega) HBB.out (by omega) (by omega)
          go_wp2_with fail
          refine C5.mono ?_; rintro e w5 ⟨k5, hk5, x5, hx5, rfl, hs5, hg5⟩
          have hz5 := hg5.size
          have HS5 := Lib.hid hs5
          have HB5 := Lib.hid (HBQ.out.grown hg5 (by omega) (fun g e => by cases e; exact Nat.le_refl _))
          have HA5 := Lib.hid (own_keptL HAQ.out hg5 hlw)
          have HO5 := Lib.hid (own_keptL HOQ.out hg5 hlw2)
          have C5' := pick_any 3 w.heap.size w.heap.size A n c k5 xs w5 w.heap.size HS5.out (hx.below HB5.out) (Nat.le_refl _) L.out m (by omega) HBB.out (by omega) (by omega)
          clear hs5 hg5 C5
          go_wp2_with fail
          refine C5'.mono ?_; rintro e w6 ⟨k6, hk6, x6, hx6, rfl, hs6, hg6⟩
          have hz6 := hg6.size
          have HO6 := Lib.hid (own_keptL HO5.out hg6 hlw2)
          obtain ⟨⟨old0, hx0⟩, hf0⟩ := own_some HO6.out (k := x5) (by omega)
          obtain ⟨w7, hw7⟩ : ∃ w7, w7 = w6.setCell ⟨g2, x5, none⟩ (.int .i64 (x6 : Int)) := ⟨_, rfl⟩
          have hst := HO6.out.stored x5 (.int .i64 (x6 : Int))
          have hgr : w6.grownBy w7 (some g2) := by rw [hw7]; exact hst.2
          have hz7 := hgr.size
          have HSQ := Lib.hid ((hs6).other hgr (fun g e => by cases e; omega))
          have HBQ := Lib.hid ((HB5.out.grown hg6 (by omega) (fun g e => by cases e; exact Nat.le_refl _)).grown hgr (by omega) (fun g e => by cases e; omega))
          have HAQ := Lib.hid ((own_keptL HA5.out hg6 hlw).kept hgr (.inr (by simp [Value.ownBlock]; omega)))
          have HOQ := Lib.hid (show w7.ownsRow hi1 2 1 (.slice (some ⟨g2, 0, none⟩) q c2) q ((av.set x5 (x6 : Int)).map (Value.int .i64)) by rw [hw7, List.map_set]; exact hst.1)
          have HYL := Lib.hid (show (av.set x5 (x6 : Int)).length = q by rw [List.length_set]; exact HQ.out.symm)
          have hg2w : g2 < w6.heap.size := by omega
          have HW7 := Lib.hid hw7
          clear hs6 hg6 C5' hst hgr hw7
          go_wp2_with fail
          rw [← HW7.out]
          have C6 := one_any 3 w.heap.size w.heap.size A n c k6 xs w7 w.heap.size HSQ.out (hx.below HBQ.out) (Nat.le_refl _) L.out m (by omega) HBB.out (by omega) (by omega)
          refine C6.mono ?_; rintro e w8 ⟨k8, b8, hk8, rfl, hs8, hg8⟩
          have hz8 := hg8.size
          have HS8 := Lib.hid hs8
          have HB8 := Lib.hid (HBQ.out.grown hg8 (by omega) (fun g e => by cases e; exact Nat.le_refl _))
          have HA8 := Lib.hid (own_keptL HAQ.out hg8 hlw)
          have HO8 := Lib.hid (own_keptL HOQ.out hg8 hlw2)
          clear hs8 hg8 C6
          rcases b8 with _ | _
          · go_wp2
            go_ret2
            exact ⟨av, (av.set x5 (x6 : Int)), some ⟨g, 0, none⟩, q, c', (some ⟨g2, 0, none⟩), q, c2, HQ.out.symm, HYL.out, by omega, by omega, rfl, irow_ofL HA8.out, irow_ofL HO8.out, HB8.out⟩
          · have C7 := pick_any 3 w.heap.size w.heap.size A n c k8 xs w8 w.heap.size HS8.out (hx.below HB8.out) (Nat.le_refl _) L.out m (by omega) HBB.out (by omega) (by omega)
            go_wp2_with fail
            refine C7.mono ?_; rintro e w9 ⟨k9, hk9, x9, hx9, rfl, hs9, hg9⟩
            have hz9 := hg9.size
            have HB9 := Lib.hid ((HB8.out.grown hg9 (by omega) (fun g e => by cases e; exact Nat.le_refl _)).alloc (by omega) (.cells #[.int .i64 (x9 : Int)] 2))
            have HA9 := Lib.hid ((own_keptL HA8.out hg9 hlw).alloc (.cells #[.int .i64 (x9 : Int)] 2))
            have HO9 := Lib.hid ((own_keptL HO8.out hg9 hlw2).alloc (.cells #[.int .i64 (x9 : Int)] 2))
            clear hs9 hg9 C7
            go_wp2_with (at_builtin; refine wpList_append_iL rfl _ _ rfl _ hi1 (.slice (some ⟨g2, 0, none⟩) q c2) q (av.set x5 (x6 : Int)) rfl (by exact HO9.out) w9.heap.size 1 (x9 : Int) rfl (by exact cell_one1 _ _ _) (by omega) (by simp; omega) ?_; intro A7 c7 w7 ho hg; have HO7 := Lib.hid ho; have HA7 := Lib.hid (HA9.out.kept hg (.inr (fun e => by have h1 := (HO9.out.lt g (by rw [← e]; rfl)).1; omega))); have HB7 := Lib.hid (HB9.out.grown hg (by simp; omega) (fun g e => by have := (HO9.out.lt g e).1; omega)); clear ho hg)
            go_ret2
            exact ⟨av, (av.set x5 (x6 : Int)) ++ [(x9 : Int)], some ⟨g, 0, none⟩, q, c', A7, q + 1, c7, HQ.out.symm, by rw [List.length_append, HYL.out]; rfl, by omega, by omega, rfl, irow_ofL HA7.out, irow_ofL HO7.out, HB7.out⟩
    · have htp : (0 : Int) < (t : Int) := by omega
      have C := pick_any 3 w.heap.size w.heap.size A n c k xs wr w.heap.size HS.out (hx.below HB.out) (Nat.le_refl _) L.out m (by omega) HBB.out (by omega) (by omega)
      go_wp2_with fail
      refine C.mono ?_; rintro e w3 ⟨k3, hk3, x3, hx3, rfl, hs3, hg3⟩
      have hz3 := hg3.size
      have HS3 := Lib.hid (hs3.alloc (.cells #[.int .i64 (x3 : Int)] 2))
      have HB3 := Lib.hid ((HB.out.grown hg3 (by omega) (fun g e => by cases e; exact Nat.le_refl _)).alloc (by omega) (.cells #[.int .i64 (x3 : Int)] 2))
      have HO3 := Lib.hid ((own_keptL HO.out hg3 hlw).alloc (.cells #[.int .i64 (x3 : Int)] 2))
      have HQ3 := Lib.hid (show (av ++ [(x3 : Int)]).length = q + 1 by rw [List.length_append, HQ.out]; rfl)
      have htw : IntKind.i64.wrap ((t : Int) - 1) = ((t - 1 : Nat) : Int) := by rw [IntKind.wrap_i64]; omega
      clear hs3 hg3 C
      go_wp2_with (at_builtin; refine wpList_append_iL rfl _ _ rfl _ w1.heap.size (.slice (some ⟨g, 0, none⟩) q c') q av rfl (by exact HO3.out) w3.heap.size 1 (x3 : Int) rfl (by exact cell_one1 _ _ _) (by omega) (by simp; omega) ?_; intro A7 c7 w7 ho hg; obtain ⟨g7, c7', e7⟩ := ownsRow_succL ho; injection e7 with e7 _ ec7; subst e7 ec7; have HO7 := Lib.hid ho; have HS7 := Lib.hid (HS3.out.other hg (fun g e => by have := (HO3.out.lt g e).1; omega)); have HB7 := Lib.hid (HB3.out.grown hg (by simp; omega) (fun g e => by have := (HO3.out.lt g e).1; omega)); have hz7 := hg.size; have hz8 : w1.heap.size ≤ w7.heap.size := (by simp at hz7; omega); clear ho hg hz7)
      go_roundw
      case rel => exact ⟨t - 1, k3, av ++ [(x3 : Int)], g7, c7, by rw [HQ3.out]; omega, by first | rfl | go_num | (rw [htw]), by rw [HQ3.out], by rw [HQ3.out]; omega, Lib.hid (by rw [HQ3.out]; exact HO7.out), HS7, HB7, hz8⟩
      case measure => simp [intOf] <;> omega
end Go.Proofs.YtbgmhndmldekbaaDoor
