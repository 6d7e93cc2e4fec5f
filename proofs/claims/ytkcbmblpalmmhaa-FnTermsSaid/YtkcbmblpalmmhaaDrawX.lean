/- The expression that the model draws. -/
import Derived.Test.YtkcbmblpalmmhaaProg
import Derived.WalkKit
import Derived.ProofKit
import Derived.OwnWalk
import Derived.Outline
import Derived.Lib.Hide
import Derived.Test.YtkcbmblpalmmhaaMem
import Derived.Test.YtkcbmblpalmmhaaOwn
import Derived.Test.YtkcbmblpalmmhaaTmM
import Derived.Test.YtkcbmblpalmmhaaTmW
import Derived.Test.YtkcbmblpalmmhaaRet
import Derived.Test.YtkcbmblpalmmhaaApp
import Derived.Test.YtkcbmblpalmmhaaBuildT
import Derived.Test.YtkcbmblpalmmhaaConc
import Derived.Test.YtkcbmblpalmmhaaJoin
import Derived.Test.YtkcbmblpalmmhaaExM
import Derived.Test.YtkcbmblpalmmhaaEvM
import Derived.Test.YtkcbmblpalmmhaaEvN
import Derived.Test.YtkcbmblpalmmhaaFoN
import Derived.Test.YtkcbmblpalmmhaaVarM
import Derived.Test.YtkcbmblpalmmhaaVarW
import Derived.Test.YtkcbmblpalmmhaaSrcB
namespace Go.Proofs.Ytkcbmblpalmmhaa
open Go.RowKit
/-- A change of the source's block, and of blocks beyond. -/
theorem grown_on {w w1 w2 : World} {sb : Nat} {row : Option Nat} (h : w.grownBy w1 (some sb)) (h2 : w1.grownBy w2 row) (hr : ∀ g, row = some g → w.heap.size ≤ g ∨ g = sb) : w.grownBy w2 (some sb) :=
  ⟨h2.os.trans h.os, h2.tape.trans h.tape, h2.output.trans h.output, Nat.le_trans h.size h2.size, fun k hk hne => (h2.block k (Nat.lt_of_lt_of_le hk h.size) (fun e => by
    rcases hr k e.symm with h3 | h3
    · omega
    · exact hne (by rw [h3]))).trans (h.block k hk hne)⟩
theorem grown_onA {w w1 : World} {sb : Nat} (h : w.grownBy w1 (some sb)) (o : Obj) : w.grownBy (w1.alloc o) (some sb) := grown_on h (World.grownBy_alloc w1 o none) (fun g e => by cases e)
theorem Src.alloc {w : World} {lo sb : Nat} {A : Option Addr} {n c k : Nat} (h : Src w lo sb A n c k) (o : Obj) : Src (w.alloc o) lo sb A n c k := h.grownNone (World.grownBy_alloc w o none)
theorem Src.other {w w' : World} {lo sb : Nat} {A : Option Addr} {n c k : Nat} {row : Option Nat} (h : Src w lo sb A n c k) (hg : w.grownBy w' row) (hr : ∀ g, row = some g → g ≠ sb) : Src w' lo sb A n c k := by
  obtain ⟨s, h⟩ := h
  exact ⟨s, h.kept hg (.inr (fun e => hr sb e.symm rfl))⟩
theorem Src.lt {w : World} {lo sb : Nat} {A : Option Addr} {n c k : Nat} (h : Src w lo sb A n c k) : lo ≤ sb ∧ sb < w.heap.size := by
  obtain ⟨s, h⟩ := h
  exact h.lt sb rfl
theorem one_any (mm lo sb : Nat) (A : Option Addr) (n c k : Nat) (xs : List Int) (w : World) (B : Nat) (h : Src w lo sb A n c k) (hx : BRow w B A xs) (hB : B ≤ lo) (l : xs.length = n) (m : n ≤ 1048576) (hk : k ≤ 1000000) (hb : ∀ u ∈ xs, 0 ≤ u ∧ u ≤ 255) (h1 : 1 ≤ mm) (h2 : mm ≤ 200) :
    Calls Try.prog 62 #[.pointer (some ⟨sb, 0, none⟩), .int .i64 mm] w fun e w' => ∃ (k' : Nat) (b : Bool), k' ≤ k + 1 ∧ e = .returned (.bool b) ∧ Src w' lo sb A n c k' ∧ w.grownBy w' (some sb) := by
  have C := Lib.hid (pick_any mm lo sb A n c k xs w B h hx hB l m hk hb h1 h2)
  clear h l hb
  go_enter Try.func62, Try.ntmps62
  go_wp2_with fail
  refine (C.out).mono ?_; rintro e w1 ⟨k', hk', x, hx1, rfl, hs, hg⟩
  have HS := Lib.hid hs
  have HG := Lib.hid hg
  clear hs hg
  rcases Nat.eq_zero_or_pos x with h0 | h0
  · subst h0
    go_wp2
    go_ret
    exact ⟨k', true, hk', rfl, HS.out, HG.out⟩
  · have hxx : ((x : Int) == 0) = false := by simp; omega
    go_wp2
    go_ret
    exact ⟨k', false, hk', rfl, HS.out, HG.out⟩
theorem among_any (lo sb : Nat) (A : Option Addr) (n c k : Nat) (xs : List Int) (w : World) (B : Nat) (h : Src w lo sb A n c k) (hx : BRow w B A xs) (hB : B ≤ lo) (l : xs.length = n) (m : n ≤ 1048576) (hk : k ≤ 1000000) (hb : ∀ u ∈ xs, 0 ≤ u ∧ u ≤ 255)
    (A2 : Option Addr) (n2 c2 : Nat) (ys : List Int) (B2 : Nat) (h2 : IRow w B2 A2 ys) (hB2 : B2 ≤ w.heap.size) (hsb : ∀ b o, A2 = some ⟨b, o, none⟩ → b ≠ sb) (l2 : ys.length = n2) (h3 : 1 ≤ n2) (h4 : n2 ≤ 200) :
    Calls Try.prog 39 #[.pointer (some ⟨sb, 0, none⟩), .slice A2 n2 c2] w fun e w' => ∃ (k' : Nat) (v : Int), k' ≤ k + 1 ∧ v ∈ ys ∧ e = .returned (.int .i64 v) ∧ Src w' lo sb A n c k' ∧ w.grownBy w' (some sb) := by
  have C := Lib.hid (pick_any n2 lo sb A n c k xs w B h hx hB l m hk hb h3 h4)
  have L2 := Lib.hid l2
  clear h l hb l2
  go_enter Try.func39, Try.ntmps39
  go_wp2_with fail
  refine (C.out).mono ?_; rintro e w1 ⟨k', hk', x, hx1, rfl, hs, hg⟩
  obtain ⟨b, o, u, rfl, hb, hc, hu⟩ := h2.at_ (k := x) (by rw [L2.out]; exact hx1)
  have hc1 := hg.cell hc (by intro e; injection e with e; exact hsb b o rfl e)
  have hb1 : b < w1.heap.size := by have := hg.size; omega
  have HS := Lib.hid hs
  have HG := Lib.hid hg
  clear hs hg
  go_wp2
  go_ret
  exact ⟨k', u, hk', List.mem_of_getElem? hu.out, rfl, HS.out, HG.out⟩
theorem lit_row (w : World) (ys : List Int) (T : TypeId) : IRow (w.alloc (.cells (ys.map (Value.int .i64)).toArray T)) (w.heap.size + 1) (some ⟨w.heap.size, 0, none⟩) ys := by
  intro _
  refine ⟨w.heap.size, 0, rfl, by omega, fun i v hv => ?_⟩
  rw [Nat.zero_add, cell_of_row _ _ i _ _ (0, 0) (heap_alloc_new w _)]
  rw [← hv]
  simp
/-- What a draw hands back. -/
def RetX (w : World) (lo sb : Nat) (A : Option Addr) (n c k most d : Nat) (e : Ending) (w' : World) : Prop :=
  ∃ (x : Ex) (k' : Nat) (A2 : Option Addr) (n2 c2 : Nat), x.ok 3 ∧ x.flat.length ≤ most ∧ k' ≤ k + d ∧ e = .returned (.slice A2 n2 c2) ∧ w'.ownsRow w.heap.size 68 2 (.slice A2 n2 c2) n2 (tvs x.flat) ∧ Src w' lo sb A n c k' ∧ w.grownBy w' (some sb)
theorem leaf_ok0 {v : Int} (h : 0 ≤ v ∧ v ≤ 63) : (Ex.leaf ⟨0, v⟩).ok 3 := by
  refine ⟨?_, ar_zero (by simp) (by simp)⟩
  rw [tmB_num rfl]
  exact decide_eq_true h
theorem leaf_ok1 {v : Nat} (h : v < 3) : (Ex.leaf ⟨1, v⟩).ok 3 := by
  refine ⟨?_, ar_zero (by simp) (by simp)⟩
  rw [tmB_var rfl]
  exact decide_eq_true (by simp only; omega)
theorem leaf_end {w w1 : World} {lo sb : Nat} {A : Option Addr} {n c k k1 most d : Nat} {t : Tm} (ht : (Ex.leaf t).ok 3) (hm : 1 ≤ most) (hk : k1 ≤ k + d) (hs : Src w1 lo sb A n c k1) (hg : w.grownBy w1 (some sb)) :
    RetX w lo sb A n c k most d (.returned (.slice (some ⟨w1.heap.size, 0, none⟩) 1 1)) (w1.alloc (.cells #[.int .i64 t.k, .int .i64 t.v] 68)) :=
  ⟨.leaf t, k1, _, 1, 1, ht, hm, hk, rfl, own_single w1 t w.heap.size hg.size, hs.alloc _, grown_onA hg _⟩
set_option maxRecDepth 100000 in
set_option maxHeartbeats 1600000 in
theorem drawEx_any (lo sb : Nat) (A : Option Addr) (n c : Nat) (xs : List Int) (B : Nat) (hB : B ≤ lo) (l : xs.length = n) (m : n ≤ 1048576) (hb : ∀ u ∈ xs, 0 ≤ u ∧ u ≤ 255) :
    ∀ (mo k : Nat) (w : World), mo ≤ 7 → k + 8 * mo + 5 ≤ 1000 → Src w lo sb A n c k → BRow w B A xs →
      Calls Try.prog 37 #[.pointer (some ⟨sb, 0, none⟩), .int .i64 3, .int .i64 (mo : Int)] w fun e w' => RetX w lo sb A n c k (2 * mo + 1) (8 * mo + 5) e w' := by
  have L := Lib.hid l
  have HBB := Lib.hid hb
  clear l hb
  intro mo
  induction mo using Nat.strongRecOn with
  | ind mo ih =>
    intro k w hmo hk hsrc hx
    have HS0 := Lib.hid hsrc
    have hsl := hsrc.lt
    have HG0 := Lib.hid (World.grownBy.refl w (some sb))
    clear hsrc
    rcases Nat.eq_zero_or_pos mo with hm0 | hm0
    · subst hm0
      clear ih
      go_enter Try.func37, Try.ntmps37
      go_wp2_with fail
      refine (pick_any 3 lo sb A n c k xs w B HS0.out (hx.below ((Below.refl B w).grown HG0.out (by omega) (fun g e => by cases e; omega))) hB L.out m (by omega) HBB.out (by omega) (by omega)).mono ?_; rintro e wa ⟨ka, hka, xa, hxa, rfl, hsa, hga⟩
      have HSa := Lib.hid hsa
      have HGa := Lib.hid (grown_trans HG0.out hga)
      clear hsa hga
      rcases Nat.eq_zero_or_pos xa with h0 | h0
      · subst h0
        go_wp2_with fail
        refine (pick_any 5 lo sb A n c ka xs wa B HSa.out (hx.below ((Below.refl B w).grown HGa.out (by omega) (fun g e => by cases e; omega))) hB L.out m (by omega) HBB.out (by omega) (by omega)).mono ?_; rintro e wb ⟨kb, hkb, xb, hxb, rfl, hsb, hgb⟩
        have HSb := Lib.hid hsb
        have HGb := Lib.hid (grown_trans HGa.out hgb)
        clear hsb hgb
        go_wp2_with fail
        refine (one_any 6 lo sb A n c kb xs wb B HSb.out (hx.below ((Below.refl B w).grown HGb.out (by omega) (fun g e => by cases e; omega))) hB L.out m (by omega) HBB.out (by omega) (by omega)).mono ?_; rintro e wc ⟨kc, bc, hkc, rfl, hsc, hgc⟩
        have HSc := Lib.hid hsc
        have HGc := Lib.hid (grown_trans HGb.out hgc)
        clear hsc hgc
        rcases bc with _ | _
        · go_wp2
          go_ret
          exact leaf_end (t := ⟨0, (xb : Int)⟩) (leaf_ok0 (by omega)) (by omega) (by omega) HSc.out HGc.out
        · have HLR := Lib.hid (lit_row wc [63, 32, 8, 62] 2)
          have hslt := HSc.out.lt
          have HSd := Lib.hid (HSc.out.alloc (.cells #[.int .i64 63, .int .i64 32, .int .i64 8, .int .i64 62] 2))
          have HGd := Lib.hid (grown_onA HGc.out (.cells #[.int .i64 63, .int .i64 32, .int .i64 8, .int .i64 62] 2))
          go_wp2_with fail
          refine (among_any lo sb A n c kc xs _ B HSd.out (hx.below ((Below.refl B w).grown HGd.out (by omega) (fun g e => by cases e; omega))) hB L.out m (by omega) HBB.out (some ⟨wc.heap.size, 0, none⟩) 4 4 [63, 32, 8, 62] (wc.heap.size + 1) HLR.out (by simp) (fun b o e => by injection e with e; injection e with e1 e2; omega) rfl (by omega) (by omega)).mono ?_; rintro e we ⟨ke, ve, hke, hve, rfl, hse, hge⟩
          have HSe := Lib.hid hse
          have HGe := Lib.hid (grown_trans HGd.out hge)
          clear hse hge
          have hve2 : 0 ≤ ve ∧ ve ≤ 63 := by simp at hve; omega
          clear hve
          go_wp2
          go_ret
          exact leaf_end (t := ⟨0, ve⟩) (leaf_ok0 hve2) (by omega) (by omega) HSe.out HGe.out
      · go_wp2_with fail
        refine (pick_any 3 lo sb A n c ka xs wa B HSa.out (hx.below ((Below.refl B w).grown HGa.out (by omega) (fun g e => by cases e; omega))) hB L.out m (by omega) HBB.out (by omega) (by omega)).mono ?_; rintro e wb ⟨kb, hkb, xb, hxb, rfl, hsb, hgb⟩
        have HSb := Lib.hid hsb
        have HGb := Lib.hid (grown_trans HGa.out hgb)
        clear hsb hgb
        go_wp2
        go_ret
        exact leaf_end (t := ⟨1, (xb : Int)⟩) (leaf_ok1 hxb) (by omega) (by omega) HSb.out HGb.out
    · have hmp : ¬ (mo : Int) ≤ 0 := by omega
      have IH1 := Lib.hid (ih (mo - 1) (by omega))
      have IH2 := Lib.hid (ih ((mo - 1) / 2) (by omega))
      clear ih
      go_enter Try.func37, Try.ntmps37
      go_wp2_with fail
      refine (one_any 3 lo sb A n c k xs w B HS0.out hx hB L.out m (by omega) HBB.out (by omega) (by omega)).mono ?_; rintro e w1 ⟨k1, b1, hk1, rfl, hs1, hg1⟩
      have HS1 := Lib.hid hs1
      have HG1 := Lib.hid hg1
      clear hs1 hg1
      rcases b1 with _ | _
      · go_wp2_with fail
        refine (one_any 7 lo sb A n c k1 xs w1 B HS1.out (hx.below ((Below.refl B w).grown HG1.out (by omega) (fun g e => by cases e; omega))) hB L.out m (by omega) HBB.out (by omega) (by omega)).mono ?_; rintro e w2 ⟨k2, b2, hk2, rfl, hs2, hg2⟩
        have HS2 := Lib.hid hs2
        have HG2 := Lib.hid (grown_trans HG1.out hg2)
        clear hs2 hg2
        rcases b2 with _ | _
        · go_wp2_with fail
          refine (pick_any 9 lo sb A n c k2 xs w2 B HS2.out (hx.below ((Below.refl B w).grown HG2.out (by omega) (fun g e => by cases e; omega))) hB L.out m (by omega) HBB.out (by omega) (by omega)).mono ?_; rintro e w3 ⟨k3, hk3, x3, hx3, rfl, hs3, hg3⟩
          have HG3 := Lib.hid (grown_on (grown_trans HG2.out hg3) (World.grownBy_alloc w3 (.cells #[.int .i64 2, .int .i64 (x3 : Int)] 68) none) (fun g e => by cases e))
          have HS3 := Lib.hid (hs3.alloc (.cells #[.int .i64 2, .int .i64 (x3 : Int)] 68))
          have HO3 := Lib.hid (own_single w3 ⟨2, x3⟩ w.heap.size (by have := hg3.size; have := HG2.out.size; omega))
          clear hs3 hg3
          obtain ⟨q, hq⟩ : ∃ q, q = (mo - 1) / 2 := ⟨_, rfl⟩
          have HDM := Lib.hid (show ((mo : Int) - 1) / 2 = (q : Int) by omega)
          rw [← hq] at IH2
          have hq2 : 2 * q ≤ mo - 1 := by omega
          have C4 := Lib.hid (IH2.out k3 _ (by omega) (by omega) HS3.out (hx.below ((Below.refl B w).grown HG3.out (by omega) (fun g e => by cases e; omega))))
          clear hq
          go_wp2_with fail
          rw [HDM.out]
          refine (C4.out).mono ?_; rintro e w4 ⟨x4, k4, A4, n4, c4, hok4, hl4, hk4, rfl, ho4, hs4, hg4⟩
          have hs34 := hg4.size
          have hs03 := HG3.out.size
          have hs33 : (w3.alloc (.cells #[.int .i64 2, .int .i64 (x3 : Int)] 68)).heap.size = w3.heap.size + 1 := by simp
          have HO34 := Lib.hid (own_kept HO3.out hg4 hsl.2)
          have HG4 := Lib.hid (grown_trans HG3.out hg4)
          have HO4 := Lib.hid ho4
          have HOK4 := Lib.hid hok4
          have C5 := Lib.hid (IH2.out k4 w4 (by omega) (by omega) hs4 (hx.below ((Below.refl B w).grown HG4.out (by omega) (fun g e => by cases e; omega))))
          clear ho4 hs4 hg4 hok4
          go_wp2_with fail
          rw [HDM.out]
          refine (C5.out).mono ?_; rintro e w5 ⟨x5, k5, A5, n5, c5, hok5, hl5, hk5, rfl, ho5, hs5, hg5⟩
          have hs45 := hg5.size
          have HO35 := Lib.hid (own_kept HO34.out hg5 hsl.2)
          have HR45 := Lib.hid (show TRow w5 w5.heap.size A4 x4.flat from Row.of_own2 (own_kept HO4.out hg5 (by omega)))
          have HG5 := Lib.hid (grown_trans HG4.out hg5)
          have HO5 := Lib.hid ho5
          have HS5 := Lib.hid hs5
          have HOK5 := Lib.hid hok5
          have hn4 := own_lenJ HO4.out
          have hn5 := own_lenJ ho5
          have hL4 : n4 ≤ 100 := by omega
          have hL5 : n5 ≤ 100 := by omega
          have HN4 := Lib.hid hn4
          have HN5 := Lib.hid hn5
          have hw5 : w.heap.size ≤ w5.heap.size := by omega
          clear ho5 hs5 hg5 hok5 hn4 hn5
          go_wp2_with (first
            | (at_builtin; refine wpList_append_tms rfl _ _ rfl _ w.heap.size w5.heap.size (.slice (some ⟨w3.heap.size, 0, none⟩) 1 1) 1 [⟨2, x3⟩] rfl (by exact HO35.out) A4 n4 c4 x4.flat rfl (by exact HR45.out) HN4.out (by omega) hw5 ?_; intro A6 c6 w6 ho6 hg6; have hg6' : w5.grownBy w6 (some w3.heap.size) := hg6; have HR56 := Lib.hid (show TRow w6 w6.heap.size A5 x5.flat from Row.of_own2 (own_kept HO5.out hg6' (by omega))); clear hg6'; have HO6 := Lib.hid ho6; have HG6 := Lib.hid (grown_on HG5.out hg6 (fun g e => .inl ((HO35.out.lt g e).1))); have HS6 := Lib.hid (HS5.out.other hg6 (fun g e => by have := (HO35.out.lt g e).1; omega)); have hw6 := HG6.out.size; clear ho6 hg6)
            | (at_builtin; refine wpList_append_tms rfl _ _ rfl _ w.heap.size w6.heap.size (.slice A6 (1 + n4) c6) (1 + n4) ([⟨2, x3⟩] ++ x4.flat) rfl (by exact HO6.out) A5 n5 c5 x5.flat rfl (by exact HR56.out) HN5.out (by omega) hw6 ?_; intro A7 c7 w7 ho7 hg7; have HO7 := Lib.hid ho7; have HG7 := Lib.hid (grown_on HG6.out hg7 (fun g e => .inl ((HO6.out.lt g e).1))); have HS7 := Lib.hid (HS6.out.other hg7 (fun g e => by have := (HO6.out.lt g e).1; omega)); clear ho7 hg7))
          go_ret
          exact ⟨.two ⟨2, x3⟩ x4 x5, k5, A7, 1 + n4 + n5, c7, ⟨by rw [tmB_op rfl]; exact decide_eq_true (by simp only; omega), ar_two rfl, HOK4.out, HOK5.out⟩, by simp only [Ex.flat, List.length_cons, List.length_append]; omega, by omega, rfl, HO7.out, HS7.out, HG7.out⟩
        · have C4 := Lib.hid (IH1.out k2 w2 (by omega) (by omega) HS2.out (hx.below ((Below.refl B w).grown HG2.out (by omega) (fun g e => by cases e; omega))))
          have HMM := Lib.hid (show (mo : Int) - 1 = ((mo - 1 : Nat) : Int) by omega)
          go_wp2_with fail
          rw [HMM.out]
          refine (C4.out).mono ?_; rintro e w4 ⟨x4, k4, A4, n4, c4, hok4, hl4, hk4, rfl, ho4, hs4, hg4⟩
          have hs24 := hg4.size
          have hs02 := HG2.out.size
          have hw4 : w.heap.size ≤ w4.heap.size := by omega
          have HG4 := Lib.hid (grown_onA (grown_trans HG2.out hg4) (.cells #[.int .i64 3, .int .i64 0] 68))
          have HS4 := Lib.hid (hs4.alloc (.cells #[.int .i64 3, .int .i64 0] 68))
          have HOS := Lib.hid (own_single w4 ⟨3, 0⟩ w.heap.size hw4)
          have hn4 := own_lenJ ho4
          have hL4 : n4 ≤ 100 := by omega
          have HN4 := Lib.hid hn4
          have HOK4 := Lib.hid hok4
          have HR4 := Lib.hid (show TRow (w4.alloc (.cells #[.int .i64 3, .int .i64 0] 68)) w4.heap.size A4 x4.flat from TRow.below (Row.of_own2 ho4) ((Below.refl _ _).alloc (Nat.le_refl _) _))
          clear ho4 hs4 hg4 hok4 hn4
          go_wp2_with (at_builtin; refine wpList_append_tms rfl _ _ rfl _ w.heap.size w4.heap.size (.slice (some ⟨w4.heap.size, 0, none⟩) 1 1) 1 [⟨3, 0⟩] rfl (by exact HOS.out) A4 n4 c4 x4.flat rfl (by exact HR4.out) HN4.out (by omega) (by simp; omega) ?_; intro A6 c6 w6 ho6 hg6; have HO6 := Lib.hid ho6; have HG6 := Lib.hid (grown_on HG4.out hg6 (fun g e => .inl ((HOS.out.lt g e).1))); have HS6 := Lib.hid (HS4.out.other hg6 (fun g e => by have := (HOS.out.lt g e).1; omega)); clear ho6 hg6)
          go_ret
          exact ⟨.one ⟨3, 0⟩ x4, k4, A6, 1 + n4, c6, ⟨by rw [tmB_not rfl]; rfl, ar_one rfl, HOK4.out⟩, by simp only [Ex.flat, List.length_cons]; omega, by omega, rfl, HO6.out, HS6.out, HG6.out⟩
      · skip
        go_wp2_with fail
        refine (pick_any 3 lo sb A n c k1 xs w1 B HS1.out (hx.below ((Below.refl B w).grown HG1.out (by omega) (fun g e => by cases e; omega))) hB L.out m (by omega) HBB.out (by omega) (by omega)).mono ?_; rintro e wa ⟨ka, hka, xa, hxa, rfl, hsa, hga⟩
        have HSa := Lib.hid hsa
        have HGa := Lib.hid (grown_trans HG1.out hga)
        clear hsa hga
        rcases Nat.eq_zero_or_pos xa with h0 | h0
        · subst h0
          go_wp2_with fail
          refine (pick_any 5 lo sb A n c ka xs wa B HSa.out (hx.below ((Below.refl B w).grown HGa.out (by omega) (fun g e => by cases e; omega))) hB L.out m (by omega) HBB.out (by omega) (by omega)).mono ?_; rintro e wb ⟨kb, hkb, xb, hxb, rfl, hsb, hgb⟩
          have HSb := Lib.hid hsb
          have HGb := Lib.hid (grown_trans HGa.out hgb)
          clear hsb hgb
          go_wp2_with fail
          refine (one_any 6 lo sb A n c kb xs wb B HSb.out (hx.below ((Below.refl B w).grown HGb.out (by omega) (fun g e => by cases e; omega))) hB L.out m (by omega) HBB.out (by omega) (by omega)).mono ?_; rintro e wc ⟨kc, bc, hkc, rfl, hsc, hgc⟩
          have HSc := Lib.hid hsc
          have HGc := Lib.hid (grown_trans HGb.out hgc)
          clear hsc hgc
          rcases bc with _ | _
          · go_wp2
            go_ret
            exact leaf_end (t := ⟨0, (xb : Int)⟩) (leaf_ok0 (by omega)) (by omega) (by omega) HSc.out HGc.out
          · have HLR := Lib.hid (lit_row wc [63, 32, 8, 62] 2)
            have hslt := HSc.out.lt
            have HSd := Lib.hid (HSc.out.alloc (.cells #[.int .i64 63, .int .i64 32, .int .i64 8, .int .i64 62] 2))
            have HGd := Lib.hid (grown_onA HGc.out (.cells #[.int .i64 63, .int .i64 32, .int .i64 8, .int .i64 62] 2))
            go_wp2_with fail
            refine (among_any lo sb A n c kc xs _ B HSd.out (hx.below ((Below.refl B w).grown HGd.out (by omega) (fun g e => by cases e; omega))) hB L.out m (by omega) HBB.out (some ⟨wc.heap.size, 0, none⟩) 4 4 [63, 32, 8, 62] (wc.heap.size + 1) HLR.out (by simp) (fun b o e => by injection e with e; injection e with e1 e2; omega) rfl (by omega) (by omega)).mono ?_; rintro e we ⟨ke, ve, hke, hve, rfl, hse, hge⟩
            have HSe := Lib.hid hse
            have HGe := Lib.hid (grown_trans HGd.out hge)
            clear hse hge
            have hve2 : 0 ≤ ve ∧ ve ≤ 63 := by simp at hve; omega
            clear hve
            go_wp2
            go_ret
            exact leaf_end (t := ⟨0, ve⟩) (leaf_ok0 hve2) (by omega) (by omega) HSe.out HGe.out
        · go_wp2_with fail
          refine (pick_any 3 lo sb A n c ka xs wa B HSa.out (hx.below ((Below.refl B w).grown HGa.out (by omega) (fun g e => by cases e; omega))) hB L.out m (by omega) HBB.out (by omega) (by omega)).mono ?_; rintro e wb ⟨kb, hkb, xb, hxb, rfl, hsb, hgb⟩
          have HSb := Lib.hid hsb
          have HGb := Lib.hid (grown_trans HGa.out hgb)
          clear hsb hgb
          go_wp2
          go_ret
          exact leaf_end (t := ⟨1, (xb : Int)⟩) (leaf_ok1 hxb) (by omega) (by omega) HSb.out HGb.out
end Go.Proofs.Ytkcbmblpalmmhaa
