/- Folding: the model's answer is that of the plain function. -/
import Derived.Test.YtkcbmblpalmmhaaProg
import Derived.WalkKit
import Derived.ProofKit
import Derived.OwnWalk
import Derived.Outline
import Derived.Lib.Hide
import Derived.Test.YtkcbmblpalmmhaaMem
import Derived.Test.YtkcbmblpalmmhaaOwn
import Derived.Test.YtkcbmblpalmmhaaL00
import Derived.Test.YtkcbmblpalmmhaaTmM
import Derived.Test.YtkcbmblpalmmhaaTmW
import Derived.Test.YtkcbmblpalmmhaaTmV
import Derived.Test.YtkcbmblpalmmhaaRet
import Derived.Test.YtkcbmblpalmmhaaApp
import Derived.Test.YtkcbmblpalmmhaaOpr
import Derived.Test.YtkcbmblpalmmhaaExM
import Derived.Test.YtkcbmblpalmmhaaCut
import Derived.Test.YtkcbmblpalmmhaaBuildT
import Derived.Test.YtkcbmblpalmmhaaConc
import Derived.Test.YtkcbmblpalmmhaaJoin
import Derived.Test.YtkcbmblpalmmhaaOpnd
import Derived.Test.YtkcbmblpalmmhaaEvM
import Derived.Test.YtkcbmblpalmmhaaFoldM
namespace Go.Proofs.Ytkcbmblpalmmhaa
open Go.RowKit
theorem num_ev {vals : List Int} {y : Ex} (h : y.isNum = true) : evX vals y = y.root.v := by
  obtain ⟨t, rfl, h0⟩ := num_leaf h
  unfold evX
  rw [if_pos h0]; rfl
theorem num_bd {v : Int} {y : Ex} (ho : y.ok v) (h : y.isNum = true) : 0 ≤ y.root.v ∧ y.root.v ≤ 63 := by
  obtain ⟨t, rfl, h0⟩ := num_leaf h
  have := ho.1
  rw [tmB_num h0] at this
  exact of_decide_eq_true this
theorem cutA_at3 {b o c : Nat} (h : c ≠ 1) : cutA (some ⟨b, o, none⟩) c 1 = some ⟨b, o + 2, none⟩ := cutA_at h
theorem fold_end {w w2 : World} (hb : Below w.heap.size w w2) (u : Int) (n : Nat) : RetT1 w [⟨0, u⟩] (.returned (.slice (some ⟨w2.heap.size, 0, none⟩) 1 1)) ((w2.drewN n).alloc (.cells #[.int .i64 0, .int .i64 u] 68)) :=
  ⟨_, 1, 1, rfl, own_single (w2.drewN n) ⟨0, u⟩ w.heap.size hb.size, (hb.trans (below_drewN w2 _ n)).alloc hb.size _⟩
theorem foldK_head {v : Int} {y : Ex} (h : y.ok v) : ∃ r, foldK y = (foldX y).root :: r ∧ (foldX y).isNum = decide ((foldX y).root.k = 0) := ⟨_, Ex.flat_root _, isNum_root (foldX_ok h)⟩
/-- The first term of a list of the call's own. -/
theorem own_head {w : World} {base n c : Nat} {T : TypeId} {A : Option Addr} {t : Tm} {r : List Tm} (h : w.ownsRow base T 2 (.slice A n c) n (tvs (t :: r))) : ∃ g, A = some ⟨g, 0, none⟩ ∧ w.cell? ⟨g, 0, none⟩ = some (.int .i64 t.k) ∧ w.cell? ⟨g, 1, none⟩ = some (.int .i64 t.v) ∧ 0 < n := by
  have hn : 0 < n := by have := h.1; rw [tvs_length] at this; simp at this; omega
  obtain ⟨g, rfl, _, _⟩ := own_at h hn
  refine ⟨g, rfl, ?_, ?_, hn⟩
  · rw [h.cellAt 0 (by omega)]; rfl
  · rw [h.cellAt 1 (by omega)]; rfl
set_option maxRecDepth 100000 in
set_option maxHeartbeats 4000000 in
theorem l03Fold_any : ∀ (x : Ex) (A : Option Addr) (n c : Nat) (w : World), TRow w w.heap.size A x.flat → x.flat.length = n → n ≤ 60 → n ≤ c → x.ok 29 →
    Calls Try.prog 54 #[.slice A n c] w fun e w' => RetT1 w (foldK x) e w' := by
  intro x
  induction x with
  | leaf t =>
    intro A n c w h l m hc ho
    obtain ⟨b, o, t', rfl, hb, hc1, hc2, ht⟩ := h.at_ (k := 0) (by simp [Ex.flat])
    have et : t' = t := by have := ht.out; simpa [Ex.flat] using this.symm
    subst et
    obtain rfl : n = 1 := by simpa [Ex.flat] using l.symm
    have CO := Lib.hid (l03Own_any (some ⟨b, o, none⟩) 1 c [t'] w w.heap.size h (Nat.le_refl _) rfl (by omega))
    have HAR := Lib.hid ho.2
    clear h l ho hc2 ht
    go_enter Try.func54, Try.ntmps54
    go_wp2_with (first
      | (go_at_call 72; refine (l03Arity_any b o t' _ (by simpa using hc1)).mono ?_; rw [HAR.out]; rintro e w' ⟨rfl, rfl⟩)
      | (go_at_call 77; refine (CO.out).mono ?_; rintro e w' ⟨A2, n2, c2, rfl, ho, hb2⟩))
    go_ret
    exact ⟨A2, n2, c2, rfl, ho, hb2⟩
  | one t a ih =>
    intro A n c w h l m hc ho
    obtain ⟨b, o, t', rfl, hb, hc1, hc2, ht⟩ := h.at_ (k := 0) (by simp [Ex.flat])
    have et : t' = t := by have := ht.out; simpa [Ex.flat] using this.symm
    subst et
    have hn : n = 1 + a.flat.length := by rw [← l]; simp [Ex.flat]; omega
    have hap := Ex.flat_pos a
    have hc1' : w.cell? ⟨b, o, none⟩ = some (.int .i64 t'.k) := by simpa using hc1
    have hc2' : w.cell? ⟨b, o + 1, none⟩ = some (.int .i64 t'.v) := by simpa using hc2
    have hfe : fe ((Ex.one t' a).flat.drop 1) 1 ((1 : Nat) : Int) = ((1 + a.flat.length : Nat) : Int) := by
      have := fe_one ho.2.2 [] ((1 : Nat) : Int)
      rw [List.append_nil] at this
      rw [show (Ex.one t' a).flat.drop 1 = a.flat from rfl]
      omega
    have CE := Lib.hid (l03End_any (some ⟨b, o, none⟩) n c (Ex.one t' a).flat 1 (1 + a.flat.length) w w.heap.size h l (by omega) hfe)
    have hcut := (h.cut (c := c) (by rw [l]; exact hc) 1).take a.flat.length
    rw [show (Ex.one t' a).flat.drop 1 = a.flat from rfl, List.take_length, cutA_at3 (show c ≠ 1 by omega)] at hcut
    have CA := Lib.hid (ih (some ⟨b, o + 2, none⟩) a.flat.length (c - 1) w hcut rfl (by omega) (by omega) ho.2.2)
    obtain ⟨rr, hrr, hnum⟩ := foldK_head ho.2.2
    have hk3 := tm_one ho.2.1
    have HAR := Lib.hid ho.2.1
    have hle := foldX_len a
    have HR := Lib.hid hrr
    have HNUM := Lib.hid hnum
    have HLE := Lib.hid (show (foldK a).length ≤ 60 by unfold foldK; omega)
    have hlen : a.flat.length ≤ 60 := by omega
    obtain ⟨k, v⟩ := t'
    simp only at hk3 hc1' hc2'
    subst hk3
    generalize hL : a.flat.length = la at *
    subst hn
    clear h l ho hc1 hc2 ht ih hfe hcut hL hrr hnum hle
    go_enter Try.func54, Try.ntmps54
    go_wp2_with fail
    refine (l03Arity_any b o ⟨3, v⟩ _ hc1').mono ?_
    rw [HAR.out]
    rintro e w' ⟨rfl, rfl⟩
    go_wp2_with fail
    refine (CE.out).mono ?_
    rintro e w' ⟨rfl, rfl⟩
    go_wp2_with fail
    refine (CA.out).mono ?_
    rintro e w1 ⟨A1, n1, c1, rfl, ho1, hb1⟩
    have hn1 := own_lenJ ho1
    have ho1' := ho1
    rw [HR.out] at ho1'
    obtain ⟨g1, rfl, h11, h12, hp1⟩ := own_head ho1'
    have hd1 := (hb1.cell (p := ⟨b, o, none⟩) hb).trans hc1'
    have hd2 := (hb1.cell (p := ⟨b, o + 1, none⟩) hb).trans hc2'
    have hb1s := hb1.size
    have HB1 := Lib.hid hb1
    have HO1 := Lib.hid ho1
    have hw1 : b < w1.heap.size := by omega
    have hg1 := (ho1.lt g1 rfl).2
    have HLN := Lib.hid (show n1 ≤ 60 by rw [← hn1]; exact HLE.out)
    have HN1 := Lib.hid hn1
    have HRW := Lib.hid (show TRow w1 w1.heap.size (some ⟨g1, 0, none⟩) (foldK a) from Row.of_own2 ho1)
    clear hc1' hc2' ho1 ho1' hb1 hn1
    by_cases hz : (foldX a).root.k = 0
    · have H := Lib.hid (show foldK (.one ⟨3, v⟩ a) = [⟨0, tr ((foldX a).root.v == 0)⟩] by
        have hnn : (foldX a).isNum = true := by rw [HNUM.out]; exact decide_eq_true hz
        rw [foldX_one_num hnn, ← num_ev (vals := []) hnn]; rfl)
      rw [hz] at h11
      clear hz
      go_wp2_with (go_at_call 79; refine (truthL_any _ _).mono ?_; rintro e w' ⟨rfl, rfl⟩)
      go_ret
      rw [H.out]
      exact ⟨_, _, _, rfl, own_single w1 ⟨0, _⟩ w.heap.size hb1s, HB1.out.alloc hb1s _⟩
    · have H := Lib.hid (show foldK (.one ⟨3, v⟩ a) = [⟨3, v⟩] ++ foldK a by
        have hnn : (foldX a).isNum = false := by rw [HNUM.out]; exact decide_eq_false hz
        rw [foldX_one_no hnn]; rfl)
      have HS := Lib.hid (own_single w1 ⟨3, v⟩ w.heap.size hb1s)
      have HRA := Lib.hid (HRW.out.below ((Below.refl _ _).alloc (Nat.le_refl _) (.cells #[.int .i64 3, .int .i64 v] 68)))
      go_wp2_with (at_builtin; refine wpList_append_tms rfl _ _ rfl _ w.heap.size w1.heap.size (.slice (some ⟨w1.heap.size, 0, none⟩) 1 1) 1 [⟨3, v⟩] rfl (by exact HS.out) (some ⟨g1, 0, none⟩) n1 c1 (foldK a) rfl (by exact HRA.out) HN1.out (by have := HLN.out; omega) (by simp; omega) ?_; intro A3 c3 w3 ho3 hg3; have HO3 := Lib.hid ho3; have HB3 := Lib.hid ((HB1.out.alloc hb1s _).grown hg3 (by simp; omega) (fun g e => by cases e; exact hb1s)); clear ho3 hg3)
      go_ret
      exact ⟨A3, _, c3, rfl, by rw [H.out]; exact HO3.out, HB3.out⟩
  | two t a b iha ihb =>
    intro A n c w h l m hc ho
    obtain ⟨b0, o, t', rfl, hb, hc1, hc2, ht⟩ := h.at_ (k := 0) (by simp [Ex.flat])
    have et : t' = t := by have := ht.out; simpa [Ex.flat] using this.symm
    subst et
    have hn : n = 1 + a.flat.length + b.flat.length := by rw [← l]; simp [Ex.flat]; omega
    have hap := Ex.flat_pos a
    have hbp := Ex.flat_pos b
    have hc1' : w.cell? ⟨b0, o, none⟩ = some (.int .i64 t'.k) := by simpa using hc1
    have hc2' : w.cell? ⟨b0, o + 1, none⟩ = some (.int .i64 t'.v) := by simpa using hc2
    have hfe : fe ((Ex.two t' a b).flat.drop 1) 1 ((1 : Nat) : Int) = ((1 + a.flat.length : Nat) : Int) := by
      rw [show (Ex.two t' a b).flat.drop 1 = a.flat ++ b.flat from rfl, fe_one ho.2.2.1 b.flat]
      omega
    have CE := Lib.hid (l03End_any (some ⟨b0, o, none⟩) n c (Ex.two t' a b).flat 1 (1 + a.flat.length) w w.heap.size h l (by omega) hfe)
    have hcut := (h.cut (c := c) (by rw [l]; exact hc) 1).take a.flat.length
    rw [show (Ex.two t' a b).flat.drop 1 = a.flat ++ b.flat from rfl, List.take_left' rfl, cutA_at3 (show c ≠ 1 by omega)] at hcut
    have hcut2 := h.cut (c := c) (by rw [l]; exact hc) (1 + a.flat.length)
    rw [cutA_at (show c ≠ 1 + a.flat.length by omega), ← List.drop_drop, show (Ex.two t' a b).flat.drop 1 = a.flat ++ b.flat from rfl, List.drop_left' rfl] at hcut2
    have CA := Lib.hid (iha (some ⟨b0, o + 2, none⟩) a.flat.length (c - 1) w hcut rfl (by omega) (by omega) ho.2.2.1)
    have CB := Lib.hid (fun (w1 : World) (hb1 : Below w.heap.size w w1) => ihb (some ⟨b0, o + (1 + a.flat.length) * 2, none⟩) b.flat.length (c - (1 + a.flat.length)) w1 ((hcut2.below hb1).more hb1.size) rfl (by omega) (by omega) ho.2.2.2)
    obtain ⟨ra, hra, hna⟩ := foldK_head ho.2.2.1
    obtain ⟨rb, hrb, hnb⟩ := foldK_head ho.2.2.2
    have hk2 := tm_two ho.1 ho.2.1
    have HAR := Lib.hid ho.2.1
    have hlea := foldX_len a
    have hleb := foldX_len b
    have HRA := Lib.hid hra
    have HRB := Lib.hid hrb
    have HNA := Lib.hid hna
    have HNB := Lib.hid hnb
    have HOKA := Lib.hid (foldX_ok ho.2.2.1)
    have HOKB := Lib.hid (foldX_ok ho.2.2.2)
    have HLA := Lib.hid (show (foldK a).length ≤ 60 by unfold foldK; omega)
    have HLB := Lib.hid (show (foldK b).length ≤ 60 by unfold foldK; omega)
    have hlena : a.flat.length ≤ 60 := by omega
    have hlenb : b.flat.length ≤ 60 := by omega
    have HOP := Lib.hid hk2.2
    replace hk2 := hk2.1
    obtain ⟨k, v⟩ := t'
    simp only at hk2 hc1' hc2'
    subst hk2
    generalize hL : a.flat.length = la at *
    generalize hM : b.flat.length = lb at *
    subst hn
    clear h l ho hc1 hc2 ht iha ihb hfe hcut hcut2 hL hM hra hrb hna hnb hlea hleb
    go_enter Try.func54, Try.ntmps54
    go_wp2_with fail
    refine (l03Arity_any b0 o ⟨2, v⟩ _ hc1').mono ?_
    rw [HAR.out]
    rintro e w' ⟨rfl, rfl⟩
    go_wp2_with fail
    refine (CE.out).mono ?_
    rintro e w' ⟨rfl, rfl⟩
    go_wp2_with fail
    refine (CA.out).mono ?_
    rintro e w1 ⟨A1, n1, c1, rfl, ho1, hb1⟩
    have hd1 := (hb1.cell (p := ⟨b0, o, none⟩) hb).trans hc1'
    have hd2 := (hb1.cell (p := ⟨b0, o + 1, none⟩) hb).trans hc2'
    have hb1s := hb1.size
    have hw1 : b0 < w1.heap.size := by omega
    have CB1 := Lib.hid (CB.out w1 hb1)
    have HB1 := Lib.hid hb1
    clear hb1
    go_wp2_with fail
    refine (CB1.out).mono ?_
    rintro e w2 ⟨A2, n2, c2, rfl, ho2, hb2⟩
    have hn1 := own_lenJ ho1
    have hn2 := own_lenJ ho2
    have ho12 := own_below' ho1 hb2
    have ho12' := ho12
    have ho2' := ho2
    rw [HRA.out] at ho12'
    rw [HRB.out] at ho2'
    obtain ⟨g1, rfl, h11, h12, hp1⟩ := own_head ho12'
    obtain ⟨g2, rfl, h21, h22, hp2⟩ := own_head ho2'
    have he1 := (hb2.cell (p := ⟨b0, o, none⟩) hw1).trans hd1
    have he2 := (hb2.cell (p := ⟨b0, o + 1, none⟩) hw1).trans hd2
    have hb2s := hb2.size
    have hw2 : b0 < w2.heap.size := by omega
    have HB2 := Lib.hid (HB1.out.trans (hb2.mono hb1s))
    have hws : w.heap.size ≤ w2.heap.size := by omega
    have hg1 := (ho12.lt g1 rfl).2
    have hg2 := (ho2.lt g2 rfl).2
    have HLN1 := Lib.hid (show n1 ≤ 60 by rw [← hn1]; exact HLA.out)
    have HLN2 := Lib.hid (show n2 ≤ 60 by rw [← hn2]; exact HLB.out)
    have HN1 := Lib.hid hn1
    have HN2 := Lib.hid hn2
    have HRW1 := Lib.hid (show TRow w2 w2.heap.size (some ⟨g1, 0, none⟩) (foldK a) from Row.of_own2 ho12)
    have HRW2 := Lib.hid (show TRow w2 w2.heap.size (some ⟨g2, 0, none⟩) (foldK b) from Row.of_own2 ho2)
    clear hc1' hc2' ho1 ho12 ho12' ho2 ho2' hb2 hn1 hn2 hd1 hd2
    by_cases hz : (foldX a).root.k = 0 ∧ (foldX b).root.k = 0
    · have hna : (foldX a).isNum = true := by rw [HNA.out]; exact decide_eq_true hz.1
      have hnb : (foldX b).isNum = true := by rw [HNB.out]; exact decide_eq_true hz.2
      have H := Lib.hid (show foldK (.two ⟨2, v⟩ a b) = [⟨0, opV v (foldX a).root.v (foldX b).root.v⟩] by
        rw [foldX_two_num hna hnb, ← num_ev (vals := []) hna, ← num_ev (vals := []) hnb]; rfl)
      have CO := Lib.hid (l03Op_any v (foldX a).root.v (foldX b).root.v ⟨HOP.out, num_bd HOKA.out hna, num_bd HOKB.out hnb⟩)
      rw [hz.1] at h11
      rw [hz.2] at h21
      clear hz hna hnb HNA HNB HRA HRB
      go_wp2
      go_region_with (go_at_call 80; refine (CO.out _).mono ?_; rintro e w' ⟨rfl, rfl⟩)
      all_goals
        go_wp2
        go_ret
        rw [H.out]
        exact fold_end HB2.out _ _
    · have H := Lib.hid (show foldK (.two ⟨2, v⟩ a b) = ([⟨2, v⟩] ++ foldK a) ++ foldK b by
        rw [foldX_two_no (by
          rintro ⟨h1, h2⟩
          rw [HNA.out, decide_eq_true_iff] at h1
          rw [HNB.out, decide_eq_true_iff] at h2
          exact hz ⟨h1, h2⟩)]; simp)
      have HS := Lib.hid (own_single w2 ⟨2, v⟩ w.heap.size hws)
      have HR1 := Lib.hid (HRW1.out.below ((Below.refl _ _).alloc (Nat.le_refl _) (.cells #[.int .i64 2, .int .i64 v] 68)))
      have HBX := Lib.hid (show ∀ (w3 : World), (w2.alloc (.cells #[.int .i64 2, .int .i64 v] 68)).grownBy w3 (Value.slice (some ⟨w2.heap.size, 0, none⟩) 1 1).ownBlock → Below w.heap.size w w3 ∧ Below w2.heap.size w2 w3 from fun w3 hg => ⟨(HB2.out.alloc hws _).grown hg (by simp; omega) (fun g e => by cases e; exact hws), ((Below.refl _ w2).alloc (Nat.le_refl _) _).grown hg (by simp) (fun g e => by cases e; exact Nat.le_refl _)⟩)
      have hzz : (foldX a).root.k = 0 ∧ (foldX b).root.k ≠ 0 ∨ (foldX a).root.k ≠ 0 := by
        by_cases e : (foldX a).root.k = 0
        · exact .inl ⟨e, fun e2 => hz ⟨e, e2⟩⟩
        · exact .inr e
      clear hz
      rcases hzz with ⟨hz1, hz2⟩ | hz1
      · rw [hz1] at h11
        go_wp2_with (first
          | (at_builtin; refine wpList_append_tms rfl _ _ rfl _ w.heap.size w2.heap.size (.slice (some ⟨w2.heap.size, 0, none⟩) 1 1) 1 [⟨2, v⟩] rfl (by exact HS.out) (some ⟨g1, 0, none⟩) n1 c1 (foldK a) rfl (by exact HR1.out) HN1.out (by have := HLN1.out; omega) (by simp; omega) ?_; intro A3 c3 w3 ho3 hg3; obtain ⟨hB3, hB4⟩ := HBX.out w3 hg3; have HO3 := Lib.hid ho3; have HR2 := Lib.hid (HRW2.out.below hB4); have HB3 := Lib.hid hB3; have hs3 := hB3.size; clear ho3 hg3 hB3 hB4)
          | (at_builtin; refine wpList_append_tms rfl _ _ rfl _ w.heap.size w2.heap.size (.slice A3 (1 + n1) c3) (1 + n1) ([⟨2, v⟩] ++ foldK a) rfl (by exact HO3.out) (some ⟨g2, 0, none⟩) n2 c2 (foldK b) rfl (by exact HR2.out) HN2.out (by have := HLN1.out; have := HLN2.out; omega) (by exact hs3) ?_; intro A4 c4 w4 ho4 hg4; have HO4 := Lib.hid ho4; have HB4 := Lib.hid (HB3.out.grown hg4 hs3 (fun g e => (HO3.out.lt g e).1)); clear ho4 hg4))
        go_ret
        exact ⟨A4, _, c4, rfl, by rw [H.out]; exact HO4.out, HB4.out⟩
      · go_wp2_with (first
          | (at_builtin; refine wpList_append_tms rfl _ _ rfl _ w.heap.size w2.heap.size (.slice (some ⟨w2.heap.size, 0, none⟩) 1 1) 1 [⟨2, v⟩] rfl (by exact HS.out) (some ⟨g1, 0, none⟩) n1 c1 (foldK a) rfl (by exact HR1.out) HN1.out (by have := HLN1.out; omega) (by simp; omega) ?_; intro A3 c3 w3 ho3 hg3; obtain ⟨hB3, hB4⟩ := HBX.out w3 hg3; have HO3 := Lib.hid ho3; have HR2 := Lib.hid (HRW2.out.below hB4); have HB3 := Lib.hid hB3; have hs3 := hB3.size; clear ho3 hg3 hB3 hB4)
          | (at_builtin; refine wpList_append_tms rfl _ _ rfl _ w.heap.size w2.heap.size (.slice A3 (1 + n1) c3) (1 + n1) ([⟨2, v⟩] ++ foldK a) rfl (by exact HO3.out) (some ⟨g2, 0, none⟩) n2 c2 (foldK b) rfl (by exact HR2.out) HN2.out (by have := HLN1.out; have := HLN2.out; omega) (by exact hs3) ?_; intro A4 c4 w4 ho4 hg4; have HO4 := Lib.hid ho4; have HB4 := Lib.hid (HB3.out.grown hg4 hs3 (fun g e => (HO3.out.lt g e).1)); clear ho4 hg4))
        go_ret
        exact ⟨A4, _, c4, rfl, by rw [H.out]; exact HO4.out, HB4.out⟩
end Go.Proofs.Ytkcbmblpalmmhaa
