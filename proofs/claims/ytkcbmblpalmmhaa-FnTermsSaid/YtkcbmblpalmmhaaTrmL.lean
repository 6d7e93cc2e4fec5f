/- The law of terms: folding changes no value, and a replaced variable has the value of the expression that replaces it. -/
import Derived.Test.YtkcbmblpalmmhaaProg
import Derived.WalkKit
import Derived.ProofKit
import Derived.OwnWalk
import Derived.Outline
import Derived.Lib.Hide
import Derived.Test.YtkcbmblpalmmhaaMem
import Derived.Test.YtkcbmblpalmmhaaOwn
import Derived.Test.YtkcbmblpalmmhaaTmM
import Derived.Test.YtkcbmblpalmmhaaTmW
import Derived.Test.YtkcbmblpalmmhaaRet
import Derived.Test.YtkcbmblpalmmhaaSub
import Derived.Test.YtkcbmblpalmmhaaExM
import Derived.Test.YtkcbmblpalmmhaaEvM
import Derived.Test.YtkcbmblpalmmhaaEvS
import Derived.Test.YtkcbmblpalmmhaaEvI
import Derived.Test.YtkcbmblpalmmhaaFoldM
import Derived.Test.YtkcbmblpalmmhaaFoldS
import Derived.Test.YtkcbmblpalmmhaaFoldI
import Derived.Test.YtkcbmblpalmmhaaVarW
import Derived.Test.YtkcbmblpalmmhaaSrcB
import Derived.Test.YtkcbmblpalmmhaaTrmM
import Derived.Test.YtkcbmblpalmmhaaTrmW
namespace Go.Proofs.Ytkcbmblpalmmhaa
open Go.RowKit
/-- Numbers laid behind a row of the call's own. -/
theorem wpList_append_is {ops : Array Oper} {rest : List Oper} {o : Oper} {a : Act} {Q : Exit → Act → World → Prop} (hgd : o.guard = none) (s x : Operand)
    (ho : o.op = .call { callee := .builtin .append, args := #[s, x], argTypes := #[27, 27] })
    (w : World) (base : Nat) (v : Value) (n : Nat) (xs : List Int) (hs : a.eval s = v) (hown : w.ownsRow base 2 1 v n (xs.map (Value.int .i64)))
    (g m c base2 : Nat) (ys : List Int) (hx : a.eval x = .slice (some ⟨g, 0, none⟩) m c) (hy : w.ownsRow base2 2 1 (.slice (some ⟨g, 0, none⟩) m c) m (ys.map (Value.int .i64))) (hlen : n + m ≤ 8000000) (hbase : base ≤ w.heap.size)
    (h : ∀ A' c' w', w'.ownsRow base 2 1 (.slice A' (n + m) c') (n + m) ((xs ++ ys).map (Value.int .i64)) → w.grownBy w' v.ownBlock → wpList Try.prog ops Q rest (a.put o.dst (.slice A' (n + m) c')) w') :
    wpList Try.prog ops Q (o :: rest) a w := by
  obtain ⟨i0, hi, hz0, hz1, hz2⟩ := info_parts info_i64
  have hl := own_lenI hy
  refine wpList_append_own w hgd s x 27 ho base 2 i0 (.int .i64 0) 1 8 Try.underlying27 hi hz0 hz1 hz2 rfl (by decide) v n (xs.map (Value.int .i64)) hs hown ⟨g, 0, none⟩ m c (ys.map (Value.int .i64)) hx (by rw [List.length_map]; omega) ?_ ?_ (by unfold maxLen; omega) (by omega) hbase ?_
  · exact hy.cells rfl
  · intro y hy'; obtain ⟨q, _, rfl⟩ := List.mem_map.1 hy'; rfl
  · intro v' w' ho' hg _
    obtain ⟨A', c', rfl⟩ := own_slice ho'
    exact h A' c' w' (by simpa using ho') hg
theorem trow_own {w : World} {base n c : Nat} {A : Option Addr} {es : List Tm} (h : w.ownsRow base 68 2 (.slice A n c) n (tvs es)) : TRow w w.heap.size A es := Row.of_own2 h
set_option maxRecDepth 100000 in
set_option maxHeartbeats 4000000 in
theorem termsLaw_any (A1 : Option Addr) (n1 c1 : Nat) (xs1 : List Int) (A2 : Option Addr) (n2 c2 : Nat) (xs2 : List Int) (w : World) (hx1 : BRow w w.heap.size A1 xs1) (l1 : xs1.length = n1) (b1 : ∀ u ∈ xs1, 0 ≤ u ∧ u ≤ 255)
    (hx2 : BRow w w.heap.size A2 xs2) (l2 : xs2.length = n2) (b2 : ∀ u ∈ xs2, 0 ≤ u ∧ u ≤ 255) :
    Calls Try.prog 3 #[.slice A1 n1 c1, .slice A2 n2 c2] w fun e w' => e = .returned (.bool true) ∧ Below w.heap.size w w' := by
  by_cases hlong : 1048576 < n1 ∨ 1048576 < n2
  · have C := Lib.hid (r8Long_yes A1 A2 n1 c1 n2 c2 w hlong)
    clear hx1 l1 b1 hx2 l2 b2 hlong
    go_enter Try.func3, Try.ntmps3
    go_wp2_with fail
    refine (C.out).mono ?_; rintro e w' ⟨rfl, rfl⟩
    go_wp2
    go_ret
    exact ⟨rfl, Below.refl _ _⟩
  have m1 : n1 ≤ 1048576 := by omega
  have m2 : n2 ≤ 1048576 := by omega
  have C := Lib.hid (r8Long_no A1 A2 n1 c1 n2 c2 w m1 m2)
  have L1 := Lib.hid l1
  have L2 := Lib.hid l2
  have BB1 := Lib.hid b1
  have BB2 := Lib.hid b2
  have HX2 := Lib.hid hx2
  have CT := Lib.hid (r8Terms_any A1 n1 c1 xs1 w hx1 l1 m1 b1)
  clear hx1 l1 b1 hx2 l2 b2 hlong
  go_enter Try.func3, Try.ntmps3
  go_wp2_with fail
  refine (C.out).mono ?_; rintro e w' ⟨rfl, rfl⟩
  go_wp2_with fail
  refine (CT.out).mono ?_; rintro e w1 ⟨x, y, A3, n3, c3, A4, n4, c4, hok3, hok4, hl3, hl4, rfl, oE, oB, hb1⟩
  have OE1 := Lib.hid oE
  have OB1 := Lib.hid oB
  have HB1 := Lib.hid hb1
  have HN3 := Lib.hid (own_lenJ oE)
  have HN4 := Lib.hid (own_lenJ oB)
  have hn3 : n3 ≤ 60 := by have := own_lenJ oE; omega
  have hn4 : n4 ≤ 60 := by have := own_lenJ oB; omega
  have CV := Lib.hid (r8Values_any A2 n2 c2 xs2 w1 ((HX2.out.below hb1).more hb1.size) L2.out m2 BB2.out)
  clear oE oB hb1
  go_wp2_with fail
  refine (CV.out).mono ?_; rintro e w2 ⟨vals, hvl, hvd, A5, n5, c5, rfl, oV, hb2⟩
  have hn5 := own_lenI oV
  obtain rfl : n5 = 3 := by omega
  have OE2 := Lib.hid (own_below' OE1.out hb2)
  have OB2 := Lib.hid (own_below' OB1.out hb2)
  have OV2 := Lib.hid (own_lower oV HB1.out.size)
  have HB2 := Lib.hid (HB1.out.trans (hb2.mono HB1.out.size))
  have HVL := Lib.hid hvl
  have HVD := Lib.hid hvd
  have HOK3 := Lib.hid hok3
  have HOK4 := Lib.hid hok4
  have HL3 := Lib.hid hl3
  have HL4 := Lib.hid hl4
  have HEX := Lib.hid (evalR_tree hok3 hl3 hvl hvd)
  have HEY := Lib.hid (evalR_tree hok4 hl4 hvl hvd)
  have HFX := Lib.hid (foldR_tree hok3 hl3)
  have hfl : (foldX x).flat.length ≤ 60 := by have := foldX_len x; omega
  have HEF := Lib.hid (show evalR (foldX x).flat vals = (evX vals x, 0) by rw [evalR_tree (foldX_ok hok3) hfl hvl hvd, fold_ev])
  have HFL := Lib.hid hfl
  have HUB := Lib.hid (evX_bd (v := 3) (by rw [hvl]; rfl) hvd hok4)
  clear oV hb2 hvl hvd hok3 hok4 hl3 hl4 hn5 hfl OE1 OB1 HB1
  go_wp2_with fail
  refine (implEval_any A3 n3 c3 x.flat A5 3 c5 vals w2 _ _ _ (OwnV.mk' OE2.out) (Nat.le_refl _) HN3.out (by omega) _ _ _ (OwnV.mk' OV2.out) (Nat.le_refl _) HVL.out (by omega)).mono ?_
  rw [HEX.out]
  rintro e w3 ⟨rfl, hb3⟩
  have OE3 := Lib.hid (own_below' OE2.out hb3)
  have OB3 := Lib.hid (own_below' OB2.out hb3)
  have OV3 := Lib.hid (own_below' OV2.out hb3)
  have HB3 := Lib.hid (HB2.out.trans (hb3.mono HB2.out.size))
  clear hb3 HB2 OE2 OB2 OV2
  go_wp2_with fail
  refine (implEval_any A4 n4 c4 y.flat A5 3 c5 vals w3 _ _ _ (OwnV.mk' OB3.out) (Nat.le_refl _) HN4.out (by omega) _ _ _ (OwnV.mk' OV3.out) (Nat.le_refl _) HVL.out (by omega)).mono ?_
  rw [HEY.out]
  rintro e w4 ⟨rfl, hb4⟩
  have OE4 := Lib.hid (own_below' OE3.out hb4)
  have OB4 := Lib.hid (own_below' OB3.out hb4)
  have OV4 := Lib.hid (own_below' OV3.out hb4)
  have HB4 := Lib.hid (HB3.out.trans (hb4.mono HB3.out.size))
  clear hb4 HB3 OE3 OB3 OV3
  go_wp2_with fail
  refine (implFold_any A3 n3 c3 x.flat w4 _ _ _ (OwnV.mk' OE4.out) (Nat.le_refl _) HN3.out (by omega)).mono ?_
  rw [HFX.out]
  rintro e w5 ⟨A6, n6, c6, rfl, ho6, hb5⟩
  have OE5 := Lib.hid (own_below' OE4.out hb5)
  have OB5 := Lib.hid (own_below' OB4.out hb5)
  have OV5 := Lib.hid (own_below' OV4.out hb5)
  have OF5 := Lib.hid ho6.own
  have HN6 := Lib.hid (own_lenJ ho6.own)
  have hn6 : n6 ≤ 60 := by have h1 := own_lenJ ho6.own; have h2 := HFL.out; simp only at h1; omega
  have HB5 := Lib.hid (HB4.out.trans (hb5.mono HB4.out.size))
  clear ho6 hb5 OE4 OB4 OV4 HB4
  go_wp2_with fail
  refine (implEval_any A6 n6 c6 (foldX x).flat A5 3 c5 vals w5 _ _ _ (OwnV.mk' OF5.out) (Nat.le_refl _) HN6.out (by omega) _ _ _ (OwnV.mk' OV5.out) (Nat.le_refl _) HVL.out (by omega)).mono ?_
  rw [HEF.out]
  rintro e w6 ⟨rfl, hb6⟩
  have OE6 := Lib.hid (own_below' OE5.out hb6)
  have OB6 := Lib.hid (own_below' OB5.out hb6)
  have OV6 := Lib.hid (own_below' OV5.out hb6)
  have HB6 := Lib.hid (HB5.out.trans (hb6.mono HB5.out.size))
  clear hb6 HB5 OE5 OB5 OV5
  go_wp2_with fail
  refine (specEval_own A3 n3 c3 x.flat A5 3 c5 vals w6 _ _ _ (OwnV.mk' OE6.out) (Nat.le_refl _) HN3.out (by omega) _ _ _ (OwnV.mk' OV6.out) (Nat.le_refl _) HVL.out (by omega)).mono ?_
  rw [HEX.out]
  rintro e w7 ⟨rfl, hb7⟩
  have OE7 := Lib.hid (own_below' OE6.out hb7)
  have OB7 := Lib.hid (own_below' OB6.out hb7)
  have OV7 := Lib.hid (own_below' OV6.out hb7)
  have HB7 := Lib.hid (HB6.out.trans (hb7.mono HB6.out.size))
  clear hb7 HB6 OE6 OB6 OV6
  have hne : (evX vals x != evX vals x) = false := by simp
  go_wp2_with fail
  refine (r8At_any A2 n2 c2 xs2 w7 w.heap.size (HX2.out.below HB7.out) HB7.out.size L2.out BB2.out).mono ?_
  rintro e w' ⟨k, hk, rfl, rfl⟩
  go_wp2_with fail
  refine (implSub_law A3 n3 c3 x.flat (k : Int) A4 n4 c4 y.flat w7 _ (trow_own OE7.out) (Nat.le_refl _) HN3.out (by omega) _ (trow_own OB7.out) (Nat.le_refl _) HN4.out (by omega)).mono ?_
  rcases subR_tree HOK3.out HL3.out HOK4.out HL4.out hk with hs | ⟨hs, hsl⟩
  · have HSB := Lib.hid hs
    clear hs
    rw [HSB.out]
    rintro e w8 ⟨A7, n7, c7, rfl, ho7, hb8⟩
    have HB8 := Lib.hid (HB7.out.trans (hb8.mono HB7.out.size))
    clear ho7 hb8
    go_wp2
    go_ret
    exact ⟨rfl, HB8.out⟩
  have HSB := Lib.hid hs
  have HSL := Lib.hid hsl
  clear hs hsl
  rw [HSB.out]
  rintro e w8 ⟨A7, n7, c7, rfl, ho7, hb8⟩
  have OE8 := Lib.hid (own_below' OE7.out hb8)
  have OV8 := Lib.hid (own_below' OV7.out hb8)
  have OS8 := Lib.hid ho7.own
  have HN7 := Lib.hid (own_lenJ ho7.own)
  have hn7 : n7 ≤ 60 := by have h1 := own_lenJ ho7.own; have h2 := HSL.out; simp only at h1; omega
  have HB8 := Lib.hid (HB7.out.trans (hb8.mono HB7.out.size))
  clear ho7 hb8 OE7 OB7 OV7 HB7
  have HES := Lib.hid (show evalR (subX k y x).flat vals = (evX (vals.set k (evX vals y)) x, 0) by
    rw [evalR_tree (subX_ok HOK4.out HOK3.out) HSL.out HVL.out HVD.out, subX_ev (v := 3) (by rw [HVL.out]; exact hk) HOK3.out])
  have HEC := Lib.hid (evalR_tree (vals := vals.set k (evX vals y)) HOK3.out HL3.out (by rw [List.length_set]; exact HVL.out) (data_set HVD.out HUB.out))
  go_wp2_with fail
  refine (implEval_any A7 n7 c7 (subX k y x).flat A5 3 c5 vals w8 _ _ _ (OwnV.mk' OS8.out) (Nat.le_refl _) HN7.out (by omega) _ _ _ (OwnV.mk' OV8.out) (Nat.le_refl _) HVL.out (by omega)).mono ?_
  rw [HES.out]
  rintro e w9 ⟨rfl, hb9⟩
  have OE9 := Lib.hid (own_below' OE8.out hb9)
  have OV9 := Lib.hid (own_below' OV8.out hb9)
  have HB9 := Lib.hid (HB8.out.trans (hb9.mono HB8.out.size))
  clear hb9 HB8 OE8 OV8
  obtain ⟨g5, rfl, hg5a, hg5b⟩ := own_at OV9.out (by omega)
  have hw9 := HB9.out.size
  have OM9 := Lib.hid (show (w9.alloc (.cells #[] 2)).ownsRow w9.heap.size 2 1 (.slice (some ⟨w9.heap.size, 0, none⟩) 0 0) 0 (([] : List Int).map (Value.int .i64)) from World.ownsRow_made (e := 2) (size := 1) w9 #[] 0 (Nat.le_refl _) (Nat.zero_le _) rfl)
  have OVA := Lib.hid (OV9.out.alloc (.cells #[] 2))
  have hk3 : k < 3 := hk
  generalize hu : evX vals y = u at *
  clear hu
  go_wp2_with (at_builtin; refine wpList_append_is rfl _ _ rfl _ w9.heap.size (.slice (some ⟨w9.heap.size, 0, none⟩) 0 0) 0 [] rfl (by exact OM9.out) g5 3 c5 w.heap.size vals rfl (by exact OVA.out) (by omega) (by simp) ?_; intro A8 c8 w10 ho8 hg8; rw [List.nil_append] at ho8; obtain ⟨g8, rfl, hg8a, hg8b⟩ := own_at ho8 (by omega); obtain ⟨⟨old8, hc8⟩, hf8⟩ := own_some ho8 (k := k) (by omega); have OC := Lib.hid (ho8.stored k (.int .i64 u)); have OEC := Lib.hid ((OE9.out.alloc (.cells #[] 2)).kept hg8 (by rcases e : (Value.slice A3 n3 c3).ownBlock with _ | b; exact .inl rfl; exact .inr (by have := (OE9.out.lt b e).2; intro e2; have e3 : b = w9.heap.size := (by injection e2); omega))); have HB10 := Lib.hid ((HB9.out.alloc hw9 (.cells #[] 2)).grown hg8 (by simp; omega) (fun g e => by cases e; exact hw9)); have hw10 := HB10.out.size; clear ho8 hg8)
  have HW := Lib.hid (HB10.out.setCell (p := ⟨g8, k, none⟩) (show w.heap.size ≤ g8 by omega) (.int .i64 u))
  have OEW := Lib.hid (OEC.out.kept OC.out.2 (by
    rcases e : (Value.slice A3 n3 c3).ownBlock with _ | b
    · exact .inl rfl
    · refine .inr ?_
      have := (OE9.out.lt b e).2
      intro e2
      have e3 : b = g8 := by injection e2
      omega))
  have OCW := Lib.hid OC.out.1
  rw [← List.map_set] at OCW
  go_wp2_with fail
  refine (implEval_any A3 n3 c3 x.flat (some ⟨g8, 0, none⟩) 3 c8 (vals.set k u) _ _ _ _ (OwnV.mk' OEW.out) (Nat.le_refl _) HN3.out (by omega) _ _ _ (OwnV.mk' OCW.out) (Nat.le_refl _) (by rw [List.length_set]; exact HVL.out) (by omega)).mono ?_
  rw [HEC.out]
  rintro e w11 ⟨rfl, hb11⟩
  have HB11 := Lib.hid (HW.out.trans (hb11.mono HW.out.size))
  have hne2 : (evX (vals.set k u) x == evX (vals.set k u) x) = true := by simp
  clear hb11
  go_wp2
  go_ret
  exact ⟨rfl, HB11.out⟩
end Go.Proofs.Ytkcbmblpalmmhaa
