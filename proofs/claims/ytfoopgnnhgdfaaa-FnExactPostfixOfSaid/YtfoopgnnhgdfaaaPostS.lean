/- Postfix forms: the model's answer is that of the plain function. -/
import Derived.Test.YtfoopgnnhgdfaaaProg
import Derived.WalkKit
import Derived.ProofKit
import Derived.OwnWalk
import Derived.Outline
import Derived.Lib.Hide
import Derived.Test.YtfoopgnnhgdfaaaMem
import Derived.Test.YtfoopgnnhgdfaaaOwn
import Derived.Test.YtfoopgnnhgdfaaaL00
import Derived.Test.YtfoopgnnhgdfaaaTmM
import Derived.Test.YtfoopgnnhgdfaaaTmW
import Derived.Test.YtfoopgnnhgdfaaaTmV
import Derived.Test.YtfoopgnnhgdfaaaRet
import Derived.Test.YtfoopgnnhgdfaaaApp
import Derived.Test.YtfoopgnnhgdfaaaBuildT
import Derived.Test.YtfoopgnnhgdfaaaConc
import Derived.Test.YtfoopgnnhgdfaaaJoin
import Derived.Test.YtfoopgnnhgdfaaaExM
import Derived.Test.YtfoopgnnhgdfaaaOpnd
import Derived.Test.YtfoopgnnhgdfaaaStkM
import Derived.Test.YtfoopgnnhgdfaaaStk
namespace Go.Proofs.Ytfoopgnnhgdfaaa
open Go.RowKit
theorem pile_cons (f : Ex → List Tm) (y : Ex) (l : List Ex) : ((y :: l).map f).reverse = (l.map f).reverse ++ [f y] := by simp
theorem pile_len (f : Ex → List Tm) (l : List Ex) : ((l.map f).reverse).length = l.length := by simp
theorem flats_count : ∀ l : List Ex, l.length ≤ (l.flatMap Ex.flat).length := by
  intro l
  induction l with
  | nil => simp
  | cons x l ih =>
    have := Ex.flat_pos x
    rw [List.flatMap_cons, List.length_append, List.length_cons]
    omega
theorem flats_le {l : List Ex} {es : List Tm} {j n : Nat} (h : l.flatMap Ex.flat = es.drop j) (hn : es.length ≤ n) : l.length ≤ n := by
  have h1 := congrArg List.length h
  have h2 := flats_count l
  rw [List.length_drop] at h1
  omega
set_option maxRecDepth 100000 in
set_option maxHeartbeats 8000000 in
theorem specPost_any (A : Option Addr) (n c : Nat) (es : List Tm) (w : World) (T : TypeId) (lo hi : Nat) (h : OwnV w lo hi T 2 A n c (tvs es)) (hB : hi ≤ w.heap.size) (l : es.length = n) (m : n ≤ 2000000) :
    Calls Try.prog 51 #[.slice A n c] w fun e w' => RetT2 w (postR es) e w' := by
  have hrow := h.trow.more hB
  clear h hB
  have C := Lib.hid (specAny_any A n c es w w.heap.size hrow l m)
  have L := Lib.hid l
  rcases hv : exB 29 60 es with _ | _
  · have H := Lib.hid (postR_no hv)
    have HV := Lib.hid hv
    clear hv l
    go_enter Try.func51, Try.ntmps51
    go_wp2_with (go_at_call 74; refine (C.out).mono ?_; rw [HV.out]; rintro e w' ⟨rfl, rfl⟩)
    go_ret2
    exact RetT2.nil H.out (Below.refl _ _)
  · have H := Lib.hid (postR_yes hv)
    have HV := Lib.hid hv
    have hscan := (exB_scan hv).1
    have hn60 : n ≤ 60 := by have := (exB_scan hv).2; omega
    have HS := Lib.hid hscan
    have HB0 := Lib.hid (show BuildT (w.alloc (.cells #[] 24)) w.heap.size (.slice (some ⟨w.heap.size, 0, none⟩) 0 0) ((([] : List Ex).map postX).reverse) from BuildT.made w w.heap.size (Nat.le_refl _))
    have HW0 := Lib.hid (show Below w.heap.size w (w.alloc (.cells #[] 24)) from (Below.refl _ _).alloc (Nat.le_refl _) _)
    clear hv hscan l
    go_enter Try.func51, Try.ntmps51
    go_wp2_with (go_at_call 74; refine (C.out).mono ?_; rw [HV.out]; rintro e w' ⟨rfl, rfl⟩)
    go_loopw [4, 5, 6, 7, 8] (fun p i _ _ _ wr => ∃ (j : Nat) (l : List Ex) (A : Option Addr) (c : Nat), j ≤ n ∧ i = .int .i64 ((j : Int) - 1) ∧ p = .slice A l.length c ∧ Hid (BuildT wr w.heap.size (.slice A l.length c) ((l.map postX).reverse)) ∧ Hid (Below w.heap.size w wr) ∧ l.length ≤ 60 ∧ Hid (l.flatMap Ex.flat = es.drop j) ∧ Hid (∀ y ∈ l, y.ok 29)) (fun _ i _ _ _ _ => (intOf i + 1).toNat)
    case atStart => exact ⟨n, [], some ⟨w.heap.size, 0, none⟩, 0, Nat.le_refl _, rfl, rfl, HB0, HW0, by simp, Lib.hid (by rw [List.drop_eq_nil_of_le (by rw [L.out]; exact Nat.le_refl _)]; rfl), Lib.hid (by simp)⟩
    case round =>
      obtain ⟨j, l, A2, c2, hj, hieq, rfl, HBU, HBE, hl60, HD, HOK⟩ := hrel
      have hbel := HBE.out
      have hws := hbel.size
      rcases j with _ | j
      · obtain rfl : l = [treeOf es] := suf_done HV.out (by rw [HD.out]; rfl) HOK.out
        obtain ⟨g, A3, c3, rfl, hg, hc3, ho3, _⟩ := BuildT.last (xss := []) (x := postX (treeOf es)) (by simpa using HBU.out)
        have hm1 : (((0 : Nat) : Int) - 1) = -1 := by omega
        rw [hm1] at hieq
        subst hieq
        have hc3' : wr.cell? ⟨g, 0, none⟩ = some (.slice A3 (postX (treeOf es)).length c3) := by simpa using hc3
        have HO := Lib.hid ho3
        clear hc3 ho3 hbel
        go_wp2
        go_ret2
        exact RetT2.mk' H.out HO.out HBE.out
      · obtain ⟨wo, rfl⟩ : ∃ wo, wo = wr := ⟨_, rfl⟩
        have hi : (((j + 1 : Nat) : Int) - 1) = (j : Int) := by omega
        rw [hi] at hieq
        subst hieq
        have hjn : j < n := by omega
        obtain ⟨b, o, t, rfl, hb, hc1, hc2, ht⟩ := (hrow.below hbel).at_ (k := j) (by rw [L.out]; exact hjn)
        obtain ⟨x0, l', hx0, htop, hll, har, hfl⟩ := suf_step HS.out ht.out HD.out HOK.out
        subst hll
        have HFL := Lib.hid hfl
        have HX0 := Lib.hid hx0
        have HTOP := Lib.hid htop
        have HOK' := Lib.hid (show ∀ y ∈ x0 :: l', y.ok 29 from fun y hy => (List.mem_cons.1 hy).elim (fun e => e ▸ hx0) (fun e => HOK.out y (by simp [e])))
        have hbw : b < wo.heap.size := by omega
        have HAR := Lib.hid har
        have HLX := Lib.hid (show (x0.kids.flatMap postX).length + 1 ≤ 60 by
          have h1 := congrArg List.length hfl
          have h2 := postX_len x0
          have h3 := congrArg List.length (postX_kids x0)
          rw [List.flatMap_cons, List.length_append, List.length_drop, L.out] at h1
          rw [List.length_append, List.length_singleton] at h3
          omega)
        have hl60' : (x0 :: l').length ≤ 60 := flats_le hfl (by rw [L.out]; exact hn60)
        have hk2 : x0.kids.length ≤ 2 := by cases x0 <;> simp [Ex.kids]
        have HA := Lib.hid ((Below.refl wo.heap.size wo).alloc (Nat.le_refl _) (.cells #[] 77))
        have hca := (HA.out.cell (p := ⟨b, o + j * 2, none⟩) hbw).trans hc1
        have HM := Lib.hid (own_made wo)
        clear hfl hx0 htop har hbel
        go_wp2_with (go_at_call 77; refine (l03Arity_any b (o + j * 2) t _ hca).mono ?_; rw [HAR.out]; rintro e w' ⟨rfl, rfl⟩)
        go_loopw [4, 6, 7, 8] (fun p xv kv _ wr => ∃ (ks : List Ex) (acc : List Tm) (A X : Option Addr) (c q cx : Nat), kv = .int .i64 (ks.length : Nat) ∧ p = .slice A (ks ++ l').length c ∧ Hid (BuildT wo w.heap.size (.slice A (ks ++ l').length c) (((ks ++ l').map postX).reverse)) ∧ Hid (Below wo.heap.size wo wr) ∧ xv = .slice X q cx ∧ Hid (wr.ownsRow wo.heap.size 77 2 (.slice X q cx) q (tvs acc)) ∧ ks.length ≤ 2 ∧ (ks ++ l').length ≤ 62 ∧ Hid (acc ++ ks.flatMap postX = x0.kids.flatMap postX)) (fun _ _ kv _ _ => (intOf kv).toNat)
        case atStart => exact ⟨x0.kids, [], A2, some ⟨wo.heap.size, 0, none⟩, c2, 0, 0, rfl, by simp, HBU, HA, rfl, HM, hk2, by omega, Lib.hid (by simp)⟩
        case round =>
          obtain ⟨ks, acc, A5, X, c5, q, cx, rfl, rfl, HBU5, HB5, rfl, HO5, hks2, hkl, HAC⟩ := hrel
          have hq : q ≤ 60 := by
            have h1 := own_lenJ HO5.out
            have h2 := congrArg List.length HAC.out
            have h3 := HLX.out
            rw [List.length_append] at h2
            omega
          have hs5 := HB5.out.size
          rcases ks with _ | ⟨y, ks⟩
          · have hcb := (HB5.out.cell (p := ⟨b, o + j * 2, none⟩) hbw).trans hc1
            have hcv := (HB5.out.cell (p := ⟨b, o + j * 2 + 1, none⟩) hbw).trans hc2
            have hbw2 : b < wr.heap.size := by omega
            have HRT := Lib.hid (trow_one wr t 77)
            have HO6 := Lib.hid (own_below' HO5.out ((Below.refl _ _).alloc (Nat.le_refl _) (.cells #[.int .i64 t.k, .int .i64 t.v] 77)))
            have hs6 : wo.heap.size ≤ (wr.alloc (.cells #[.int .i64 t.k, .int .i64 t.v] 77)).heap.size := by simp; omega
            have HXS := Lib.hid (show acc ++ [t] = postX x0 by
              rw [postX_kids, ← HAC.out, HTOP.out]; simp)
            have HPL := Lib.hid (pile_cons postX x0 l')
            have HBU7 := Lib.hid (show BuildT wo w.heap.size (.slice A5 l'.length c5) ((l'.map postX).reverse) from by simpa using HBU5.out)
            have hll : ((l'.map postX).reverse).length ≤ 2000000 := by rw [pile_len]; simp at hl60'; omega
            have hB6 := HB5.out.alloc hs5 (.cells #[.int .i64 t.k, .int .i64 t.v] 77)
            have HB6 := Lib.hid hB6
            clear hB6
            go_wp2_with (first
              | (at_builtin; refine wpList_append_tms rfl _ _ rfl _ wo.heap.size (wr.heap.size + 1) (.slice X q cx) q acc rfl (by exact HO6.out) (some ⟨wr.heap.size, 0, none⟩) 1 1 [t] rfl (by exact HRT.out) rfl (by omega) (by exact hs6) ?_; intro A7 c7 w7 ho7 hg7; have hb7 := HB6.out.grown hg7 hs6 (fun g e => (HO6.out.lt g e).1); rw [HXS.out] at ho7; have hln7 := own_lenJ ho7; rw [← hln7] at ho7; have HO7 := Lib.hid ho7; have HLN7 := Lib.hid hln7; have HB7 := Lib.hid hb7; have hs7 := hb7.size; clear ho7 hg7 hb7)
              | (at_builtin; refine wpList_append_trow rfl _ _ rfl wo _ w.heap.size wo.heap.size ((l'.map postX).reverse) (postX x0) A7 c7 _ rfl (by exact HBU7.out) hws (HB7.out.alloc hs7 _) (Nat.le_refl _) (OwnV.mk' (HO7.out.alloc _)) w7.heap.size rfl (by rw [HLN7.out]; exact cell_first _ _ _) hll ?_; intro v' w8 hbu8 hb8; rw [← HPL.out] at hbu8; obtain ⟨A8, c8, e8⟩ := hbu8.val; rw [pile_len] at e8; rw [e8] at hbu8; subst e8; have HBU8 := Lib.hid hbu8; have HB8 := Lib.hid (HBE.out.trans hb8); clear hbu8 hb8))
            go_roundw
            case rel => exact ⟨j, x0 :: l', A8, c8, by omega, by first | rfl | go_num, by first | rfl | simp, HBU8, HB8, hl60', HFL, HOK'⟩
            case measure => simp [intOf] <;> omega
          · have hb5 : BuildT wo w.heap.size (.slice A5 ((((ks ++ l').map postX).reverse).length + 1) c5) (((ks ++ l').map postX).reverse ++ [postX y]) := by
              rw [pile_len, ← pile_cons]; exact HBU5.out
            obtain ⟨g5, A6, c6, rfl, hg5, hcell, hoy, hcap⟩ := BuildT.last hb5
            have hpop := BuildT.pop hb5
            rw [pile_len] at hcell hcap hpop
            have HPOP := Lib.hid hpop
            have hcell2 := (HB5.out.cell (p := ⟨g5, (ks ++ l').length, none⟩) hg5).trans hcell
            have hg52 : g5 < wr.heap.size := by omega
            have HRY := Lib.hid (show TRow wr wo.heap.size A6 (postX y) from TRow.below (Row.of_own2 hoy) HB5.out)
            have HAC2 := Lib.hid (show (acc ++ postX y) ++ ks.flatMap postX = x0.kids.flatMap postX by rw [← HAC.out]; simp)
            have hly : (postX y).length ≤ 60 := by
              have h2 := congrArg List.length HAC2.out
              have h3 := HLX.out
              rw [List.length_append, List.length_append] at h2
              omega
            have hkl2 : (ks ++ l').length ≤ 62 := by rw [List.cons_append, List.length_cons] at hkl; omega
            have hks3 : ks.length ≤ 2 := by rw [List.length_cons] at hks2; omega
            have hKL : (y :: ks).length = ks.length + 1 := rfl
            have hKP : (y :: ks ++ l').length = (ks ++ l').length + 1 := rfl
            obtain ⟨K, hK⟩ : ∃ K, K = (ks ++ l').length := ⟨_, rfl⟩
            obtain ⟨q2, hq2⟩ : ∃ q2, q2 = ks.length := ⟨_, rfl⟩
            rw [hKL, hKP, ← hK, ← hq2]
            rw [← hK] at hcell2 hcap
            have hK62 : K ≤ 62 := by rw [hK]; exact hkl2
            have hq22 : q2 ≤ 2 := by rw [hq2]; exact hks3
            have HK := Lib.hid hK
            have HQ := Lib.hid hq2
            have hsl := slice_rows (some ⟨g5, 0, none⟩) (K + 1) c5 K (by omega)
            clear hb5 hpop hcell hoy hK hq2 hKL hKP hkl
            go_wp2_with (at_builtin; refine wpList_append_tms rfl _ _ rfl _ wo.heap.size wo.heap.size (.slice X q cx) q acc rfl (by exact HO5.out) A6 (postX y).length c6 (postX y) rfl (by exact HRY.out) rfl (by omega) hs5 ?_; intro A7 c7 w7 ho7 hg7; have HO7 := Lib.hid ho7; have HB7 := Lib.hid (HB5.out.grown hg7 hs5 (fun g e => (HO5.out.lt g e).1)); clear ho7 hg7)
            go_roundw
            case rel => exact ⟨ks, acc ++ postX y, some ⟨g5, 0, none⟩, A7, c5, q + (postX y).length, c7, by rw [← HQ.out], by rw [← HK.out], HPOP, HB7, rfl, HO7, hks3, hkl2, HAC2⟩
            case measure => simp [intOf] <;> omega
end Go.Proofs.Ytfoopgnnhgdfaaa
