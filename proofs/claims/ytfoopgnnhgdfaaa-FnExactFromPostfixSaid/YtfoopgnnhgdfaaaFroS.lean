/- From postfix forms: the model's answer is that of the plain function. -/
import Derived.Test.YtfoopgnnhgdfaaaProg
import Derived.WalkKit
import Derived.ProofKit
import Derived.OwnWalk
import Derived.Outline
import Derived.Lib.Hide
import Derived.Test.YtfoopgnnhgdfaaaMem
import Derived.Test.YtfoopgnnhgdfaaaOwn
import Derived.Test.YtfoopgnnhgdfaaaL00
import Derived.Test.YtfoopgnnhgdfaaaTmM
import Derived.Test.YtfoopgnnhgdfaaaTmW
import Derived.Test.YtfoopgnnhgdfaaaTmV
import Derived.Test.YtfoopgnnhgdfaaaRet
import Derived.Test.YtfoopgnnhgdfaaaApp
import Derived.Test.YtfoopgnnhgdfaaaBuildT
import Derived.Test.YtfoopgnnhgdfaaaConc
import Derived.Test.YtfoopgnnhgdfaaaJoin
import Derived.Test.YtfoopgnnhgdfaaaExM
import Derived.Test.YtfoopgnnhgdfaaaOpnd
import Derived.Test.YtfoopgnnhgdfaaaStkM
import Derived.Test.YtfoopgnnhgdfaaaStk
import Derived.Test.YtfoopgnnhgdfaaaFroM
namespace Go.Proofs.Ytfoopgnnhgdfaaa
open Go.RowKit
/-- Only the first k lists of a slice of slices. -/
theorem BuildT.cut {w : World} {lo c k : Nat} {A : Option Addr} {xss : List (List Tm)} (h : BuildT w lo (.slice A xss.length c) xss) (hk : k ≤ xss.length) : BuildT w lo (.slice A k c) (xss.take k) := by
  obtain ⟨d, hd⟩ : ∃ d, d = xss.length - k := ⟨_, rfl⟩
  induction d generalizing k with
  | zero =>
    obtain rfl : k = xss.length := by omega
    rw [List.take_length]; exact h
  | succ d ih =>
    have h1 := ih (k := k + 1) (by omega) (by omega)
    have hx : xss[k]? = some xss[k] := List.getElem?_eq_getElem (by omega)
    rw [take_one _ _ _ hx] at h1
    have hl : (xss.take k).length = k := by rw [List.length_take]; omega
    have h2 := BuildT.pop (xss := xss.take k) (x := xss[k]) (by rw [hl]; exact h1)
    rwa [hl] at h2
theorem BuildT.ttrow {w : World} {lo c : Nat} {A : Option Addr} {xss : List (List Tm)} {n : Nat} (h : BuildT w lo (.slice A n c) xss) : TTRow w w.heap.size A xss ∧ n = xss.length ∧ n ≤ c := by
  have hcap : n ≤ c := by
    obtain ⟨G, C, h1, _⟩ := h
    have hl := h1.1
    rw [innerT_length] at hl
    rcases h1.2 with ⟨e, _⟩ | ⟨g, cap, cur, e, _, _, hnc, _⟩
    · injection e with _ e2 e3; omega
    · injection e with _ e2 e3; omega
  obtain ⟨A', c', e, ho⟩ := h.done
  injection e with e1 e2 e3
  subst e1
  exact ⟨ho.row, e2, hcap⟩
theorem pile_snoc (y : Ex) (l : List Ex) : pile (y :: l) = pile l ++ [y.flat] := by simp [pile]
set_option maxRecDepth 100000 in
set_option maxHeartbeats 8000000 in
theorem specFrom_any (A : Option Addr) (n c : Nat) (es : List Tm) (w : World) (T : TypeId) (lo hi : Nat) (h : OwnV w lo hi T 2 A n c (tvs es)) (hB : hi ≤ w.heap.size) (l : es.length = n) (m : n ≤ 2000000) :
    Calls Try.prog 53 #[.slice A n c] w fun e w' => RetT2 w (fromR es) e w' := by
  have hrow := h.trow.more hB
  clear h hB
  have L := Lib.hid l
  by_cases hn60 : n ≤ 60
  · have hn60' : ¬ (60 : Int) < (n : Int) := by omega
    have HB0 := Lib.hid (show BuildT (w.alloc (.cells #[] 24)) w.heap.size (.slice (some ⟨w.heap.size, 0, none⟩) 0 0) (pile []) from BuildT.made w w.heap.size (Nat.le_refl _))
    have HW0 := Lib.hid (show Below w.heap.size w (w.alloc (.cells #[] 24)) from (Below.refl _ _).alloc (Nat.le_refl _) _)
    clear l
    go_enter Try.func53, Try.ntmps53
    go_wp2
    go_loopw [4, 5, 6, 7, 8, 9] (fun p i _ _ _ _ wr => ∃ (j : Nat) (l : List Ex) (A : Option Addr) (N c : Nat), j ≤ n ∧ i = .int .i64 (j : Int) ∧ p = .slice A N c ∧ N = l.length ∧ N ≤ 60 ∧ Hid (BuildT wr w.heap.size (.slice A N c) (pile l)) ∧ Hid (Below w.heap.size w wr) ∧ Hid (Read es j l)) (fun _ i _ _ _ _ _ => n - (intOf i).toNat)
    case atStart => exact ⟨0, [], some ⟨w.heap.size, 0, none⟩, 0, 0, Nat.zero_le _, rfl, rfl, rfl, by omega, HB0, HW0, Lib.hid (read_zero es)⟩
    case round =>
      obtain ⟨j, l, A2, N, c2, hj, rfl, rfl, hNl, hN60, HBU, HBE, HRD⟩ := hrel
      have hbel := HBE.out
      have hws := hbel.size
      by_cases hlt : j < n
      · obtain ⟨wo, rfl⟩ : ∃ wo, wo = wr := ⟨_, rfl⟩
        obtain ⟨b, o, t, rfl, hb, hc1, hc2, ht⟩ := (hrow.below hbel).at_ (k := j) (by rw [L.out]; exact hlt)
        have hbw : b < wo.heap.size := by omega
        have CT := Lib.hid (l03Term_any b (o + j * 2) t 29 wo hc1 hc2 (by omega) (by omega))
        have CA := Lib.hid (l03Arity_any b (o + j * 2) t wo hc1)
        rcases hv : tmB 29 t with _ | _
        · have H := Lib.hid (fromR_no (read_bad HRD.out ht.out (.inl hv)))
          have HV := Lib.hid hv
          clear hv hbel
          go_wp2_with (go_at_call 88; refine (CT.out).mono ?_; rw [HV.out]; rintro e w' ⟨rfl, rfl⟩)
          go_ret2
          exact RetT2.nil H.out HBE.out
        · have HV := Lib.hid hv
          by_cases hfew : (l.length : Int) < ar t
          · have H := Lib.hid (fromR_no (read_bad HRD.out ht.out (.inr hfew)))
            have hbd := ar_bd t
            have hneg : (N : Int) - ar t < 0 := by omega
            clear hv hbel
            go_wp2_with (first
              | (go_at_call 88; refine (CT.out).mono ?_; rw [HV.out]; rintro e w' ⟨rfl, rfl⟩)
              | (go_at_call 77; refine (CA.out).mono ?_; rintro e w' ⟨rfl, rfl⟩))
            go_ret2
            exact RetT2.nil H.out HBE.out
          · obtain ⟨y, l', hrd, hq, hql, htk, hyf⟩ := read_next HRD.out ht.out hv hfew
            obtain ⟨q, hqe⟩ : ∃ q, q = l'.length := ⟨_, rfl⟩
            obtain ⟨mm, hmm⟩ : ∃ mm : Nat, ar t = (mm : Int) := ⟨(ar t).toNat, by have := ar_bd t; omega⟩
            have hNq : N = q + mm := by omega
            have hmm2 : mm ≤ 2 := by have := ar_bd t; omega
            have hcnt := read_count hrd
            obtain ⟨htt, hNp, hNc⟩ := HBU.out.ttrow
            have hcut := BuildT.cut (k := q) (c := c2) (A := A2) (xss := pile l) (by rw [← hNp]; exact HBU.out) (by rw [pile_length]; omega)
            rw [hqe, htk, ← hqe] at hcut
            rw [← hqe] at hyf
            have HCUT := Lib.hid hcut
            have HYF := Lib.hid hyf
            have HRD2 := Lib.hid hrd
            have HY60 := Lib.hid (show y.flat.length ≤ 60 by have := hcnt.2 y (by simp); have := L.out; omega)
            have hl60 : (y :: l').length ≤ 60 := by have := hcnt.1; have := L.out; omega
            have hq60 : q + 1 ≤ 60 := by rw [List.length_cons] at hl60; omega
            have HTT := Lib.hid htt
            have HPN := Lib.hid hNp
            have HM := Lib.hid hmm
            have HQE := Lib.hid hqe
            have hsl := slice_rows A2 (q + mm) c2 q (by omega)
            have HOS := Lib.hid (own_single wo t wo.heap.size (Nat.le_refl _))
            have HA := Lib.hid ((Below.refl wo.heap.size wo).alloc (Nat.le_refl _) (.cells #[.int .i64 t.k, .int .i64 t.v] 77))
            subst hNq
            clear hv hbel hrd hq hql htk hyf hqe hmm hcnt htt hNp hcut hfew hNl
            go_wp2_with (first
              | (go_at_call 88; refine (CT.out).mono ?_; rw [HV.out]; rintro e w' ⟨rfl, rfl⟩)
              | (go_at_call 77; refine (CA.out).mono ?_; rw [HM.out]; rintro e w' ⟨rfl, rfl⟩))
            go_loopw [8, 9] (fun xv kv w2 => ∃ (k q2 cx : Nat) (X : Option Addr) (acc : List Tm), q ≤ k ∧ k ≤ q + mm ∧ kv = .int .i64 (k : Int) ∧ xv = .slice X q2 cx ∧ Hid (w2.ownsRow wo.heap.size 77 2 (.slice X q2 cx) q2 (tvs acc)) ∧ Hid (Below wo.heap.size wo w2) ∧ Hid (acc ++ ((pile l).drop k).flatten = y.flat)) (fun _ kv _ => q + mm - (intOf kv).toNat)
            case atStart => exact ⟨q, 1, 1, some ⟨wo.heap.size, 0, none⟩, [t], Nat.le_refl _, by omega, rfl, rfl, HOS, HA, Lib.hid (by rw [HYF.out]; rfl)⟩
            case round =>
              obtain ⟨k, q2, cx, X, acc, hk1, hk2, rfl, rfl, HO5, HB5, HAC⟩ := hrel
              have hs5 := HB5.out.size
              have hq2 : q2 ≤ 60 := by
                have h1 := own_lenJ HO5.out
                have h2 := congrArg List.length HAC.out
                have h3 := HY60.out
                rw [List.length_append] at h2
                omega
              by_cases hkl : k < q + mm
              · obtain ⟨b6, o6, A6, c6, xs6, rfl, hb6, hc6, hr6, hx6⟩ := (HTT.out.below HB5.out).at_ (k := k) (by rw [← HPN.out]; exact hkl)
                have HAC2 := Lib.hid (show (acc ++ xs6) ++ ((pile l).drop (k + 1)).flatten = y.flat by
                  rw [← HAC.out, drop_one _ _ _ hx6.out]; simp)
                have hl6 : xs6.length ≤ 60 := by
                  have h2 := congrArg List.length HAC2.out
                  have h3 := HY60.out
                  rw [List.length_append, List.length_append] at h2
                  omega
                have HR6 := Lib.hid hr6
                have hb6' : b6 < wr.heap.size := by omega
                clear hr6
                go_wp2_with (at_builtin; refine wpList_append_tms rfl _ _ rfl _ wo.heap.size wo.heap.size (.slice X q2 cx) q2 acc rfl (by exact HO5.out) A6 xs6.length c6 xs6 rfl (by exact HR6.out) rfl (by omega) hs5 ?_; intro A7 c7 w7 ho7 hg7; have HO7 := Lib.hid ho7; have HB7 := Lib.hid (HB5.out.grown hg7 hs5 (fun g e => (HO5.out.lt g e).1)); clear ho7 hg7)
                go_roundw
                case rel => exact ⟨k + 1, q2 + xs6.length, c7, A7, acc ++ xs6, by omega, by omega, by first | rfl | go_num, rfl, HO7, HB7, HAC2⟩
                case measure => simp [intOf] <;> omega
              · obtain rfl : k = q + mm := by omega
                have hacc : acc = y.flat := by
                  have := HAC.out
                  rw [List.drop_eq_nil_of_le (by rw [← HPN.out]; exact Nat.le_refl _)] at this
                  simpa using this
                subst hacc
                have hln := own_lenJ HO5.out
                have ho5 := HO5.out
                rw [← hln] at ho5
                have HO6 := Lib.hid ho5
                have HLN := Lib.hid hln
                have HPS := Lib.hid (pile_snoc y l')
                have hpl : (pile l').length ≤ 2000000 := by rw [pile_length]; rw [List.length_cons] at hl60; omega
                clear ho5 hln
                go_wp2_with (at_builtin; refine wpList_append_trow rfl _ _ rfl wo _ w.heap.size wo.heap.size (pile l') y.flat X cx _ rfl (by exact HCUT.out) hws (HB5.out.alloc hs5 _) (Nat.le_refl _) (OwnV.mk' (HO6.out.alloc _)) wr.heap.size rfl (by rw [HLN.out]; exact cell_first _ _ _) hpl ?_; intro v' w8 hbu8 hb8; rw [← HPS.out] at hbu8; obtain ⟨A8, c8, e8⟩ := hbu8.val; rw [pile_length] at e8; rw [e8] at hbu8; subst e8; have HBU8 := Lib.hid hbu8; have HB8 := Lib.hid (HBE.out.trans hb8); clear hbu8 hb8)
                go_roundw
                case rel => exact ⟨j + 1, y :: l', A8, (y :: l').length, c8, by omega, by first | rfl | go_num, by first | rfl | simp, rfl, hl60, HBU8, HB8, HRD2⟩
                case measure => simp [intOf] <;> omega
      · obtain rfl : j = n := by omega
        have hrd := HRD.out
        rw [← L.out] at hrd
        rcases read_done hrd (by rw [L.out]; exact hn60) with ⟨y, rfl, H⟩ | ⟨h1, H⟩
        · have H := Lib.hid H
          have hNl1 : N = 1 := hNl
          clear hNl
          subst hNl1
          obtain ⟨g, A3, c3, rfl, hg, hc3, ho3, _⟩ := BuildT.last (xss := []) (x := y.flat) (by simpa [pile] using HBU.out)
          have hc3' : wr.cell? ⟨g, 0, none⟩ = some (.slice A3 y.flat.length c3) := by simpa using hc3
          have HO := Lib.hid ho3
          clear hc3 ho3 hbel hrd
          go_wp2
          go_ret2
          exact RetT2.mk' H.out HO.out HBE.out
        · have H := Lib.hid H
          have hN1 : ((N : Int) != 1) = true := by simp; omega
          clear hbel hrd hNl
          go_wp2
          go_ret2
          exact RetT2.nil H.out HBE.out
  · have hn60' : (60 : Int) < (n : Int) := by omega
    have H := Lib.hid (fromR_no (es := es) (exB_long (by rw [List.length_reverse, l]; omega)))
    clear l
    go_enter Try.func53, Try.ntmps53
    go_wp2
    go_ret2
    exact RetT2.nil H.out (Below.refl _ _)
end Go.Proofs.Ytfoopgnnhgdfaaa
