/- The operands of the first term: the program's answer is that of the plain function. -/
import Derived.Test.YtfoopgnnhgdfaaaProg
import Derived.WalkKit
import Derived.ProofKit
import Derived.Outline
import Derived.Lib.Hide
import Derived.Test.YtfoopgnnhgdfaaaMem
import Derived.Test.YtfoopgnnhgdfaaaOwn
import Derived.Test.YtfoopgnnhgdfaaaTmM
import Derived.Test.YtfoopgnnhgdfaaaTmW
import Derived.Test.YtfoopgnnhgdfaaaTmI
import Derived.Test.YtfoopgnnhgdfaaaRet
import Derived.Test.YtfoopgnnhgdfaaaApp
import Derived.Test.YtfoopgnnhgdfaaaShift
import Derived.Test.YtfoopgnnhgdfaaaBuildT
import Derived.Test.YtfoopgnnhgdfaaaExM
import Derived.Test.YtfoopgnnhgdfaaaCut
import Derived.Test.YtfoopgnnhgdfaaaSubM
import Derived.Test.YtfoopgnnhgdfaaaOpnd
namespace Go.Proofs.Ytfoopgnnhgdfaaa
open Go.RowKit
/-- Where the loop over the rest of an expression stands. -/
def RestIs (w0 : World) (B : Nat) (x : Ex) (v rv : Value) (wr : World) : Prop :=
  ∃ (acc : List (List Tm)) (ks : List Ex) (A : Option Addr) (n c : Nat), rv = .slice A n c ∧ n ≤ c ∧ n ≤ 60 ∧ (ks.flatMap Ex.flat).length = n ∧ TRow wr B A (ks.flatMap Ex.flat) ∧ ks.length ≤ 2 ∧ acc.length ≤ 2 ∧ BuildT wr w0.heap.size v acc ∧ Below w0.heap.size w0 wr ∧ (∀ y ∈ ks, y.ok 29) ∧ acc ++ ks.map Ex.flat = x.kids.map Ex.flat
theorem restIs_next {w0 wr w1 w3 : World} {B : Nat} {x y : Ex} {ks : List Ex} {acc : List (List Tm)} {b off n c : Nat} {v' : Value} {A2 : Option Addr} (hB : B ≤ w0.heap.size) (hc : n ≤ c) (hn : n ≤ 60) (hl : ((y :: ks).flatMap Ex.flat).length = n) (hr : TRow wr B (some ⟨b, off, none⟩) ((y :: ks).flatMap Ex.flat))
    (hks : (y :: ks).length ≤ 2) (hb : Below w0.heap.size w0 wr) (hb1 : Below wr.heap.size wr w1) (hb2 : Below w0.heap.size w1 w3) (hok : ∀ z ∈ y :: ks, z.ok 29) (hac : acc ++ (y :: ks).map Ex.flat = x.kids.map Ex.flat) (hx : x.kids.length ≤ 2) (hbu : BuildT w3 w0.heap.size v' (acc ++ [y.flat]))
    (hA : A2 = cutA (some ⟨b, off, none⟩) c y.flat.length) : RestIs w0 B x v' (.slice A2 (n - y.flat.length) (c - y.flat.length)) w3 := by
  have hb3 : Below w0.heap.size w0 w3 := (hb.trans (hb1.mono hb.size)).trans hb2
  have hr3 : TRow w3 B (some ⟨b, off, none⟩) ((y :: ks).flatMap Ex.flat) := (hr.below (hb1.mono (by have := hb.size; omega))).below (hb2.mono hB)
  have hcut := hr3.cut (c := c) (by omega) y.flat.length
  have hd : ((y :: ks).flatMap Ex.flat).drop y.flat.length = ks.flatMap Ex.flat := by rw [List.flatMap_cons, List.drop_left']; rfl
  rw [hd] at hcut
  rw [List.flatMap_cons, List.length_append] at hl
  refine ⟨acc ++ [y.flat], ks, A2, n - y.flat.length, c - y.flat.length, rfl, by omega, by omega, by omega, by rw [hA]; exact hcut, by rw [List.length_cons] at hks; omega, ?_, hbu, hb3, fun z hz => hok z (by simp [hz]), by rw [← hac]; simp⟩
  have := congrArg List.length hac
  simp at this ⊢
  omega
set_option maxRecDepth 100000 in
set_option maxHeartbeats 4000000 in
theorem implOpnd_any (A : Option Addr) (n c : Nat) (es : List Tm) (w : World) (T : TypeId) (lo hi : Nat) (h : OwnV w lo hi T 2 A n c (tvs es)) (hB : hi ≤ w.heap.size) (l : es.length = n) (m : n ≤ 2000000) :
    Calls Try.prog 36 #[.slice A n c] w fun e w' => RetK2 w (operR es) e w' := by
  have hcap := own_cap h.own
  have hrow := h.trow.more hB
  clear h hB
  have C := Lib.hid (isEx_any A n c es w w.heap.size hrow (Nat.le_refl _) l m)
  have L := Lib.hid l
  clear l
  rcases hv : exB 29 60 es with _ | _
  · have H := Lib.hid (operR_no hv)
    have HV := Lib.hid hv
    clear hv
    go_enter Try.func36, Try.ntmps36
    go_wp2_with (go_at_call 62; refine (C.out).mono ?_; rw [HV.out]; rintro e w1 ⟨rfl, hb⟩)
    go_ret2
    exact RetK2.nil H.out hb
  · have H := Lib.hid (operR_yes hv)
    have HV := Lib.hid hv
    have hn60 := exB_len hv
    rw [L.out] at hn60
    obtain ⟨hflat, hok⟩ := treeOf_ok hv
    generalize treeOf es = x at *
    have hpos : 1 ≤ n := by have := Ex.flat_pos x; rw [hflat, L.out] at this; exact this
    obtain ⟨b0, o0, t, rfl, hb0, hc1, hc2, ht⟩ := hrow.at_ (k := 0) (by rw [L.out]; omega)
    have hkids : x.kids.length ≤ 2 := by cases x <;> simp [Ex.kids]
    have HD0 := Lib.hid (show es.drop 1 = x.kids.flatMap Ex.flat by rw [Ex.kids_flat, hflat])
    have HOPS := Lib.hid (Ex.kids_ops x)
    have HSTART : ∀ (w1 : World), Below w.heap.size w w1 → RestIs w w.heap.size x (.slice none 0 0) (.slice (cutA (some ⟨b0, o0, none⟩) c 1) (n - 1) (c - 1)) w1 := fun w1 hb =>
      ⟨[], x.kids, _, n - 1, c - 1, rfl, by omega, by omega, by rw [← HD0.out, List.length_drop, L.out], by rw [← HD0.out]; exact (hrow.below hb).cut (by rw [L.out]; exact hcap) 1, hkids, by simp, BuildT.nil _ _, hb, Ex.kids_ok hok, by simp⟩
    have HSTART := Lib.hid HSTART
    have hc1x : c = 1 ∨ 1 < c := by omega
    clear hv hflat hok hc1 hc2 ht hrow
    rcases hc1x with hc1x | hc1x
    · have HCA := Lib.hid (show cutA (some ⟨b0, o0, none⟩) c 1 = some ⟨b0, o0, none⟩ by unfold cutA; rw [if_pos hc1x])
      subst hc1x
      obtain rfl : n = 1 := by omega
      go_enter Try.func36, Try.ntmps36
      go_wp2_with (go_at_call 62; refine (C.out).mono ?_; rw [HV.out]; rintro e w1 ⟨rfl, hb⟩; have HST := Lib.hid (HSTART.out w1 hb); clear hb)
      go_loopw [4, 5] (fun v r wr => RestIs w w.heap.size x v r wr) (fun _ r _ => lenOf r)
      case atStart => have := HST.out; rw [HCA.out] at this; exact this
      case round =>
        obtain ⟨acc, ks, A, n', c', rfl, hnc, hn', hlen, hr, hks, hacc, hbu, hbel, hoks, hac⟩ := hrel
        rcases ks with _ | ⟨y, ks⟩
        · have h0 : n' = 0 := by rw [← hlen]; rfl
          have HR := Lib.hid (show operR es = (acc, 0) by rw [H.out, ← HOPS.out, ← hac]; simp)
          subst h0
          clear hac hlen
          go_wp2
          go_ret2
          exact RetK2.mk' HR.out hbu hbel
        · have hyp := Ex.flat_pos y
          have hyl : y.flat.length ≤ n' := by rw [← hlen, List.flatMap_cons, List.length_append]; omega
          obtain ⟨b, off, t', rfl, _, _, _, _⟩ := hr.at_ (k := 0) (by omega)
          have HF := Lib.hid (show fe ((y :: ks).flatMap Ex.flat) 1 0 = ((y.flat.length : Nat) : Int) by rw [List.flatMap_cons, fe_one (hoks y (by simp))]; omega)
          have CF := Lib.hid (firstEnd_any (some ⟨b, off, none⟩) n' c' _ wr w.heap.size hr hbel.size hlen (by omega))
          have HTK := Lib.hid (show ((y :: ks).flatMap Ex.flat).take y.flat.length = y.flat by rw [List.flatMap_cons, List.take_left']; rfl)
          have HNX := Lib.hid (fun (w1 w3 : World) (v' : Value) (A2 : Option Addr) (hb1 : Below wr.heap.size wr w1) (hb2 : Below w.heap.size w1 w3) (hbu' : BuildT w3 w.heap.size v' (acc ++ [y.flat])) (hA : A2 = cutA (some ⟨b, off, none⟩) c' y.flat.length) => restIs_next (Nat.le_refl _) hnc hn' hlen hr hks hbel hb1 hb2 hoks hac hkids hbu' hA)
          have HRR := Lib.hid hr
          have HBU := Lib.hid hbu
          have HBE := Lib.hid hbel
          have hws := hbel.size
          have hacl : acc.length ≤ 2000000 := by omega
          have hc2x : c' = y.flat.length ∨ y.flat.length < c' := by omega
          clear hac hlen hr hbu hbel hoks
          rcases hc2x with hc2x | hc2x
          · have HCA2 := Lib.hid (show some ⟨b, off, none⟩ = cutA (some ⟨b, off, none⟩) c' y.flat.length by unfold cutA; rw [if_pos hc2x])
            subst hc2x
            go_wp2_with (first
              | (go_at_call 71; refine (CF.out).mono ?_; rw [HF.out]; rintro e w1 ⟨rfl, hb1⟩; have s1 := hb1.size; have CO := Lib.hid (clone_any (some ⟨b, off, none⟩) y.flat.length y.flat.length y.flat w1 w.heap.size (by have := (HRR.out.below (hb1.mono hws)).take y.flat.length; rwa [HTK.out] at this) (by omega) rfl (by omega)); have HB1 := Lib.hid hb1; clear hb1)
              | (go_at_call 80; refine (CO.out).mono ?_; rintro e w2 ⟨A2, n2, c2, rfl, ho, hb2⟩; have hn2 := own_len ho; subst hn2; have hs2 := hb2.size; have HO2 := Lib.hid ho; have HB2 := Lib.hid hb2; clear ho hb2)
              | (at_builtin; refine wpList_append_trow rfl _ _ rfl w1 _ w.heap.size w1.heap.size acc y.flat A2 c2 _ rfl (by exact HBU.out.below HB1.out) (by omega) (HB2.out.trans ((Below.refl _ _).alloc hs2 _)) (Nat.le_refl _) (OwnV.mk' (HO2.out.alloc _)) w2.heap.size rfl (cell_first _ _ _) hacl ?_; intro v' w3 hbu3 hb3; have HFIN := Lib.hid (HNX.out w1 w3 v' _ HB1.out hb3 hbu3 HCA2.out); clear hbu3 hb3))
            go_roundw
            case rel =>
              have hF := HFIN.out
              rw [show n' - y.flat.length = 0 by omega, Nat.sub_self] at hF
              exact hF
            case measure => simp [lenOf]; omega
          · have HCA2 := Lib.hid (cutA_at (b := b) (o := off) (c := c') (k := y.flat.length) (by omega))
            go_wp2_with (first
              | (go_at_call 71; refine (CF.out).mono ?_; rw [HF.out]; rintro e w1 ⟨rfl, hb1⟩; have s1 := hb1.size; have CO := Lib.hid (clone_any (some ⟨b, off, none⟩) y.flat.length c' y.flat w1 w.heap.size (by have := (HRR.out.below (hb1.mono hws)).take y.flat.length; rwa [HTK.out] at this) (by omega) rfl (by omega)); have HB1 := Lib.hid hb1; clear hb1)
              | (go_at_call 80; refine (CO.out).mono ?_; rintro e w2 ⟨A2, n2, c2, rfl, ho, hb2⟩; have hn2 := own_len ho; subst hn2; have hs2 := hb2.size; have HO2 := Lib.hid ho; have HB2 := Lib.hid hb2; clear ho hb2)
              | (at_builtin; refine wpList_append_trow rfl _ _ rfl w1 _ w.heap.size w1.heap.size acc y.flat A2 c2 _ rfl (by exact HBU.out.below HB1.out) (by omega) (HB2.out.trans ((Below.refl _ _).alloc hs2 _)) (Nat.le_refl _) (OwnV.mk' (HO2.out.alloc _)) w2.heap.size rfl (cell_first _ _ _) hacl ?_; intro v' w3 hbu3 hb3; have HFIN := Lib.hid (HNX.out w1 w3 v' _ HB1.out hb3 hbu3 HCA2.out.symm); clear hbu3 hb3))
            go_roundw
            case rel => exact HFIN.out
            case measure => simp [lenOf]; omega
    · have HCA := Lib.hid (cutA_at (b := b0) (o := o0) (c := c) (k := 1) (by omega))
      go_enter Try.func36, Try.ntmps36
      go_wp2_with (go_at_call 62; refine (C.out).mono ?_; rw [HV.out]; rintro e w1 ⟨rfl, hb⟩; have HST := Lib.hid (HSTART.out w1 hb); clear hb)
      go_loopw [4, 5] (fun v r wr => RestIs w w.heap.size x v r wr) (fun _ r _ => lenOf r)
      case atStart => have := HST.out; rw [HCA.out] at this; exact this
      case round =>
        obtain ⟨acc, ks, A, n', c', rfl, hnc, hn', hlen, hr, hks, hacc, hbu, hbel, hoks, hac⟩ := hrel
        rcases ks with _ | ⟨y, ks⟩
        · have h0 : n' = 0 := by rw [← hlen]; rfl
          have HR := Lib.hid (show operR es = (acc, 0) by rw [H.out, ← HOPS.out, ← hac]; simp)
          subst h0
          clear hac hlen
          go_wp2
          go_ret2
          exact RetK2.mk' HR.out hbu hbel
        · have hyp := Ex.flat_pos y
          have hyl : y.flat.length ≤ n' := by rw [← hlen, List.flatMap_cons, List.length_append]; omega
          obtain ⟨b, off, t', rfl, _, _, _, _⟩ := hr.at_ (k := 0) (by omega)
          have HF := Lib.hid (show fe ((y :: ks).flatMap Ex.flat) 1 0 = ((y.flat.length : Nat) : Int) by rw [List.flatMap_cons, fe_one (hoks y (by simp))]; omega)
          have CF := Lib.hid (firstEnd_any (some ⟨b, off, none⟩) n' c' _ wr w.heap.size hr hbel.size hlen (by omega))
          have HTK := Lib.hid (show ((y :: ks).flatMap Ex.flat).take y.flat.length = y.flat by rw [List.flatMap_cons, List.take_left']; rfl)
          have HNX := Lib.hid (fun (w1 w3 : World) (v' : Value) (A2 : Option Addr) (hb1 : Below wr.heap.size wr w1) (hb2 : Below w.heap.size w1 w3) (hbu' : BuildT w3 w.heap.size v' (acc ++ [y.flat])) (hA : A2 = cutA (some ⟨b, off, none⟩) c' y.flat.length) => restIs_next (Nat.le_refl _) hnc hn' hlen hr hks hbel hb1 hb2 hoks hac hkids hbu' hA)
          have HRR := Lib.hid hr
          have HBU := Lib.hid hbu
          have HBE := Lib.hid hbel
          have hws := hbel.size
          have hacl : acc.length ≤ 2000000 := by omega
          have hc2x : c' = y.flat.length ∨ y.flat.length < c' := by omega
          clear hac hlen hr hbu hbel hoks
          rcases hc2x with hc2x | hc2x
          · have HCA2 := Lib.hid (show some ⟨b, off, none⟩ = cutA (some ⟨b, off, none⟩) c' y.flat.length by unfold cutA; rw [if_pos hc2x])
            subst hc2x
            go_wp2_with (first
              | (go_at_call 71; refine (CF.out).mono ?_; rw [HF.out]; rintro e w1 ⟨rfl, hb1⟩; have s1 := hb1.size; have CO := Lib.hid (clone_any (some ⟨b, off, none⟩) y.flat.length y.flat.length y.flat w1 w.heap.size (by have := (HRR.out.below (hb1.mono hws)).take y.flat.length; rwa [HTK.out] at this) (by omega) rfl (by omega)); have HB1 := Lib.hid hb1; clear hb1)
              | (go_at_call 80; refine (CO.out).mono ?_; rintro e w2 ⟨A2, n2, c2, rfl, ho, hb2⟩; have hn2 := own_len ho; subst hn2; have hs2 := hb2.size; have HO2 := Lib.hid ho; have HB2 := Lib.hid hb2; clear ho hb2)
              | (at_builtin; refine wpList_append_trow rfl _ _ rfl w1 _ w.heap.size w1.heap.size acc y.flat A2 c2 _ rfl (by exact HBU.out.below HB1.out) (by omega) (HB2.out.trans ((Below.refl _ _).alloc hs2 _)) (Nat.le_refl _) (OwnV.mk' (HO2.out.alloc _)) w2.heap.size rfl (cell_first _ _ _) hacl ?_; intro v' w3 hbu3 hb3; have HFIN := Lib.hid (HNX.out w1 w3 v' _ HB1.out hb3 hbu3 HCA2.out); clear hbu3 hb3))
            go_roundw
            case rel =>
              have hF := HFIN.out
              rw [show n' - y.flat.length = 0 by omega, Nat.sub_self] at hF
              exact hF
            case measure => simp [lenOf]; omega
          · have HCA2 := Lib.hid (cutA_at (b := b) (o := off) (c := c') (k := y.flat.length) (by omega))
            go_wp2_with (first
              | (go_at_call 71; refine (CF.out).mono ?_; rw [HF.out]; rintro e w1 ⟨rfl, hb1⟩; have s1 := hb1.size; have CO := Lib.hid (clone_any (some ⟨b, off, none⟩) y.flat.length c' y.flat w1 w.heap.size (by have := (HRR.out.below (hb1.mono hws)).take y.flat.length; rwa [HTK.out] at this) (by omega) rfl (by omega)); have HB1 := Lib.hid hb1; clear hb1)
              | (go_at_call 80; refine (CO.out).mono ?_; rintro e w2 ⟨A2, n2, c2, rfl, ho, hb2⟩; have hn2 := own_len ho; subst hn2; have hs2 := hb2.size; have HO2 := Lib.hid ho; have HB2 := Lib.hid hb2; clear ho hb2)
              | (at_builtin; refine wpList_append_trow rfl _ _ rfl w1 _ w.heap.size w1.heap.size acc y.flat A2 c2 _ rfl (by exact HBU.out.below HB1.out) (by omega) (HB2.out.trans ((Below.refl _ _).alloc hs2 _)) (Nat.le_refl _) (OwnV.mk' (HO2.out.alloc _)) w2.heap.size rfl (cell_first _ _ _) hacl ?_; intro v' w3 hbu3 hb3; have HFIN := Lib.hid (HNX.out w1 w3 v' _ HB1.out hb3 hbu3 HCA2.out.symm); clear hbu3 hb3))
            go_roundw
            case rel => exact HFIN.out
            case measure => simp [lenOf]; omega
end Go.Proofs.Ytfoopgnnhgdfaaa
