/- The operands of the first term: the model's and the program's answers are those of one plain function. -/
import Derived.Test.YtfoopgnnhgdfaaaProg
import Derived.WalkKit
import Derived.ProofKit
import Derived.Outline
import Derived.Lib.Hide
import Derived.Test.YtfoopgnnhgdfaaaMem
import Derived.Test.YtfoopgnnhgdfaaaOwn
import Derived.Test.YtfoopgnnhgdfaaaTmM
import Derived.Test.YtfoopgnnhgdfaaaTmW
import Derived.Test.YtfoopgnnhgdfaaaTmV
import Derived.Test.YtfoopgnnhgdfaaaTmI
import Derived.Test.YtfoopgnnhgdfaaaRet
import Derived.Test.YtfoopgnnhgdfaaaApp
import Derived.Test.YtfoopgnnhgdfaaaShift
import Derived.Test.YtfoopgnnhgdfaaaBuildT
import Derived.Test.YtfoopgnnhgdfaaaExM
import Derived.Test.YtfoopgnnhgdfaaaCut
import Derived.Test.YtfoopgnnhgdfaaaSubM
namespace Go.Proofs.Ytfoopgnnhgdfaaa
open Go.RowKit
def RetK2 (w : World) (r : List (List Tm) × Int) (e : Ending) (w' : World) : Prop :=
  ∃ A n c, e = .returned (.tuple #[.slice A n c, .int .i64 r.2]) ∧ OwnTT w' w.heap.size w'.heap.size A n c r.1 ∧ Below w.heap.size w w'
theorem RetK2.nil {w w' : World} {code : Int} {r : List (List Tm) × Int} (hr : r = ([], code)) (hb : Below w.heap.size w w') : RetK2 w r (.returned (.tuple #[.slice none 0 0, .int .i64 code])) w' := by
  subst hr
  exact ⟨none, 0, 0, rfl, OwnTT.nil _ _ _, hb⟩
theorem RetK2.mk' {w w' : World} {c : Int} {xss : List (List Tm)} {v : Value} {r : List (List Tm) × Int} (hr : r = (xss, c)) (hv : BuildT w' w.heap.size v xss) (hb : Below w.heap.size w w') : RetK2 w r (.returned (.tuple #[v, .int .i64 c])) w' := by
  subst hr
  obtain ⟨A, cc, rfl, h⟩ := hv.done
  exact ⟨A, _, cc, rfl, h, hb⟩
def lenOf : Value → Nat | .slice _ n _ => n | _ => 0
theorem BuildT.lower {w : World} {lo lo' : Nat} {v : Value} {xss : List (List Tm)} (h : BuildT w lo v xss) (h1 : lo' ≤ lo) : BuildT w lo' v xss := by
  obtain ⟨G, C, h2, h3⟩ := h
  exact ⟨G, C, own_lower h2 h1, ⟨fun i hi => (h3.own i hi).wide h1 (Nat.le_refl _), h3.one⟩⟩
theorem own_len {w : World} {base : Nat} {T : TypeId} {n : Nat} {v : Value} {es : List Tm} (h : w.ownsRow base T 2 v n (tvs es)) : es.length = n := by
  have h1 := h.1
  rw [tvs_length] at h1
  omega
theorem cell_first (w : World) (v : Value) (T : TypeId) : (w.alloc (.cells #[v] T)).cell? ⟨w.heap.size, 0, none⟩ = some v := by
  have := cell_of_row (w.alloc (.cells #[v] T)) w.heap.size 0 #[v] T (0, 0) (heap_alloc_new w _)
  rw [this]; simp
theorem cutA_at {b o c k : Nat} (h : c ≠ k) : cutA (some ⟨b, o, none⟩) c k = some ⟨b, o + k * 2, none⟩ := by
  unfold cutA
  rw [if_neg h]
  show some ((⟨b, o, none⟩ : Addr).add (k * 2)) = _
  rw [addLit]
set_option maxRecDepth 100000 in
set_option maxHeartbeats 2000000 in
theorem specOpnd_any (A : Option Addr) (n c : Nat) (es : List Tm) (w : World) (T : TypeId) (lo hi : Nat) (h : OwnV w lo hi T 2 A n c (tvs es)) (hB : hi ≤ w.heap.size) (l : es.length = n) (m : n ≤ 2000000) :
    Calls Try.prog 35 #[.slice A n c] w fun e w' => RetK2 w (operR es) e w' := by
  have hcap := own_cap h.own
  have hrow := h.trow.more hB
  clear h hB
  have C := Lib.hid (specAny_any A n c es w w.heap.size hrow l m)
  have L := Lib.hid l
  clear l
  rcases hv : exB 29 60 es with _ | _
  · have H := Lib.hid (operR_no hv)
    have HV := Lib.hid hv
    clear hv
    go_enter Try.func35, Try.ntmps35
    go_wp2_with (go_at_call 74; refine (C.out).mono ?_; rw [HV.out]; rintro e w' ⟨rfl, rfl⟩)
    go_ret2
    exact RetK2.nil H.out (Below.refl _ _)
  · have H := Lib.hid (operR_yes hv)
    have HV := Lib.hid hv
    have hn60 := exB_len hv
    rw [L.out] at hn60
    obtain ⟨hflat, hok⟩ := treeOf_ok hv
    generalize treeOf es = x at *
    obtain ⟨t0, r0, hx0, har0⟩ := Ex.kids_len hok
    have hpos : 1 ≤ n := by have := Ex.flat_pos x; rw [hflat, L.out] at this; exact this
    obtain ⟨b0, o0, t, rfl, hb0, hc1, hc2, ht⟩ := hrow.at_ (k := 0) (by rw [L.out]; omega)
    have et : t = t0 := by
      have := ht.out
      rw [← hflat, hx0] at this
      simpa using this.symm
    subst et
    have hkids : x.kids.length ≤ 2 := by cases x <;> simp [Ex.kids]
    have hc1' : w.cell? ⟨b0, o0, none⟩ = some (.int .i64 t.k) := by simpa using hc1
    have HAR := Lib.hid har0
    have HD0 := Lib.hid (show es.drop 1 = x.kids.flatMap Ex.flat by rw [Ex.kids_flat, hflat])
    have HOK0 := Lib.hid (Ex.kids_ok hok)
    have HOPS := Lib.hid (Ex.kids_ops x)
    have HB0 := Lib.hid (show BuildT (w.alloc (.cells #[] 24)) w.heap.size (.slice (some ⟨w.heap.size, 0, none⟩) 0 0) [] from BuildT.made w w.heap.size (Nat.le_refl _))
    have HW0 := Lib.hid (show Below w.heap.size w (w.alloc (.cells #[] 24)) from (Below.refl _ _).alloc (Nat.le_refl _) _)
    clear hv hx0 har0 hflat hok hc1 hc2 ht
    go_enter Try.func35, Try.ntmps35
    go_wp2_with (first
      | (go_at_call 74; refine (C.out).mono ?_; rw [HV.out]; rintro e w' ⟨rfl, rfl⟩)
      | (go_at_call 77; refine (l03Arity_any b0 o0 t _ (by simpa using (HW0.out.cell (p := ⟨b0, o0, none⟩) hb0).trans hc1')).mono ?_; rw [HAR.out]; rintro e w' ⟨rfl, rfl⟩))
    go_loopw [4, 5, 6] (fun v p i wr => ∃ (acc : List (List Tm)) (ks : List Ex) (k : Nat), k ≤ n ∧ p = .int .i64 k ∧ i = .int .i64 (ks.length : Nat) ∧ ks.length ≤ 2 ∧ acc.length ≤ 2 ∧ BuildT wr w.heap.size v acc ∧ Below w.heap.size w wr ∧ Hid (es.drop k = ks.flatMap Ex.flat) ∧ Hid (∀ y ∈ ks, y.ok 29) ∧ Hid (acc ++ ks.map Ex.flat = x.kids.map Ex.flat)) (fun _ _ i _ => (intOf i).toNat)
    case atStart => exact ⟨[], x.kids, 1, hpos, rfl, rfl, hkids, by simp, HB0.out, HW0.out, HD0, HOK0, by rw [List.nil_append]; exact Lib.hid rfl⟩
    case round =>
      obtain ⟨acc, ks, k, hk, rfl, rfl, hks, hacc, hbu, hbel, HD, HOK, HAC⟩ := hrel
      rcases ks with _ | ⟨y, ks⟩
      · have HR := Lib.hid (show operR es = (acc, 0) by rw [H.out, ← HOPS.out, ← HAC.out]; simp)
        go_wp2
        go_ret2
        exact RetK2.mk' HR.out hbu hbel
      · have hyo := HOK.out y (by simp)
        have hfe : fe (es.drop k) 1 (k : Int) = ((k + y.flat.length : Nat) : Int) := by
          rw [HD.out, List.flatMap_cons, fe_one hyo]; omega
        have hlen : k + y.flat.length ≤ n := by
          have := congrArg List.length HD.out
          rw [List.length_drop, L.out, List.flatMap_cons, List.length_append] at this
          omega
        have hrow1 := hrow.below hbel
        have CE := Lib.hid (l03End_any (some ⟨b0, o0, none⟩) n c es k (k + y.flat.length) wr w.heap.size hrow1 L.out m hfe)
        have hcut := (hrow1.cut (c := c) (by rw [L.out]; exact hcap) k).take y.flat.length
        have hdt : (es.drop k).take y.flat.length = y.flat := by rw [HD.out, List.flatMap_cons, List.take_left']; rfl
        rw [hdt] at hcut
        rw [cutA_at (show c ≠ k by have := Ex.flat_pos y; omega)] at hcut
        have CO := Lib.hid (l03Own_any (some ⟨b0, o0 + k * 2, none⟩) y.flat.length (c - k) y.flat wr w.heap.size hcut hbel.size rfl (by omega))
        have HD2 := Lib.hid (show es.drop (k + y.flat.length) = ks.flatMap Ex.flat by
          rw [← List.drop_drop, HD.out, List.flatMap_cons, List.drop_left']; rfl)
        have HOK2 := Lib.hid (fun z (hz : z ∈ ks) => HOK.out z (by simp [hz]))
        have HAC2 := Lib.hid (show (acc ++ [y.flat]) ++ ks.map Ex.flat = x.kids.map Ex.flat by rw [← HAC.out]; simp)
        have hws := hbel.size
        have HBU := Lib.hid hbu
        have HBE := Lib.hid hbel
        have hklen : (acc ++ [y.flat]).length ≤ 2 := by
          have := congrArg List.length HAC.out
          simp at this ⊢
          have h2 := hkids
          omega
        have hacl : acc.length ≤ 2000000 := by omega
        have HYL := Lib.hid (show (((y :: ks).length : Nat) : Int) = (ks.length : Int) + 1 by simp)
        have hksl : ((y :: ks).length : Int) = (ks.length : Int) + 1 := by simp
        have hyp : 0 < y.flat.length := Ex.flat_pos y
        have hks2 : ks.length ≤ 2 := by rw [List.length_cons] at hks; omega
        generalize hkl : (y :: ks).length = kl at *
        have hkl2 : (kl : Int) - 1 = (ks.length : Int) := by omega
        have HKL := Lib.hid hkl2
        have hkpos : 0 < kl := by omega
        clear hbu hbel hcut hdt hyo hfe hkl hksl hkl2 HYL
        go_wp2_with (first
          | (go_at_call 78; refine (CE.out).mono ?_; rintro e w' ⟨rfl, rfl⟩)
          | (go_at_call 79; refine (CO.out).mono ?_; rintro e w2 ⟨A2, n2, c2, rfl, ho, hb2⟩; have hn2 := own_len ho; subst hn2; have hs2 := hb2.size; have HO2 := Lib.hid ho; have HB2 := Lib.hid hb2; clear ho hb2)
          | (at_builtin; refine wpList_append_trow rfl _ _ rfl wr _ w.heap.size wr.heap.size acc y.flat A2 c2 _ rfl (by exact HBU.out) hws (HB2.out.trans ((Below.refl _ _).alloc hs2 _)) (Nat.le_refl _) (OwnV.mk' (HO2.out.alloc _)) w2.heap.size rfl (cell_first _ _ _) hacl ?_; intro v' w3 hbu3 hb3; have HBU3 := Lib.hid hbu3; have HB3 := Lib.hid hb3; clear hbu3 hb3))
        go_roundw
        case rel => exact ⟨acc ++ [y.flat], ks, k + y.flat.length, hlen, rfl, congrArg (Value.int .i64) HKL.out, hks2, hklen, HBU3.out, HBE.out.trans HB3.out, HD2, HOK2, HAC2⟩
        case measure => simp [intOf]; omega
end Go.Proofs.Ytfoopgnnhgdfaaa
