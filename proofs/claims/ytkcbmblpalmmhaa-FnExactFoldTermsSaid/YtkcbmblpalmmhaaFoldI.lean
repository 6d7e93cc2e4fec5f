/- Folding: the program's answer is that of the plain function. -/
import Derived.Test.YtkcbmblpalmmhaaProg
import Derived.WalkKit
import Derived.ProofKit
import Derived.OwnWalk
import Derived.Outline
import Derived.Conc.MuLone
import Derived.Lib.Hide
import Derived.Test.YtkcbmblpalmmhaaMem
import Derived.Test.YtkcbmblpalmmhaaOwn
import Derived.Test.YtkcbmblpalmmhaaTmM
import Derived.Test.YtkcbmblpalmmhaaTmW
import Derived.Test.YtkcbmblpalmmhaaTmI
import Derived.Test.YtkcbmblpalmmhaaRet
import Derived.Test.YtkcbmblpalmmhaaApp
import Derived.Test.YtkcbmblpalmmhaaShift
import Derived.Test.YtkcbmblpalmmhaaBuildT
import Derived.Test.YtkcbmblpalmmhaaConc
import Derived.Test.YtkcbmblpalmmhaaJoin
import Derived.Test.YtkcbmblpalmmhaaExM
import Derived.Test.YtkcbmblpalmmhaaCut
import Derived.Test.YtkcbmblpalmmhaaOpnd
import Derived.Test.YtkcbmblpalmmhaaEvM
import Derived.Test.YtkcbmblpalmmhaaEvA
import Derived.Test.YtkcbmblpalmmhaaEvN
import Derived.Test.YtkcbmblpalmmhaaEvI
import Derived.Test.YtkcbmblpalmmhaaFoldM
import Derived.Test.YtkcbmblpalmmhaaFoldS
import Derived.Test.YtkcbmblpalmmhaaFoN
import Derived.Test.YtkcbmblpalmmhaaFoI
namespace Go.Proofs.Ytkcbmblpalmmhaa
open Go.RowKit
theorem isNo_any (t : Tm) (w : World) : Calls Try.prog 55 #[.agg #[.int .i64 t.k, .int .i64 t.v]] w fun e w' => e = .returned (.bool (decide (t.k ≠ 0))) ∧ Below w.heap.size w w' := by
  have HB := Lib.hid (fun o : Obj => (Below.refl w.heap.size w).alloc (Nat.le_refl _) o)
  obtain ⟨k, v⟩ := t
  by_cases h : k = 0
  · subst h
    go_enter Try.func55, Try.ntmps55
    go_wp2
    go_ret
    exact ⟨rfl, HB.out _⟩
  · have H := Lib.hid (show decide (k ≠ 0) = true from decide_eq_true h)
    have h2 : (k != 0) = true := by simpa using h
    clear h
    go_enter Try.func55, Try.ntmps55
    go_wp2
    go_ret
    exact ⟨ret_bool H.out.symm, HB.out _⟩
/-- Where the first term stands that is no number; -1 if there is none. -/
def IdxT (es : List Tm) (w : World) (e : Ending) (w' : World) : Prop := ∃ r : Int, e = .returned (.int .i64 r) ∧ (noB es = false → r = -1) ∧ (noB es = true → 0 ≤ r) ∧ Below w.heap.size w w'
theorem noB_at {es : List Tm} {k : Nat} {t : Tm} (h : es[k]? = some t) (ht : t.k ≠ 0) : noB es = true := List.any_eq_true.2 ⟨t, List.mem_of_getElem? h, decide_eq_true ht⟩
theorem noB_none {es : List Tm} (h : ∀ t ∈ es, t.k = 0) : noB es = false := by
  unfold noB
  rw [List.any_eq_false]
  intro t ht
  rw [decide_eq_true_iff]
  exact fun e => e (h t ht)
set_option maxHeartbeats 1000000 in
theorem indexT_any (A : Option Addr) (n c : Nat) (es : List Tm) (w : World) (B : Nat) (h : TRow w B A es) (hB : B ≤ w.heap.size) (l : es.length = n) (m : n ≤ 2000000) :
    Calls Try.prog 95 #[.slice A n c, .func (.func 55) #[] #[]] w (IdxT es w) := by
  have L := Lib.hid l
  clear l
  go_enter Try.func95, Try.ntmps95
  go_wp2
  go_loopw [8] (fun i wr => ∃ k : Nat, k ≤ n ∧ i = .int .i64 k ∧ Below w.heap.size w wr ∧ Hid (∀ t ∈ es.take k, t.k = 0)) (fun i _ => n - (intOf i).toNat)
  case atStart => exact ⟨0, Nat.zero_le _, rfl, Below.refl _ _, by rw [List.take_zero]; exact Lib.hid (by simp)⟩
  case round =>
    obtain ⟨k, hk, rfl, hbel, HS⟩ := hrel
    have HB := Lib.hid hbel
    have hws := hbel.size
    by_cases hlt : k < n
    · obtain ⟨b, o, t, rfl, hb, hc1, hc2, ht⟩ := (h.below (hbel.mono hB)).at_ (k := k) (by rw [L.out]; exact hlt)
      have C := Lib.hid (isNo_any t wr)
      clear hbel
      by_cases hd : t.k = 0
      · have HN := Lib.hid (show ∀ t ∈ es.take (k + 1), t.k = 0 by
          rw [take_one _ _ _ ht.out]
          intro v hv
          rcases List.mem_append.1 hv with hv | hv
          · exact HS.out v hv
          · rw [List.mem_singleton] at hv; subst hv; exact hd)
        have HD := Lib.hid (show decide (t.k ≠ 0) = false from decide_eq_false (fun e => e hd))
        clear hd
        go_wp2_with (go_at_call 55; refine (C.out).mono ?_; rw [HD.out]; rintro e w' ⟨rfl, hb'⟩; have HB2 := Lib.hid (HB.out.trans (hb'.mono hws)); clear hb')
        go_roundw
        case rel => exact ⟨k + 1, by omega, by go_num, HB2.out, HN⟩
        case measure => simp [intOf]; omega
      · have HD := Lib.hid (show decide (t.k ≠ 0) = true from decide_eq_true hd)
        have H := Lib.hid (fun (w' : World) (hb' : Below w.heap.size w w') => (⟨k, rfl, fun e => (by rw [noB_at ht.out hd] at e; cases e), fun _ => (by omega), hb'⟩ : IdxT es w (.returned (.int .i64 (k : Int))) w'))
        clear hd
        go_wp2_with (go_at_call 55; refine (C.out).mono ?_; rw [HD.out]; rintro e w' ⟨rfl, hb'⟩; have HB2 := Lib.hid (HB.out.trans (hb'.mono hws)); clear hb')
        go_ret
        exact H.out _ HB2.out
    · have H : IdxT es w (.returned (.int .i64 (-1))) wr := by
        have hA := noB_none (es := es) (by have := HS.out; rwa [List.take_of_length_le (by rw [L.out]; omega)] at this)
        refine ⟨-1, rfl, fun _ => rfl, fun e => ?_, hbel⟩
        rw [hA] at e; cases e
      clear hbel
      go_wp2
      go_ret
      exact H
theorem containsT_any (A : Option Addr) (n c : Nat) (es : List Tm) (w : World) (B : Nat) (h : TRow w B A es) (hB : B ≤ w.heap.size) (l : es.length = n) (m : n ≤ 2000000) :
    Calls Try.prog 90 #[.slice A n c, .func (.func 55) #[] #[]] w fun e w' => e = .returned (.bool (noB es)) ∧ Below w.heap.size w w' := by
  have C := Lib.hid (indexT_any A n c es w B h hB l m)
  clear l
  rcases hd : noB es with _ | _
  · have HD := Lib.hid hd
    clear hd
    go_enter Try.func90, Try.ntmps90
    go_wp2_with (go_at_call 95; refine (C.out).mono ?_; rintro e w' ⟨r, rfl, h1, _, hb'⟩; obtain rfl := h1 HD.out; clear h1)
    go_ret
    exact ⟨rfl, hb'⟩
  · have HD := Lib.hid hd
    clear hd
    go_enter Try.func90, Try.ntmps90
    go_wp2_with (go_at_call 95; refine (C.out).mono ?_; rintro e w' ⟨r, rfl, _, h2, hb'⟩; have hr := h2 HD.out; clear h2)
    go_ret
    exact ⟨rfl, hb'⟩
theorem retF_of {w w' : World} {A : Option Addr} {n c : Nat} {xs ys : List Tm} (h : w'.ownsRow w.heap.size 68 2 (.slice A n c) n (tvs ys)) (e : xs = ys) : RetF w xs (.returned (.slice A n c)) w' := by
  subst e
  have hn := own_lenJ h
  subst hn
  exact ⟨A, c, rfl, h⟩
theorem box_cells (w : World) (t : Tm) : (w.alloc (.cells #[.int .i64 t.k, .int .i64 t.v] 68)).cell? ⟨w.heap.size, 0, none⟩ = some (.int .i64 t.k) ∧ (w.alloc (.cells #[.int .i64 t.k, .int .i64 t.v] 68)).cell? ⟨w.heap.size, 1, none⟩ = some (.int .i64 t.v) := two_cells (heap_alloc_new w _)
set_option maxRecDepth 100000 in
set_option maxHeartbeats 4000000 in
theorem foldOp_ok : CompOK 70 foldK := by
  intro x t rr g m w ho h60 hx hm hrows
  have hroot : x.root = t := by
    have := Ex.flat_root x
    rw [hx] at this
    injection this with h _
    exact h.symm
  have hTT := hrows.row (by rw [List.length_map]; exact hm)
  have hpl := preX_len x
  have hpf := preX_flat x
  rw [hroot] at hpf
  have hfl : (x.kids.map foldK).flatten.length ≤ 60 := by rw [hpf] at hpl; simp at hpl ⊢; omega
  have hm2 : m ≤ 2 := by rw [← hm]; cases x <;> simp [Ex.kids]
  have HA := Lib.hid (fun o : Obj => (Below.refl w.heap.size w).alloc (Nat.le_refl _) o)
  have CJ := Lib.hid (fun (w1 : World) (hb1 : Below w.heap.size w w1) => joined_any t (some ⟨g, 0, none⟩) m m (x.kids.map foldK) w1 w.heap.size (hTT.below hb1) hb1.size (by rw [List.length_map]; exact hm) (by omega) (by omega))
  rcases Nat.eq_zero_or_pos m with h0 | h0
  · have H := Lib.hid (show foldK x = t :: (x.kids.map foldK).flatten by rw [← hroot]; exact preX_leaf (List.eq_nil_of_length_eq_zero (by omega)))
    subst h0
    clear hrows hTT hpl hpf hfl hm hx ho h60 hroot
    go_enter Try.func70, Try.ntmps70
    go_wp2_with (go_at_call 89; refine (CJ.out _ (HA.out _)).mono ?_; rintro e w1 ⟨A1, n1, c1, rfl, ho1, hb1⟩; have HO1 := Lib.hid ho1; have HB1 := Lib.hid hb1; clear ho1 hb1)
    go_ret
    exact ⟨retF_of (own_lower HO1.out (HA.out _).size) H.out, grown_of_below ((HA.out _).trans (HB1.out.mono (HA.out _).size))⟩
  · have hkn : x.kids ≠ [] := fun e => by rw [e] at hm; simp at hm; omega
    have hfp : 1 ≤ (x.kids.map foldK).flatten.length := by
      rcases e : x.kids with _ | ⟨y, ys⟩
      · exact absurd e hkn
      · have := Ex.flat_pos (foldX y)
        simp [foldK]; omega
    have hml : ((m : Int) == 0) = false := by simp; omega
    rcases hno : noB (x.kids.map foldK).flatten with _ | _
    · obtain ⟨hnum, hok0⟩ := preX_num ho hkn hno
      have H := Lib.hid hnum
      have HOK := Lib.hid hok0
      have HNO := Lib.hid hno
      have HPF := Lib.hid hpf
      have HFL := Lib.hid (show 1 ≤ (x.kids.map foldK).flatten.length ∧ (x.kids.map foldK).flatten.length ≤ 59 by
        rw [hpf] at hpl
        simp only [List.length_cons] at hpl
        omega)
      generalize hfz : (x.kids.map foldK).flatten = z at *
      clear hrows hTT hpl hpf hfl hm hx ho h60 hroot hkn hfp hno hnum hok0
      go_enter Try.func70, Try.ntmps70
      go_wp2_with (first
        | (go_at_call 89; refine (CJ.out _ (HA.out _)).mono ?_; rintro e w1 ⟨A1, n1, c1, rfl, ho1, hb1⟩; have hn1 := own_lenJ ho1; obtain ⟨g1, rfl, h11, h12, hp1⟩ := own_head ho1; have hc1 := own_cap ho1; have HR1 := Lib.hid (show TRow w1 w1.heap.size (some ⟨g1, 0, none⟩) (t :: z) from Row.of_own2 ho1); have HN1 := Lib.hid hn1; have hn2 : 2 ≤ n1 ∧ n1 ≤ 60 := (by have := HFL.out; simp only [List.length_cons] at hn1; omega); have hc1x : c1 ≠ 1 := (by omega); have HCUT := Lib.hid (show TRow w1 w1.heap.size (some ⟨g1, 2, none⟩) z from (by have := HR1.out.cut (c := c1) (by rw [HN1.out]; exact hc1) 1; rw [cutA_at2 hc1x] at this; exact this)); have CC := Lib.hid (containsT_any (some ⟨g1, 2, none⟩) (n1 - 1) (c1 - 1) z w1 w1.heap.size HCUT.out (Nat.le_refl _) (by have := HN1.out; simp only [List.length_cons] at this; omega) (by omega)); have HB1 := Lib.hid ((HA.out (.cells #[.int .i64 t.k, .int .i64 t.v] 68)).trans (hb1.mono (HA.out _).size)); clear ho1 hb1 hn1)
        | (go_at_call 90; refine (CC.out).mono ?_; rw [HNO.out]; rintro e w2 ⟨rfl, hb2⟩; have hs2 := hb2.size; have HB2 := Lib.hid (HB1.out.trans (hb2.mono HB1.out.size)); have CV := Lib.hid (valueOf_any (some ⟨g1, 0, none⟩) n1 c1 (t :: z) none 0 0 [] (preX x) w2 ((HR1.out.below hb2).more hs2) HN1.out (by omega) hc1 Row.nil rfl (by omega) rfl HPF.out HOK.out); clear hb2)
        | (go_at_call 43; refine (CV.out).mono ?_; rintro e w3 ⟨rfl, hb3⟩; have HB3 := Lib.hid (HB2.out.trans (hb3.mono HB2.out.size)); clear hb3))
      go_ret
      exact ⟨retF_of (own_single w3 ⟨0, evX [] (preX x)⟩ w.heap.size HB3.out.size) H.out, grown_of_below (HB3.out.alloc HB3.out.size _)⟩
    · have H := Lib.hid (show foldK x = t :: (x.kids.map foldK).flatten by rw [← hroot]; exact preX_no ho hno)
      have HNO := Lib.hid hno
      have HFL := Lib.hid (show 1 ≤ (x.kids.map foldK).flatten.length ∧ (x.kids.map foldK).flatten.length ≤ 60 from ⟨hfp, hfl⟩)
      generalize hfz : (x.kids.map foldK).flatten = z at *
      clear hrows hTT hpl hpf hfl hm hx ho h60 hroot hkn hfp hno
      go_enter Try.func70, Try.ntmps70
      go_wp2_with (first
        | (go_at_call 89; refine (CJ.out _ (HA.out _)).mono ?_; rintro e w1 ⟨A1, n1, c1, rfl, ho1, hb1⟩; have hn1 := own_lenJ ho1; obtain ⟨g1, rfl, h11, h12, hp1⟩ := own_head ho1; have hc1 := own_cap ho1; have HR1 := Lib.hid (show TRow w1 w1.heap.size (some ⟨g1, 0, none⟩) (t :: z) from Row.of_own2 ho1); have HN1 := Lib.hid hn1; have HO1 := Lib.hid ho1; have hn2 : 2 ≤ n1 ∧ n1 ≤ 61 := (by have := HFL.out; simp only [List.length_cons] at hn1; omega); have hc1x : c1 ≠ 1 := (by omega); have HCUT := Lib.hid (show TRow w1 w1.heap.size (some ⟨g1, 2, none⟩) z from (by have := HR1.out.cut (c := c1) (by rw [HN1.out]; exact hc1) 1; rw [cutA_at2 hc1x] at this; exact this)); have CC := Lib.hid (containsT_any (some ⟨g1, 2, none⟩) (n1 - 1) (c1 - 1) z w1 w1.heap.size HCUT.out (Nat.le_refl _) (by have := HN1.out; simp only [List.length_cons] at this; omega) (by omega)); have HB1 := Lib.hid ((HA.out (.cells #[.int .i64 t.k, .int .i64 t.v] 68)).trans (hb1.mono (HA.out _).size)); clear ho1 hb1 hn1)
        | (go_at_call 90; refine (CC.out).mono ?_; rw [HNO.out]; rintro e w2 ⟨rfl, hb2⟩; have HB2 := Lib.hid (HB1.out.trans (hb2.mono HB1.out.size)); have HO2 := Lib.hid (own_below' HO1.out hb2); clear hb2))
      go_ret
      exact ⟨retF_of (own_lower HO2.out (HA.out _).size) H.out, grown_of_below HB2.out⟩
theorem foldOp_enters (args : Array Value) (w : World) : (callFunc 70 args).run Try.prog w = .ok (.enter 70 args) w :=
  Go.MuLone.run_callFunc_enter Try.func70 (by kernel_rfl) rfl args w
theorem folded_any (A : Option Addr) (n c : Nat) (es : List Tm) (w : World) (hrow : TRow w w.heap.size A es) (l : es.length = n) (hn : n ≤ 60) (hc : n ≤ c) (hflat : (treeOf es).flat = es) (hok : (treeOf es).ok 29) :
    Calls Try.prog 45 #[.slice A n c] w fun e w' => RetT1 w (foldK (treeOf es)) e w' := by
  have CB := Lib.hid (fun (w1 : World) (hb1 : Below w.heap.size w w1) => bottomT_any A n c es 70 foldK foldOp_ok foldOp_enters (treeOf es) w1 ((hrow.below hb1).more hb1.size) l hn hc hflat hok)
  clear hrow l hflat hok
  go_enter Try.func45, Try.ntmps45
  go_wp2_with (go_at_call 69; refine (CB.out _ (Below.refl _ _)).mono ?_; rintro e w2 ⟨A2, n2, c2, rfl, ho2, hb2⟩)
  go_ret
  exact ⟨A2, n2, c2, rfl, ho2, hb2⟩
set_option maxRecDepth 100000 in
set_option maxHeartbeats 1000000 in
theorem implFold_any (A : Option Addr) (n c : Nat) (es : List Tm) (w : World) (T : TypeId) (lo hi : Nat) (h : OwnV w lo hi T 2 A n c (tvs es)) (hB : hi ≤ w.heap.size) (l : es.length = n) (m : n ≤ 2000000) :
    Calls Try.prog 13 #[.slice A n c] w fun e w' => RetT2 w (foldR es) e w' := by
  have hcap := own_cap h.own
  have hrow := h.trow.more hB
  clear h hB
  have C := Lib.hid (isEx_any A n c es w w.heap.size hrow (Nat.le_refl _) l m)
  rcases hv : exB 29 60 es with _ | _
  · have H := Lib.hid (foldR_no hv)
    have HV := Lib.hid hv
    clear hv l
    go_enter Try.func13, Try.ntmps13
    go_wp2_with (go_at_call 44; refine (C.out).mono ?_; rw [HV.out]; rintro e w1 ⟨rfl, hb⟩)
    go_ret2
    exact RetT2.nil H.out hb
  · have H := Lib.hid (foldR_yes hv)
    have HV := Lib.hid hv
    have hn60 := (exB_scan hv).2
    obtain ⟨hflat, hok⟩ := treeOf_ok hv
    have CB := Lib.hid (fun (w1 : World) (hb1 : Below w.heap.size w w1) => folded_any A n c es w1 ((hrow.below hb1).more hb1.size) l (by omega) hcap hflat hok)
    clear hv l hflat hok hrow hn60
    go_enter Try.func13, Try.ntmps13
    go_wp2_with (first
      | (go_at_call 44; refine (C.out).mono ?_; rw [HV.out]; rintro e w1 ⟨rfl, hb⟩; have CB1 := Lib.hid (CB.out w1 hb); have HB := Lib.hid hb; clear hb)
      | (go_at_call 45; refine (CB1.out).mono ?_; rintro e w2 ⟨A2, n2, c2, rfl, ho2, hb2⟩; have HO2 := Lib.hid (own_lower ho2 HB.out.size); have HB2 := Lib.hid (HB.out.trans (hb2.mono HB.out.size)); clear ho2 hb2))
    go_ret2
    exact RetT2.mk' H.out HO2.out HB2.out
set_option maxRecDepth 100000 in
set_option maxHeartbeats 1000000 in
theorem specFold_any (A : Option Addr) (n c : Nat) (es : List Tm) (w : World) (T : TypeId) (lo hi : Nat) (h : OwnV w lo hi T 2 A n c (tvs es)) (hB : hi ≤ w.heap.size) (l : es.length = n) (m : n ≤ 2000000) :
    Calls Try.prog 27 #[.slice A n c] w fun e w' => RetT2 w (foldR es) e w' := by
  have hcap := own_cap h.own
  have hrow := h.trow.more hB
  clear h hB
  have C := Lib.hid (specAny_any A n c es w w.heap.size hrow l m)
  rcases hv : exB 29 60 es with _ | _
  · have H := Lib.hid (foldR_no hv)
    have HV := Lib.hid hv
    clear hv l
    go_enter Try.func27, Try.ntmps27
    go_wp2_with (go_at_call 51; refine (C.out).mono ?_; rw [HV.out]; rintro e w' ⟨rfl, rfl⟩)
    go_ret2
    exact RetT2.nil H.out (Below.refl _ _)
  · have H := Lib.hid (foldR_yes hv)
    have HV := Lib.hid hv
    have hn60 := (exB_scan hv).2
    obtain ⟨hflat, hok⟩ := treeOf_ok hv
    have CF := Lib.hid (l03Fold_any (treeOf es) A n c w (by rw [hflat]; exact hrow) (by rw [hflat]; exact l) (by omega) hcap hok)
    clear hv l hflat hok hrow hn60
    go_enter Try.func27, Try.ntmps27
    go_wp2_with (first
      | (go_at_call 51; refine (C.out).mono ?_; rw [HV.out]; rintro e w' ⟨rfl, rfl⟩)
      | (go_at_call 54; refine (CF.out).mono ?_; rintro e w2 ⟨A2, n2, c2, rfl, ho2, hb2⟩))
    go_ret2
    exact RetT2.mk' H.out ho2 hb2
end Go.Proofs.Ytkcbmblpalmmhaa
