/- Evaluating an expression: the program's answer is that of the plain function. -/
import Derived.Test.YtkcbmblpalmmhaaProg
import Derived.WalkKit
import Derived.ProofKit
import Derived.OwnWalk
import Derived.OneCell
import Derived.Outline
import Derived.Lib.Hide
import Derived.Laws.EntriesVeiled
import Derived.Test.YtkcbmblpalmmhaaMem
import Derived.Test.YtkcbmblpalmmhaaTmM
import Derived.Test.YtkcbmblpalmmhaaTmW
import Derived.Test.YtkcbmblpalmmhaaTmI
import Derived.Test.YtkcbmblpalmmhaaOpr
import Derived.Test.YtkcbmblpalmmhaaExM
import Derived.Test.YtkcbmblpalmmhaaEvM
import Derived.Test.YtkcbmblpalmmhaaEvA
import Derived.Test.YtkcbmblpalmmhaaEvN
namespace Go.Proofs.Ytkcbmblpalmmhaa
open Go.RowKit
/-- The three variables that the walk lays, and what they hold. -/
theorem three_blocks (w : World) (o1 o2 o3 : Obj) : (((w.alloc o1).alloc o2).alloc o3).heap[w.heap.size]? = some o1 ∧ (((w.alloc o1).alloc o2).alloc o3).heap[w.heap.size + 1]? = some o2 ∧ (((w.alloc o1).alloc o2).alloc o3).heap[w.heap.size + 2]? = some o3 := by
  have s1 : (w.alloc o1).heap.size = w.heap.size + 1 := by simp
  have s2 : ((w.alloc o1).alloc o2).heap.size = w.heap.size + 2 := by simp
  refine ⟨?_, ?_, ?_⟩
  · rw [Below.heap_alloc _ _ _ (by omega), Below.heap_alloc _ _ _ (by omega)]; exact heap_alloc_new w o1
  · rw [Below.heap_alloc _ _ _ (by omega), ← s1]; exact heap_alloc_new _ o2
  · rw [← s2]; exact heap_alloc_new _ o3
theorem below_three (w : World) (o1 o2 o3 : Obj) : Below w.heap.size w (((w.alloc o1).alloc o2).alloc o3) := (((Below.refl _ _).alloc (Nat.le_refl _) _).alloc (by simp) _).alloc (by simp; omega) _
/-- What firstValue does at the operation with which a list begins: its value, and the terms behind it. -/
def FvOK (B0 : Nat) (V : Option Addr) (nv cv : Nat) (vals : List Int) (y : Ex) : Prop :=
  ∀ (r : List Tm) (A : Option Addr) (n c : Nat) (w : World), TRow w B0 A (y.flat ++ r) → (y.flat ++ r).length = n → n ≤ 60 → n ≤ c → IRow w B0 V vals → B0 ≤ w.heap.size →
    Calls Try.prog 68 #[.slice V nv cv, .slice A n c] w fun e w' => ∃ (A' : Option Addr) (n' c' : Nat), e = .returned (.tuple #[.int .i64 (evX vals y), .slice A' n' c']) ∧ Hid (r.length = n') ∧ n' ≤ c' ∧ TRow w' B0 A' r ∧ Below w.heap.size w w'
/-- The head of a list of terms, and the slice behind it. -/
theorem head_cut {w : World} {B0 n c : Nat} {A : Option Addr} {t : Tm} {q : List Tm} (h : TRow w B0 A (t :: q)) (hl : (t :: q).length = n) (hc : n ≤ c) :
    ∃ b o, A = some ⟨b, o, none⟩ ∧ b < B0 ∧ w.cell? ⟨b, o, none⟩ = some (.int .i64 t.k) ∧ w.cell? ⟨b, o + 1, none⟩ = some (.int .i64 t.v) ∧ TRow w B0 (cutA (some ⟨b, o, none⟩) c 1) q := by
  obtain ⟨b, o, t', rfl, hb, hc1, hc2, ht⟩ := h.at_ (k := 0) (by simp)
  have et : t' = t := by
    have h1 := ht.out
    simpa using h1.symm
  subst et
  refine ⟨b, o, rfl, hb, by simpa using hc1, by simpa using hc2, ?_⟩
  have hcut := h.cut (c := c) (by omega) 1
  simpa using hcut
set_option maxRecDepth 100000 in
set_option maxHeartbeats 2000000 in
theorem fv_leaf (B0 : Nat) (V : Option Addr) (nv cv : Nat) (vals : List Int) (lv : vals.length = nv) (t : Tm) (ht : (t.k = 0 ∧ 0 ≤ t.v ∧ t.v ≤ 63) ∨ (t.k = 1 ∧ 0 ≤ t.v ∧ t.v < nv)) : FvOK B0 V nv cv vals (.leaf t) := by
  intro r A n c w hrow hl hn hc hv hB
  obtain ⟨b, o, rfl, hb, hc1, hc2, hcut⟩ := head_cut (t := t) (q := r) hrow hl hc
  obtain ⟨k, v⟩ := t
  simp only at ht hc1 hc2
  have hbw : b < w.heap.size := by omega
  have hrl : n = r.length + 1 := by rw [← hl]; rfl
  subst hrl
  have HB := Lib.hid (fun o : Obj => (Below.refl w.heap.size w).alloc (Nat.le_refl _) o)
  have HR := Lib.hid (fun (w' : World) (h' : Below w.heap.size w w') => hcut.below (h'.mono hB))
  have LV := Lib.hid lv
  clear hl hrow hcut lv
  have hc1x : c = 1 ∨ c ≠ 1 := by omega
  rcases ht with ⟨h0, h1, h2⟩ | ⟨h0, h1, h2⟩
  · subst h0
    have H := Lib.hid (show evX vals (.leaf ⟨0, v⟩) = v from rfl)
    clear hv h1 h2
    rcases hc1x with hcc | hcc
    · subst hcc
      obtain rfl : r = [] := List.eq_nil_of_length_eq_zero (by omega)
      go_enter Try.func68, Try.ntmps68
      go_wp2
      go_region
      go_wp2
      go_ret2
      exact ⟨some ⟨b, o, none⟩, 0, 0, by rw [H.out]; rfl, Lib.hid rfl, by simp, TRow.nil, (HB.out _).drew⟩
    · rw [cutA_at2 hcc] at HR
      go_enter Try.func68, Try.ntmps68
      go_wp2
      go_region
      go_wp2
      go_ret2
      exact ⟨some ⟨b, o + 2, none⟩, r.length, c - 1, by rw [H.out]; rfl, Lib.hid rfl, by omega, HR.out _ (HB.out _).drew, (HB.out _).drew⟩
  · subst h0
    obtain ⟨q, rfl⟩ : ∃ q : Nat, v = (q : Int) := ⟨v.toNat, by omega⟩
    have hql : q < nv := by omega
    obtain ⟨b2, o2, u, rfl, hb2, hcu, hu⟩ := hv.at_ (k := q) (by rw [LV.out]; exact hql)
    have H := Lib.hid (show evX vals (.leaf ⟨1, q⟩) = u by
      show vals.getD ((q : Int)).toNat 0 = u
      rw [Int.toNat_natCast, List.getD_eq_getElem?_getD, hu.out]; rfl)
    have hb3 : b2 < w.heap.size := by omega
    clear h1 h2 hv
    rcases hc1x with hcc | hcc
    · subst hcc
      obtain rfl : r = [] := List.eq_nil_of_length_eq_zero (by omega)
      go_enter Try.func68, Try.ntmps68
      go_wp2
      go_region
      go_wp2
      go_ret2
      exact ⟨some ⟨b, o, none⟩, 0, 0, by rw [H.out]; rfl, Lib.hid rfl, by simp, TRow.nil, (HB.out _).drew⟩
    · rw [cutA_at2 hcc] at HR
      go_enter Try.func68, Try.ntmps68
      go_wp2
      go_region
      go_wp2
      go_ret2
      exact ⟨some ⟨b, o + 2, none⟩, r.length, c - 1, by rw [H.out]; rfl, Lib.hid rfl, by omega, HR.out _ (HB.out _).drew, (HB.out _).drew⟩
theorem box_two (w w1 : World) (x y : Value) (T : TypeId) (h : Below ((w.alloc (.cells #[x, y] T)).drew).heap.size ((w.alloc (.cells #[x, y] T)).drew) w1) : w1.cell? ⟨w.heap.size, 0, none⟩ = some x ∧ w1.cell? ⟨w.heap.size, 1, none⟩ = some y ∧ w.heap.size < w1.heap.size := by
  obtain ⟨h1, h2⟩ := two_cells (heap_alloc_new w (.cells #[x, y] T))
  have hlt : w.heap.size < ((w.alloc (.cells #[x, y] T)).drew).heap.size := by show _ < (w.alloc (.cells #[x, y] T)).heap.size; simp
  exact ⟨(h.cell (p := ⟨w.heap.size, 0, none⟩) hlt).trans h1, (h.cell (p := ⟨w.heap.size, 1, none⟩) hlt).trans h2, Nat.lt_of_lt_of_le hlt h.size⟩
set_option maxRecDepth 100000 in
set_option maxHeartbeats 2000000 in
theorem fv_one (B0 : Nat) (V : Option Addr) (nv cv : Nat) (vals : List Int) (t : Tm) (a : Ex) (hk : t.k = 3) (ih : FvOK B0 V nv cv vals a) : FvOK B0 V nv cv vals (.one t a) := by
  intro r A n c w hrow hl hn hc hv hB
  obtain ⟨b, o, rfl, hb, hc1, hc2, hcut⟩ := head_cut (t := t) (q := a.flat ++ r) hrow hl hc
  obtain ⟨k, v⟩ := t
  simp only at hk hc1 hc2
  subst hk
  have hbw : b < w.heap.size := by omega
  have hap := Ex.flat_pos a
  obtain ⟨m, hm⟩ : ∃ m, m = (a.flat ++ r).length := ⟨_, rfl⟩
  have hnm : n = m + 1 := by rw [← hl, hm]; rfl
  have hm1 : 1 ≤ m := by rw [hm, List.length_append]; omega
  subst hnm
  have hcc : c ≠ 1 := by omega
  rw [cutA_at2 hcc] at hcut
  have HA := Lib.hid (fun (o : Obj) => (Below.refl w.heap.size w).alloc (Nat.le_refl _) o)
  have CI := Lib.hid (fun (w1 : World) (hb1 : Below w.heap.size w w1) => ih r (some ⟨b, o + 2, none⟩) m (c - 1) w1 (hcut.below (hb1.mono hB)) hm.symm (by omega) (by omega) (Row.below hv (hb1.mono hB)) (Nat.le_trans hB hb1.size))
  have HE := Lib.hid (show evX vals (.one ⟨3, v⟩ a) = tr (evX vals a == 0) from rfl)
  clear hcut hl hm hrow hv hap ih
  go_enter Try.func68, Try.ntmps68
  go_wp2
  go_region
  go_wp2_with (first
    | (go_at_call 68; refine (CI.out _ (HA.out _).drew).mono ?_; rintro e w1 ⟨A1, n1, c1, rfl, hrl, hrc, hrow1, hb1⟩; obtain ⟨hx0, hx1, hx2⟩ := box_two w w1 _ _ _ hb1; have HR1 := Lib.hid hrow1; have HB1 := Lib.hid ((HA.out _).drew.trans (hb1.mono (HA.out _).drew.size)); clear hrow1 hb1)
    | (go_at_call 86; refine (truthV_any _ _).mono ?_; rintro e w2 ⟨rfl, rfl⟩))
  go_ret2
  exact ⟨A1, n1, c1, by rw [HE.out]; rfl, hrl, hrc, HR1.out, HB1.out⟩
set_option maxRecDepth 100000 in
set_option maxHeartbeats 2000000 in
theorem fv_two (B0 : Nat) (V : Option Addr) (nv cv : Nat) (vals : List Int) (t : Tm) (a a' : Ex) (hk : t.k = 2) (hok : opOk t.v (evX vals a) (evX vals a')) (ih : FvOK B0 V nv cv vals a) (ih2 : FvOK B0 V nv cv vals a') : FvOK B0 V nv cv vals (.two t a a') := by
  intro r A n c w hrow hl hn hc hv hB
  have e0 : (Ex.two t a a').flat ++ r = t :: (a.flat ++ (a'.flat ++ r)) := by simp [Ex.flat]
  rw [e0] at hrow hl
  obtain ⟨b, o, rfl, hb, hc1, hc2, hcut⟩ := head_cut (t := t) (q := a.flat ++ (a'.flat ++ r)) hrow hl hc
  obtain ⟨k, v⟩ := t
  simp only at hk hc1 hc2 hok
  subst hk
  have hbw : b < w.heap.size := by omega
  have hap := Ex.flat_pos a
  obtain ⟨m, hm⟩ : ∃ m, m = (a.flat ++ (a'.flat ++ r)).length := ⟨_, rfl⟩
  have hnm : n = m + 1 := by rw [← hl, hm]; rfl
  have hm1 : 1 ≤ m := by rw [hm, List.length_append]; omega
  have hm2 : (a'.flat ++ r).length ≤ m := by rw [hm]; have := @List.length_append _ a.flat (a'.flat ++ r); omega
  subst hnm
  have hcc : c ≠ 1 := by omega
  rw [cutA_at2 hcc] at hcut
  have HA := Lib.hid (fun (o : Obj) => (Below.refl w.heap.size w).alloc (Nat.le_refl _) o)
  have CI := Lib.hid (fun (w1 : World) (hb1 : Below w.heap.size w w1) => ih (a'.flat ++ r) (some ⟨b, o + 2, none⟩) m (c - 1) w1 (hcut.below (hb1.mono hB)) hm.symm (by omega) (by omega) (Row.below hv (hb1.mono hB)) (Nat.le_trans hB hb1.size))
  have CJ := Lib.hid (fun (w1 : World) (hb1 : Below w.heap.size w w1) (A1 : Option Addr) (n1 c1 : Nat) (h1 : TRow w1 B0 A1 (a'.flat ++ r)) (h0 : (a'.flat ++ r).length = n1) (h2 : n1 ≤ c1) => ih2 r A1 n1 c1 w1 h1 h0 (by rw [← h0]; exact Nat.le_trans hm2 (by omega)) h2 (Row.below hv (hb1.mono hB)) (Nat.le_trans hB hb1.size))
  have HE := Lib.hid (show evX vals (.two ⟨2, v⟩ a a') = opV v (evX vals a) (evX vals a') from rfl)
  have HOP := Lib.hid (opR_yes hok)
  have CO := Lib.hid (fun W : World => implOperate_any v (evX vals a) (evX vals a') W)
  clear hcut hl hm hrow hv hap ih ih2 e0 hok
  go_enter Try.func68, Try.ntmps68
  go_wp2
  go_region
  go_wp2_with (first
    | (go_at_call 87; refine (CO.out _).mono ?_; rw [HOP.out]; rintro e w3 ⟨rfl, rfl⟩)
    | (go_at_call 68; refine (CI.out _ (HA.out _).drew).mono ?_; rintro e w1 ⟨A1, n1, c1, rfl, hrl, hrc, hrow1, hb1⟩; obtain ⟨hx0, hx1, hx2⟩ := box_two w w1 _ _ _ hb1; have HB1 := Lib.hid ((HA.out (.cells #[.int .i64 2, .int .i64 v] 68)).drew.trans (hb1.mono (HA.out _).drew.size)); have CJ1 := Lib.hid (CJ.out w1 HB1.out A1 n1 c1 hrow1 hrl.out hrc); clear hrow1 hb1 hrc hrl CI)
    | (go_at_call 68; refine (CJ1.out).mono ?_; rintro e w2 ⟨A2, n2, c2, rfl, hrl2, hrc2, hrow2, hb2⟩; have hy0 := (hb2.cell (p := ⟨w.heap.size, 0, none⟩) hx2).trans hx0; have hy1 := (hb2.cell (p := ⟨w.heap.size, 1, none⟩) hx2).trans hx1; have hy2 := Nat.lt_of_lt_of_le hx2 hb2.size; have HR2 := Lib.hid hrow2; have HB2 := Lib.hid (HB1.out.trans (hb2.mono HB1.out.size)); clear hrow2 hb2 hx0 hx1 hx2))
  go_ret2
  exact ⟨A2, n2, c2, by rw [HE.out]; rfl, hrl2, hrc2, HR2.out, HB2.out⟩
theorem fv_all (B0 : Nat) (V : Option Addr) (nv cv : Nat) (vals : List Int) (lv : vals.length = nv) (hd : dataB vals = true) : ∀ (x : Ex), x.ok (nv : Int) → FvOK B0 V nv cv vals x := by
  intro x
  induction x with
  | leaf t => exact fun ho => fv_leaf B0 V nv cv vals lv t (tm_leaf ho.1 ho.2)
  | one t a iha => exact fun ho => fv_one B0 V nv cv vals t a (tm_one ho.2.1) (iha ho.2.2)
  | two t a b iha ihb =>
    exact fun ho => fv_two B0 V nv cv vals t a b (tm_two ho.1 ho.2.1).1 ⟨(tm_two ho.1 ho.2.1).2, evX_bd (by rw [lv]) hd ho.2.2.1, evX_bd (by rw [lv]) hd ho.2.2.2⟩ (iha ho.2.2.1) (ihb ho.2.2.2)
set_option maxRecDepth 100000 in
theorem valueOf_any (A : Option Addr) (n c : Nat) (es : List Tm) (V : Option Addr) (nv cv : Nat) (vals : List Int) (x : Ex) (w : World) (h : TRow w w.heap.size A es) (l : es.length = n) (hn : n ≤ 60) (hc : n ≤ c) (hv : IRow w w.heap.size V vals) (lv : vals.length = nv) (_mv : nv ≤ 29) (hd : dataB vals = true) (hx : x.flat = es) (ho : x.ok (nv : Int)) :
    Calls Try.prog 43 #[.slice V nv cv, .slice A n c] w fun e w' => e = .returned (.int .i64 (evX vals x)) ∧ Below w.heap.size w w' := by
  have C := Lib.hid (fv_all w.heap.size V nv cv vals lv hd x ho [] A n c w (by rw [hx, List.append_nil]; exact h) (by rw [hx, List.append_nil]; exact l) hn hc hv (Nat.le_refl _))
  clear l hx h hv lv hd ho
  go_enter Try.func43, Try.ntmps43
  go_wp2_with (go_at_call 68; refine (C.out).mono ?_; rintro e w' ⟨A', n', c', rfl, _, _, _, hb⟩)
  go_ret
  exact ⟨rfl, hb⟩
theorem not_vt {v : Int} {es : List Tm} (h0 : 0 ≤ v) : vtB v 60 es = (decide (v ≤ 29) && exB v 60 es) := by
  by_cases h : v ≤ 29
  · rw [vtB_yes (by omega), decide_eq_true h]; rfl
  · rw [vtB_no (by omega), decide_eq_false h]; rfl
set_option maxRecDepth 100000 in
set_option maxHeartbeats 2000000 in
theorem implEval_any (A : Option Addr) (n c : Nat) (es : List Tm) (V : Option Addr) (nv cv : Nat) (vals : List Int) (w : World) (T1 : TypeId) (lo1 hi1 : Nat) (h : OwnV w lo1 hi1 T1 2 A n c (tvs es)) (hB : hi1 ≤ w.heap.size) (l : es.length = n) (m : n ≤ 2000000) (T2 : TypeId) (lo2 hi2 : Nat) (h2 : OwnV w lo2 hi2 T2 1 V nv cv (vals.map (Value.int .i64))) (hB2 : hi2 ≤ w.heap.size) (l2 : vals.length = nv) (m2 : nv ≤ 2000000) :
    Calls Try.prog 12 #[.slice A n c, .slice V nv cv] w fun e w' => e = .returned (.tuple #[.int .i64 (evalR es vals).1, .int .i64 (evalR es vals).2]) ∧ Below w.heap.size w w' := by
  have hcap := own_cap h.own
  have hrow := h.trow.more hB
  have hrow2 : IRow w w.heap.size V vals := Row.more h2.row hB2
  clear h h2 hB hB2
  have CC := Lib.hid (containsF_any V nv cv vals w w.heap.size hrow2 l2 m2)
  rcases hd : dataB vals with _ | _
  · have H := Lib.hid (evalR_no (es := es) (vals := vals) (by rintro ⟨_, e, _⟩; rw [hd] at e; cases e))
    have HD := Lib.hid hd
    clear hd l l2
    go_enter Try.func12, Try.ntmps12
    go_wp2_with (go_at_call 40; refine (CC.out).mono ?_; rw [HD.out]; rintro e w' ⟨rfl, rfl⟩)
    go_ret2
    exact ⟨by rw [H.out]; rfl, Below.refl _ _⟩
  · have HD := Lib.hid hd
    have CV := Lib.hid (implValid_any A n c es (nv : Int) 60 w w.heap.size hrow (Nat.le_refl _) l m)
    rcases hx : vtB (nv : Int) 60 es with _ | _
    · have H := Lib.hid (evalR_no (es := es) (vals := vals) (by
        rintro ⟨e1, _, e3⟩
        rw [l2] at e1 e3
        rw [not_vt (by omega), e3, decide_eq_true (by omega)] at hx
        cases hx))
      have HX := Lib.hid hx
      clear hx hd l l2
      go_enter Try.func12, Try.ntmps12
      go_wp2_with (first
        | (go_at_call 40; refine (CC.out).mono ?_; rw [HD.out]; rintro e w' ⟨rfl, rfl⟩)
        | (go_at_call 42; refine (CV.out).mono ?_; rw [HX.out]; rintro e w' ⟨rfl, hb⟩))
      go_ret2
      exact ⟨by rw [H.out]; rfl, hb⟩
    · have HX := Lib.hid hx
      rw [not_vt (by omega), Bool.and_eq_true, decide_eq_true_iff] at hx
      have h29 : nv ≤ 29 := by omega
      have H := Lib.hid (evalR_yes (es := es) (vals := vals) (by omega) hd (by rw [l2]; exact hx.2))
      obtain ⟨hflat, hok⟩ := treeOf_okV hx.2 (by omega)
      have hn60 := (exB_scan hx.2).2
      have CE := Lib.hid (fun (w1 : World) (hb : Below w.heap.size w w1) => valueOf_any A n c es V nv cv vals (treeOf es) w1 ((hrow.below hb).more hb.size) l (by omega) hcap (Row.more (hrow2.below hb) hb.size) l2 h29 hd hflat hok)
      clear hx hd l l2 hflat hok hn60
      go_enter Try.func12, Try.ntmps12
      go_wp2_with (first
        | (go_at_call 40; refine (CC.out).mono ?_; rw [HD.out]; rintro e w' ⟨rfl, rfl⟩)
        | (go_at_call 42; refine (CV.out).mono ?_; rw [HX.out]; rintro e w1 ⟨rfl, hb⟩; have CE1 := Lib.hid (CE.out w1 hb); have HB1 := Lib.hid hb; clear hb)
        | (go_at_call 43; refine (CE1.out).mono ?_; rintro e w2 ⟨rfl, hb2⟩))
      go_ret2
      exact ⟨by rw [H.out]; rfl, HB1.out.trans (hb2.mono HB1.out.size)⟩
end Go.Proofs.Ytkcbmblpalmmhaa
