/- The program's walk over an expression from the bottom up, for values: each call takes one operation off the rest and hands back its value. -/
import Derived.Test.YtfoopgnnhgdfaaaProg
import Derived.WalkKit
import Derived.ProofKit
import Derived.OwnWalk
import Derived.OneCell
import Derived.Outline
import Derived.Lib.Hide
import Derived.Laws.EntriesVeiled
import Derived.Test.YtfoopgnnhgdfaaaMem
import Derived.Test.YtfoopgnnhgdfaaaTmM
import Derived.Test.YtfoopgnnhgdfaaaTmW
import Derived.Test.YtfoopgnnhgdfaaaTmI
import Derived.Test.YtfoopgnnhgdfaaaOpr
import Derived.Test.YtfoopgnnhgdfaaaExM
import Derived.Test.YtfoopgnnhgdfaaaCut
import Derived.Test.YtfoopgnnhgdfaaaEvM
import Derived.Test.YtfoopgnnhgdfaaaEvA
namespace Go.Proofs.Ytfoopgnnhgdfaaa
open Go.RowKit
/-- The rest of an expression, in the variable that block R is. -/
def RestAt (w : World) (R B0 : Nat) (es : List Tm) : Prop := ∃ (A : Option Addr) (n c : Nat), w.heap[R]? = some (.cells #[.slice A n c] 24 (0, 0)) ∧ n ≤ c ∧ n ≤ 60 ∧ es.length = n ∧ TRow w B0 A es
theorem grown_of_below {w w' : World} {row : Option Nat} (h : Below w.heap.size w w') : w.grownBy w' row := ⟨h.os, h.tape, h.output, h.size, fun k hk _ => h.block k hk⟩
theorem grown_set {w w' : World} {R g k : Nat} (h : w.grownBy w' (some R)) (hg : w.heap.size ≤ g) (u : Value) : w.grownBy (w'.setCell ⟨g, k, none⟩ u) (some R) :=
  ⟨h.os, h.tape, h.output, by simpa [World.setCell] using h.size, fun i hi hne => (Below.heap_setCell _ _ _ _ (by show i ≠ g; omega)).trans (h.block i hi hne)⟩
theorem grown_setR {w w' : World} {R k : Nat} (h : w.grownBy w' (some R)) (u : Value) : w.grownBy (w'.setCell ⟨R, k, none⟩ u) (some R) :=
  ⟨h.os, h.tape, h.output, by simpa [World.setCell] using h.size, fun i hi hne => (Below.heap_setCell _ _ _ _ (by show i ≠ R; exact fun e => hne (by rw [e]))).trans (h.block i hi hne)⟩
theorem grown_alloc {w w' : World} {row : Option Nat} (h : w.grownBy w' row) (o : Obj) : w.grownBy (w'.alloc o) row :=
  ⟨h.os, h.tape, h.output, Nat.le_trans h.size (by simp), fun i hi hne => (Below.heap_alloc _ o i (Nat.lt_of_lt_of_le hi h.size)).trans (h.block i hi hne)⟩
theorem below_of_grown {w w' : World} {R B0 : Nat} (h : w.grownBy w' (some R)) (h1 : B0 ≤ R) (h2 : B0 ≤ w.heap.size) : Below B0 w w' := (Below.refl B0 w).grown h h2 (fun k e => by injection e with e; omega)
theorem RestAt.lt {w : World} {R B0 : Nat} {es : List Tm} (h : RestAt w R B0 es) : R < w.heap.size := by
  obtain ⟨A, n, c, hR, _⟩ := h
  exact lt_of_block hR
theorem RestAt.keep {w w' : World} {R B0 : Nat} {es : List Tm} (h : RestAt w R B0 es) (h1 : w'.heap[R]? = w.heap[R]?) (h2 : Below B0 w w') : RestAt w' R B0 es := by
  obtain ⟨A, n, c, hR, h3, h4, h5, h6⟩ := h
  exact ⟨A, n, c, h1.trans hR, h3, h4, h5, h6.below h2⟩
abbrev ptr (b : Nat) : Value := .pointer (some ⟨b, 0, none⟩)
/-- What the call that stands for an operation of the rest does. -/
def EvOK (R N C B0 : Nat) (V : Option Addr) (nv cv : Nat) (vals : List Int) (y : Ex) : Prop :=
  ∀ (r : List Tm) (w : World), RestAt w R B0 (y.flat ++ r) →
    w.heap[N]? = some (.cells #[.func (.func 108) #[] #[ptr R, ptr N, ptr C]] 99 (0, 0)) →
    w.heap[C]? = some (.cells #[.func (.func 95) #[.slice V nv cv] #[]] 102 (0, 0)) →
    IRow w B0 V vals → B0 ≤ w.heap.size →
    Calls Try.prog 108 #[ptr R, ptr N, ptr C] w fun e w' => e = .returned (.int .i64 (evX vals y)) ∧ RestAt w' R B0 r ∧ w.grownBy w' (some R)
theorem info_num : (Try.prog.info? 2).map (fun i => (i.zero, i.size, i.bytes)) = some (some (.int .i64 0), 1, 8) := by kernel_rfl
theorem rep_set {xs : List Int} {m k : Nat} {u : Int} (hl : xs.length = m) (hk : xs[k]? = some u) : (((xs.take k ++ List.replicate (m - k) 0).map (Value.int .i64)).set k (.int .i64 u)) = (xs.take (k + 1) ++ List.replicate (m - (k + 1)) 0).map (Value.int .i64) := by
  have hlt := (List.getElem?_eq_some_iff.1 hk).1
  have h1 : m - k = (m - (k + 1)) + 1 := by omega
  have h2 : ((xs.take k).map (Value.int .i64)).length = k := by rw [List.length_map, List.length_take]; omega
  rw [h1, List.map_append, List.replicate_succ, List.map_cons, List.set_append_right _ _ (by omega), h2, Nat.sub_self, List.set_cons_zero, take_one _ _ _ hk, List.append_assoc, List.map_append, List.map_append]
  rfl
/-- Where the loop over an operation's operands stands. -/
def EvLoop (w : World) (R B0 g m : Nat) (vals : List Int) (ks : List Ex) (t : Tm) (r : List Tm) (iv : Value) (wr : World) : Prop :=
  ∃ k : Nat, k ≤ m ∧ iv = .int .i64 k ∧ RestAt wr R B0 ((ks.drop k).flatMap Ex.flat ++ r) ∧
    wr.ownsRow g 2 1 (.slice (some ⟨g, 0, none⟩) m m) m (((ks.map (evX vals)).take k ++ List.replicate (m - k) 0).map (Value.int .i64)) ∧
    wr.heap[w.heap.size]? = some (.cells #[.int .i64 t.k, .int .i64 t.v] 77 (0, 0)) ∧ w.grownBy wr (some R)
theorem grown_none {w w' : World} {row : Option Nat} (h : w.grownBy w' none) : w.grownBy w' row := ⟨h.os, h.tape, h.output, h.size, fun k hk _ => h.block k hk (by simp)⟩
theorem evLoop_start {w w2 w3 : World} {R B0 m n1 c1 : Nat} {vals : List Int} {ks : List Ex} {t : Tm} {r : List Tm} {A A1 : Option Addr} {n c : Nat} (hR : w.heap[R]? = some (.cells #[.slice A n c] 24 (0, 0))) (hRB : B0 ≤ R) (hB : B0 ≤ w.heap.size)
    (hc : n1 ≤ c1) (hn : n1 ≤ 60) (hl : (ks.flatMap Ex.flat ++ r).length = n1) (hcut : TRow w B0 A1 (ks.flatMap Ex.flat ++ r))
    (h2 : Below ((w.setCell ⟨R, 0, none⟩ (.slice A1 n1 c1)).alloc (.cells #[.int .i64 t.k, .int .i64 t.v] 77)).heap.size ((w.setCell ⟨R, 0, none⟩ (.slice A1 n1 c1)).alloc (.cells #[.int .i64 t.k, .int .i64 t.v] 77)) w2)
    (h3 : w2.grownBy w3 none) (ho : w3.ownsRow w2.heap.size 2 1 (.slice (some ⟨w2.heap.size, 0, none⟩) m m) m (madeCells (Value.int .i64 0).cells (m * 1)).toList) : w.heap.size < w2.heap.size ∧ EvLoop w R B0 w2.heap.size m vals ks t r (.int .i64 0) w3 := by
  have hRlt := lt_of_block hR
  have e0 : (w.setCell ⟨R, 0, none⟩ (.slice A1 n1 c1)).heap.size = w.heap.size := by simp [World.setCell]
  have e1 : ((w.setCell ⟨R, 0, none⟩ (.slice A1 n1 c1)).alloc (.cells #[.int .i64 t.k, .int .i64 t.v] 77)).heap.size = w.heap.size + 1 := by simp
  have hs2 := h2.size
  rw [e1] at hs2
  have g1 : w.grownBy ((w.setCell ⟨R, 0, none⟩ (.slice A1 n1 c1)).alloc (.cells #[.int .i64 t.k, .int .i64 t.v] 77)) (some R) := grown_alloc (grown_setR (World.grownBy.refl _ _) _) _
  have g3 : w.grownBy w3 (some R) := grown_trans (grown_trans g1 (grown_of_below h2)) (grown_none h3)
  have hR3 : w3.heap[R]? = some (.cells #[.slice A1 n1 c1] 24 (0, 0)) := by
    rw [h3.block R (by omega) (by simp), h2.block R (by omega), Below.heap_alloc _ _ R (by omega)]
    exact one_setCell hR
  have hT3 : w3.heap[w.heap.size]? = some (.cells #[.int .i64 t.k, .int .i64 t.v] 77 (0, 0)) := by
    rw [h3.block w.heap.size (by omega) (by simp), h2.block w.heap.size (by omega)]
    have := heap_alloc_new (w.setCell ⟨R, 0, none⟩ (.slice A1 n1 c1)) (.cells #[.int .i64 t.k, .int .i64 t.v] 77)
    rwa [e0] at this
  refine ⟨by omega, 0, Nat.zero_le _, rfl, ⟨A1, n1, c1, hR3, hc, hn, by simpa using hl, by simpa using hcut.below (below_of_grown g3 hRB hB)⟩, ?_, hT3, g3⟩
  have e := toList_madeCells_one (.int .i64 0) m
  have e2 : (Value.int .i64 0).cells = #[.int .i64 0] := rfl
  rw [e2, Nat.mul_one, e] at ho
  simpa using ho
theorem evLoop_next {w wr w4 : World} {R B0 g m k : Nat} {vals : List Int} {ks : List Ex} {t : Tm} {r : List Tm} {y : Ex} (hy : ks[k]? = some y) (hm : ks.length = m) (hRw : R < w.heap.size) (hgw : w.heap.size < g) (hB : B0 ≤ w.heap.size)
    (ho : wr.ownsRow g 2 1 (.slice (some ⟨g, 0, none⟩) m m) m (((ks.map (evX vals)).take k ++ List.replicate (m - k) 0).map (Value.int .i64)))
    (hT : wr.heap[w.heap.size]? = some (.cells #[.int .i64 t.k, .int .i64 t.v] 77 (0, 0))) (hg : w.grownBy wr (some R))
    (h4 : RestAt w4 R B0 ((ks.drop (k + 1)).flatMap Ex.flat ++ r)) (hg4 : wr.grownBy w4 (some R)) :
    EvLoop w R B0 g m vals ks t r (.int .i64 ((k + 1 : Nat) : Int)) (w4.setCell ⟨g, k, none⟩ (.int .i64 (evX vals y))) := by
  have hk := (List.getElem?_eq_some_iff.1 hy).1
  have ho4 : w4.ownsRow g 2 1 (.slice (some ⟨g, 0, none⟩) m m) m (((ks.map (evX vals)).take k ++ List.replicate (m - k) 0).map (Value.int .i64)) := ho.kept hg4 (.inr (by simp [Value.ownBlock]; omega))
  have hTlt := lt_of_block hT
  have hT4 := (hg4.block w.heap.size hTlt (by intro e; injection e with e; omega)).trans hT
  refine ⟨k + 1, by omega, rfl, h4.keep (Below.heap_setCell _ _ _ _ (by show R ≠ g; omega)) ((Below.refl _ _).setCell (by show B0 ≤ g; omega) _), ?_, (Below.heap_setCell _ _ _ _ (by show w.heap.size ≠ g; omega)).trans hT4, grown_set (grown_trans hg hg4) (by omega) _⟩
  have := (ho4.stored k (.int .i64 (evX vals y))).1
  rwa [rep_set (xs := ks.map (evX vals)) (by rw [List.length_map]; exact hm) (by rw [List.getElem?_map, hy]; rfl)] at this
theorem two_cells {w : World} {b : Nat} {x y : Value} {T : TypeId} (h : w.heap[b]? = some (.cells #[x, y] T (0, 0))) : w.cell? ⟨b, 0, none⟩ = some x ∧ w.cell? ⟨b, 1, none⟩ = some y := by
  rw [cell_of_row w b 0 #[x, y] T (0, 0) h, cell_of_row w b 1 #[x, y] T (0, 0) h]
  exact ⟨rfl, rfl⟩
theorem cutA_at2 {b o c : Nat} (h : c ≠ 1) : cutA (some ⟨b, o, none⟩) c 1 = some ⟨b, o + 2, none⟩ := by
  unfold cutA
  rw [if_neg h]
  show some ((⟨b, o, none⟩ : Addr).add (1 * 2)) = _
  rw [addLit]
set_option maxRecDepth 100000 in
set_option maxHeartbeats 8000000 in
theorem evStep (R N C B0 : Nat) (V : Option Addr) (nv cv : Nat) (vals : List Int) (hRB : B0 ≤ R) (hNR : N ≠ R) (hCR : C ≠ R) (lv : vals.length = nv) (mv : nv ≤ 29) (hd : dataB vals = true) (x : Ex) (ho : x.ok (nv : Int)) (ih : ∀ y ∈ x.kids, EvOK R N C B0 V nv cv vals y) : EvOK R N C B0 V nv cv vals x := by
  intro r w hrest hN hC hV hB
  have hRlt := hrest.lt
  have hNlt := lt_of_block hN
  have hClt := lt_of_block hC
  obtain ⟨A, n, c, hR, hnc, hn60, hlen, hrow⟩ := hrest
  obtain ⟨t, rr, hx, har⟩ := Ex.kids_len ho
  have hn1 : 1 ≤ n := by rw [← hlen, hx]; simp
  obtain ⟨b, o, t', rfl, hb, hc1, hc2, ht⟩ := hrow.at_ (k := 0) (by omega)
  have et : t' = t := by
    have h1 := ht.out
    rw [hx] at h1
    simpa using h1.symm
  subst et
  have hc1' : w.cell? ⟨b, o, none⟩ = some (.int .i64 t'.k) := by simpa using hc1
  have hc2' : w.cell? ⟨b, o + 1, none⟩ = some (.int .i64 t'.v) := by simpa using hc2
  have hcR := cell_of_one hR
  have hfR := free_of_one hR
  have hrr : rr ++ r = x.kids.flatMap Ex.flat ++ r := by rw [Ex.kids_flat, hx]; rfl
  have hcut := hrow.cut (c := c) (by omega) 1
  rw [hx] at hcut
  replace hcut : TRow w B0 (cutA (some ⟨b, o, none⟩) c 1) (x.kids.flatMap Ex.flat ++ r) := by rw [← hrr]; exact hcut
  have hlen1 : (x.kids.flatMap Ex.flat ++ r).length = n - 1 := by
    rw [← hrr]
    rw [hx] at hlen
    simp at hlen ⊢
    omega
  obtain ⟨m, hm⟩ : ∃ m, m = x.kids.length := ⟨_, rfl⟩
  have hm2 : m ≤ 2 := by rw [hm]; cases x <;> simp [Ex.kids]
  have HM := Lib.hid hm
  have HAR := Lib.hid (show ar t' = ((m : Nat) : Int) by rw [hm]; exact har)
  have HBW0 : ∀ w' : World, w.grownBy w' (some R) → w'.heap[N]? = w.heap[N]? ∧ w'.heap[C]? = w.heap[C]? ∧ Below B0 w w' ∧ w.heap.size ≤ w'.heap.size := fun w' hg =>
    ⟨hg.block N hNlt (by intro e; injection e with e; exact hNR e), hg.block C hClt (by intro e; injection e with e; exact hCR e), below_of_grown hg hRB hB, hg.size⟩
  have HBW := Lib.hid HBW0
  clear HBW0
  have HX := Lib.hid hx
  have HCUT := Lib.hid hcut
  have HLEN1 := Lib.hid hlen1
  have HNN := Lib.hid hN
  have HCC := Lib.hid hC
  have HV := Lib.hid hV
  have HRR := Lib.hid hR
  have HO := Lib.hid ho
  have HIH := Lib.hid ih
  obtain ⟨i0, hi, hz0, hz1, hz2⟩ := info_parts info_num
  have hbw : b < w.heap.size := by omega
  clear hx hcut hlen1 hN hC hV hR ho ih hm har hc1 hc2 ht hrow hrr hlen
  have LV := Lib.hid lv
  have HDB := Lib.hid hd
  clear lv hd
  have hc1x : c = 1 ∨ 1 < c := by omega
  rcases hc1x with hcc | hcc
  · have HCA := Lib.hid (show cutA (some ⟨b, o, none⟩) c 1 = some ⟨b, o, none⟩ by unfold cutA; rw [if_pos hcc])
    subst hcc
    obtain rfl : n = 1 := by omega
    go_enter Try.func108, Try.ntmps108
    go_wp2_with (first
      | (go_at_call 72; refine (opCount_tm t' _).mono ?_; rw [HAR.out]; rintro e w2 ⟨rfl, b2⟩; have B2 := Lib.hid b2; clear b2)
      | (at_make; refine wpList_make_full _ rfl _ _ _ rfl w2.heap.size 2 i0 (.int .i64 0) 1 Try.underlying27 hi hz0 hz1 .i64 .i64 _ _ m rfl rfl rfl rfl (by rw [hz2]; omega) (by unfold maxLen; omega) (Nat.le_refl _) ?_; intro w3 hown3 hg3))
    have HS := Lib.hid (evLoop_start (vals := vals) (ks := x.kids) (t := t') (r := r) HRR.out hRB hB (Nat.le_refl 0) (by omega) HLEN1.out (by rw [← HCA.out]; exact HCUT.out) B2.out hg3 hown3)
    have hgw := HS.out.1
    clear hown3 hg3 hi hz0 hz1 hz2 hcR hfR hc1' hc2' B2
    go_loopw [17] (fun i wr => EvLoop w R B0 w2.heap.size m vals x.kids t' r i wr) (fun i _ => m - (intOf i).toNat)
    case atStart => exact HS.out.2
    case round =>
      obtain ⟨k, hk, rfl, hrest, hown, hT, hg⟩ := hrel
      obtain ⟨eN, eC, hbB, hsz⟩ := HBW.out _ hg
      by_cases hlt : k < m
      · obtain ⟨y, hy⟩ : ∃ y, x.kids[k]? = some y := ⟨_, List.getElem?_eq_getElem (by rw [← HM.out]; exact hlt)⟩
        have hcN := cell_of_one (eN.trans HNN.out)
        have hdk : (x.kids.drop k).flatMap Ex.flat ++ r = y.flat ++ ((x.kids.drop (k + 1)).flatMap Ex.flat ++ r) := by rw [drop_one _ _ _ hy, List.flatMap_cons, List.append_assoc]
        rw [hdk] at hrest
        have CK := Lib.hid (HIH.out y (List.mem_of_getElem? hy) _ wr hrest (eN.trans HNN.out) (eC.trans HCC.out) (HV.out.below hbB) (by omega))
        have HNX := Lib.hid (fun (w4 : World) h4 hg4 => evLoop_next (w4 := w4) (r := r) hy HM.out.symm hRlt hgw hB hown hT hg h4 hg4)
        have HOWN := Lib.hid hown
        have hgr : w2.heap.size ≠ R := by omega
        clear hrest hdk hy hown hT hg eN eC
        go_wp2_with (go_at_call 108; refine (CK.out).mono ?_; rintro e w4 ⟨rfl, h4, hg4⟩; obtain ⟨⟨old, hx4⟩, hf4⟩ := own_some (HOWN.out.kept hg4 (.inr (by simp [Value.ownBlock]; omega))) (k := k) (by omega); have HF := Lib.hid (HNX.out w4 h4 hg4); clear h4 hg4)
        go_roundw
        case rel => exact HF.out
        case measure => simp [intOf]; omega
      · obtain rfl : k = m := by omega
        have hcC := cell_of_one (eC.trans HCC.out)
        obtain ⟨hT1, hT2⟩ := two_cells hT
        have hrest' : RestAt wr R B0 r := by
          have e : (x.kids.drop k).flatMap Ex.flat ++ r = r := by rw [List.drop_eq_nil_of_le (by rw [← HM.out]; exact Nat.le_refl _)]; rfl
          rwa [e] at hrest
        have hRr := hrest'.lt
        have HFIN := Lib.hid (fun (w5 : World) (h5 : Below wr.heap.size wr w5) => (⟨hrest'.keep (h5.block R hRr) (h5.mono (by omega)), grown_trans hg (grown_of_below h5)⟩ : RestAt w5 R B0 r ∧ w.grownBy w5 (some R)))
        have hV' := HV.out.below hbB
        have HOWN := Lib.hid hown
        have hB' : B0 ≤ wr.heap.size := by omega
        clear hrest hrest' hown hT hg eN eC hbB
        cases x with
        | leaf t0 =>
          have et : t0 = t' := by have := HX.out; simp [Ex.flat] at this; exact this.1
          subst et
          have hk0 : k = 0 := HM.out
          subst hk0
          have CA := Lib.hid (applyLeaf_any t0 V nv cv vals (some ⟨w2.heap.size, 0, none⟩) 0 0 wr B0 hV' LV.out mv hB' (tm_leaf HO.out.1 HO.out.2))
          go_wp2_with (go_at_call 95; refine (CA.out).mono ?_; rintro e w5 ⟨rfl, h5⟩; have H5 := Lib.hid (HFIN.out w5 h5); clear h5)
          go_ret
          exact ⟨rfl, H5.out⟩
        | one t0 a =>
          have et : t0 = t' := by have := HX.out; simp [Ex.flat] at this; exact this.1
          subst et
          have hk0 : k = 1 := HM.out
          subst hk0
          have hca := (HOWN.out.cellAt 0 (by omega)).trans (show _ = some (Value.int .i64 (evX vals a)) from rfl)
          have hk3 := tm_one HO.out.2.1
          rw [hk3] at hT1
          have CA := Lib.hid (applyOne_any t0.v V nv cv w2.heap.size 0 1 1 (evX vals a) wr hca (Nat.le_refl _))
          go_wp2_with (go_at_call 95; refine (CA.out).mono ?_; rintro e w5 ⟨rfl, h5⟩; have H5 := Lib.hid (HFIN.out w5 h5); clear h5)
          go_ret
          exact ⟨rfl, H5.out⟩
        | two t0 a b' =>
          have et : t0 = t' := by have := HX.out; simp [Ex.flat] at this; exact this.1
          subst et
          have hk0 : k = 2 := HM.out
          subst hk0
          have hca := (HOWN.out.cellAt 0 (by omega)).trans (show _ = some (Value.int .i64 (evX vals a)) from rfl)
          have hcb := (HOWN.out.cellAt 1 (by omega)).trans (show _ = some (Value.int .i64 (evX vals b')) from rfl)
          have hk3 := (tm_two HO.out.1 HO.out.2.1).1
          rw [hk3] at hT1
          have CA := Lib.hid (applyTwo_any t0.v V nv cv w2.heap.size (evX vals a) (evX vals b') wr hca hcb ⟨(tm_two HO.out.1 HO.out.2.1).2, evX_bd (by rw [LV.out]) HDB.out HO.out.2.2.1, evX_bd (by rw [LV.out]) HDB.out HO.out.2.2.2⟩)
          go_wp2_with (go_at_call 95; refine (CA.out).mono ?_; rintro e w5 ⟨rfl, h5⟩; have H5 := Lib.hid (HFIN.out w5 h5); clear h5)
          go_ret
          exact ⟨rfl, H5.out⟩
  · have HCA := Lib.hid (cutA_at2 (b := b) (o := o) (c := c) (by omega))
    go_enter Try.func108, Try.ntmps108
    go_wp2_with (first
      | (go_at_call 72; refine (opCount_tm t' _).mono ?_; rw [HAR.out]; rintro e w2 ⟨rfl, b2⟩; have B2 := Lib.hid b2; clear b2)
      | (at_make; refine wpList_make_full _ rfl _ _ _ rfl w2.heap.size 2 i0 (.int .i64 0) 1 Try.underlying27 hi hz0 hz1 .i64 .i64 _ _ m rfl rfl rfl rfl (by rw [hz2]; omega) (by unfold maxLen; omega) (Nat.le_refl _) ?_; intro w3 hown3 hg3))
    have HS := Lib.hid (evLoop_start (vals := vals) (ks := x.kids) (t := t') (r := r) HRR.out hRB hB (by omega) (by omega) HLEN1.out (by rw [← HCA.out]; exact HCUT.out) B2.out hg3 hown3)
    have hgw := HS.out.1
    clear hown3 hg3 hi hz0 hz1 hz2 hcR hfR hc1' hc2' B2
    go_loopw [17] (fun i wr => EvLoop w R B0 w2.heap.size m vals x.kids t' r i wr) (fun i _ => m - (intOf i).toNat)
    case atStart => exact HS.out.2
    case round =>
      obtain ⟨k, hk, rfl, hrest, hown, hT, hg⟩ := hrel
      obtain ⟨eN, eC, hbB, hsz⟩ := HBW.out _ hg
      by_cases hlt : k < m
      · obtain ⟨y, hy⟩ : ∃ y, x.kids[k]? = some y := ⟨_, List.getElem?_eq_getElem (by rw [← HM.out]; exact hlt)⟩
        have hcN := cell_of_one (eN.trans HNN.out)
        have hdk : (x.kids.drop k).flatMap Ex.flat ++ r = y.flat ++ ((x.kids.drop (k + 1)).flatMap Ex.flat ++ r) := by rw [drop_one _ _ _ hy, List.flatMap_cons, List.append_assoc]
        rw [hdk] at hrest
        have CK := Lib.hid (HIH.out y (List.mem_of_getElem? hy) _ wr hrest (eN.trans HNN.out) (eC.trans HCC.out) (HV.out.below hbB) (by omega))
        have HNX := Lib.hid (fun (w4 : World) h4 hg4 => evLoop_next (w4 := w4) (r := r) hy HM.out.symm hRlt hgw hB hown hT hg h4 hg4)
        have HOWN := Lib.hid hown
        have hgr : w2.heap.size ≠ R := by omega
        clear hrest hdk hy hown hT hg eN eC
        go_wp2_with (go_at_call 108; refine (CK.out).mono ?_; rintro e w4 ⟨rfl, h4, hg4⟩; obtain ⟨⟨old, hx4⟩, hf4⟩ := own_some (HOWN.out.kept hg4 (.inr (by simp [Value.ownBlock]; omega))) (k := k) (by omega); have HF := Lib.hid (HNX.out w4 h4 hg4); clear h4 hg4)
        go_roundw
        case rel => exact HF.out
        case measure => simp [intOf]; omega
      · obtain rfl : k = m := by omega
        have hcC := cell_of_one (eC.trans HCC.out)
        obtain ⟨hT1, hT2⟩ := two_cells hT
        have hrest' : RestAt wr R B0 r := by
          have e : (x.kids.drop k).flatMap Ex.flat ++ r = r := by rw [List.drop_eq_nil_of_le (by rw [← HM.out]; exact Nat.le_refl _)]; rfl
          rwa [e] at hrest
        have hRr := hrest'.lt
        have HFIN := Lib.hid (fun (w5 : World) (h5 : Below wr.heap.size wr w5) => (⟨hrest'.keep (h5.block R hRr) (h5.mono (by omega)), grown_trans hg (grown_of_below h5)⟩ : RestAt w5 R B0 r ∧ w.grownBy w5 (some R)))
        have hV' := HV.out.below hbB
        have HOWN := Lib.hid hown
        have hB' : B0 ≤ wr.heap.size := by omega
        clear hrest hrest' hown hT hg eN eC hbB
        cases x with
        | leaf t0 =>
          have et : t0 = t' := by have := HX.out; simp [Ex.flat] at this; exact this.1
          subst et
          have hk0 : k = 0 := HM.out
          subst hk0
          have CA := Lib.hid (applyLeaf_any t0 V nv cv vals (some ⟨w2.heap.size, 0, none⟩) 0 0 wr B0 hV' LV.out mv hB' (tm_leaf HO.out.1 HO.out.2))
          go_wp2_with (go_at_call 95; refine (CA.out).mono ?_; rintro e w5 ⟨rfl, h5⟩; have H5 := Lib.hid (HFIN.out w5 h5); clear h5)
          go_ret
          exact ⟨rfl, H5.out⟩
        | one t0 a =>
          have et : t0 = t' := by have := HX.out; simp [Ex.flat] at this; exact this.1
          subst et
          have hk0 : k = 1 := HM.out
          subst hk0
          have hca := (HOWN.out.cellAt 0 (by omega)).trans (show _ = some (Value.int .i64 (evX vals a)) from rfl)
          have hk3 := tm_one HO.out.2.1
          rw [hk3] at hT1
          have CA := Lib.hid (applyOne_any t0.v V nv cv w2.heap.size 0 1 1 (evX vals a) wr hca (Nat.le_refl _))
          go_wp2_with (go_at_call 95; refine (CA.out).mono ?_; rintro e w5 ⟨rfl, h5⟩; have H5 := Lib.hid (HFIN.out w5 h5); clear h5)
          go_ret
          exact ⟨rfl, H5.out⟩
        | two t0 a b' =>
          have et : t0 = t' := by have := HX.out; simp [Ex.flat] at this; exact this.1
          subst et
          have hk0 : k = 2 := HM.out
          subst hk0
          have hca := (HOWN.out.cellAt 0 (by omega)).trans (show _ = some (Value.int .i64 (evX vals a)) from rfl)
          have hcb := (HOWN.out.cellAt 1 (by omega)).trans (show _ = some (Value.int .i64 (evX vals b')) from rfl)
          have hk3 := (tm_two HO.out.1 HO.out.2.1).1
          rw [hk3] at hT1
          have CA := Lib.hid (applyTwo_any t0.v V nv cv w2.heap.size (evX vals a) (evX vals b') wr hca hcb ⟨(tm_two HO.out.1 HO.out.2.1).2, evX_bd (by rw [LV.out]) HDB.out HO.out.2.2.1, evX_bd (by rw [LV.out]) HDB.out HO.out.2.2.2⟩)
          go_wp2_with (go_at_call 95; refine (CA.out).mono ?_; rintro e w5 ⟨rfl, h5⟩; have H5 := Lib.hid (HFIN.out w5 h5); clear h5)
          go_ret
          exact ⟨rfl, H5.out⟩
end Go.Proofs.Ytfoopgnnhgdfaaa
