/- The program's walk over an expression from the bottom up, for lists of terms: each call takes one operation off the rest and hands back what is computed of its operands' results. -/
import Derived.Test.YtkcbmblpalmmhaaProg
import Derived.WalkKit
import Derived.ProofKit
import Derived.OwnWalk
import Derived.OneCell
import Derived.Outline
import Derived.Lib.Hide
import Derived.Laws.EntriesVeiled
import Derived.Test.YtkcbmblpalmmhaaMem
import Derived.Test.YtkcbmblpalmmhaaTmM
import Derived.Test.YtkcbmblpalmmhaaTmW
import Derived.Test.YtkcbmblpalmmhaaTmI
import Derived.Test.YtkcbmblpalmmhaaExM
import Derived.Test.YtkcbmblpalmmhaaCut
import Derived.Test.YtkcbmblpalmmhaaRet
import Derived.Test.YtkcbmblpalmmhaaBuildT
import Derived.Test.YtkcbmblpalmmhaaEvN
namespace Go.Proofs.Ytkcbmblpalmmhaa
open Go.RowKit
/-- The first k places of an array of m lists of terms hold the lists l; each list lies in a row of its own behind the array. -/
def RowsAt (w : World) (g m k : Nat) (l : List (List Tm)) : Prop :=
  ∃ vs : List Value, w.ownsRow g 24 1 (.slice (some ⟨g, 0, none⟩) m m) m vs ∧
    ∀ (i : Nat) (xs : List Tm), i < k → l[i]? = some xs → ∃ A c, vs[i]? = some (Value.slice A xs.length c) ∧ w.ownsRow (g + 1) 68 2 (.slice A xs.length c) xs.length (tvs xs)
theorem own_kept {w w' : World} {lo j n : Nat} {T : TypeId} {s : Nat} {v : Value} {vs : List Value} (h : w.ownsRow lo T s v n vs) (hg : w.grownBy w' (some j)) (hj : j < lo) : w'.ownsRow lo T s v n vs := by
  refine h.kept hg ?_
  rcases e : v.ownBlock with _ | b
  · exact .inl rfl
  · have := (h.lt b e).1
    exact .inr (by intro e2; injection e2 with e2; omega)
theorem RowsAt.kept {w w' : World} {g m k j : Nat} {l : List (List Tm)} (h : RowsAt w g m k l) (hg : w.grownBy w' (some j)) (hj : j < g) : RowsAt w' g m k l := by
  obtain ⟨vs, h1, h2⟩ := h
  refine ⟨vs, own_kept h1 hg hj, fun i xs hi hx => ?_⟩
  obtain ⟨A, c, h3, h4⟩ := h2 i xs hi hx
  exact ⟨A, c, h3, own_kept h4 hg (by omega)⟩
theorem RowsAt.lt {w : World} {g m k : Nat} {l : List (List Tm)} (h : RowsAt w g m k l) : g < w.heap.size := by
  obtain ⟨vs, h1, _⟩ := h
  exact (h1.lt g rfl).2
theorem RowsAt.put {w : World} {g m k c : Nat} {l : List (List Tm)} {xs : List Tm} {A : Option Addr} (h : RowsAt w g m k l) (hx : l[k]? = some xs) (hk : k < m) (ho : w.ownsRow (g + 1) 68 2 (.slice A xs.length c) xs.length (tvs xs)) :
    RowsAt (w.setCell ⟨g, k, none⟩ (.slice A xs.length c)) g m (k + 1) l := by
  obtain ⟨vs, h1, h2⟩ := h
  obtain ⟨h3, h4⟩ := h1.stored k (.slice A xs.length c)
  have hlen : vs.length = m := by have := h1.1; omega
  refine ⟨_, h3, fun i ys hi hy => ?_⟩
  by_cases e : i = k
  · subst e
    have : ys = xs := by rw [hx] at hy; injection hy with hy; exact hy.symm
    subst this
    exact ⟨A, c, by rw [List.getElem?_set_self (by omega)], own_kept ho h4 (by omega)⟩
  · obtain ⟨A', c', h5, h6⟩ := h2 i ys (by omega) hy
    exact ⟨A', c', by rw [List.getElem?_set_ne (by omega)]; exact h5, own_kept h6 h4 (by omega)⟩
theorem RowsAt.row {w : World} {g m : Nat} {l : List (List Tm)} (h : RowsAt w g m m l) (hl : l.length = m) : TTRow w w.heap.size (some ⟨g, 0, none⟩) l := by
  obtain ⟨vs, h1, h2⟩ := h
  have hlen : vs.length = m := by have := h1.1; omega
  refine ⟨vs, Row.of_own h1, by omega, fun i xs hi => ?_⟩
  have hi' := (List.getElem?_eq_some_iff.1 hi).1
  obtain ⟨A, c, h3, h4⟩ := h2 i xs (by omega) hi
  exact ⟨A, c, h3, Row.of_own2 h4⟩
/-- A list of terms of the call's own. -/
def RetF (w : World) (xs : List Tm) (e : Ending) (w' : World) : Prop :=
  ∃ A c, e = .returned (.slice A xs.length c) ∧ w'.ownsRow w.heap.size 68 2 (.slice A xs.length c) xs.length (tvs xs)
theorem RetF.of {w : World} {xs : List Tm} {e : Ending} {w' : World} (h : RetT1 w xs e w') : RetF w xs e w' ∧ Below w.heap.size w w' := by
  obtain ⟨A, n, c, rfl, ho, hb⟩ := h
  have hn : n = xs.length := by have := ho.1; rw [tvs_length] at this; omega
  subst hn
  exact ⟨⟨A, c, rfl, ho⟩, hb⟩
/-- What the function does that computes an operation's result from those of its operands. -/
def CompOK (fc : FuncId) (F : Ex → List Tm) : Prop :=
  ∀ (x : Ex) (t : Tm) (rr : List Tm) (g m : Nat) (w : World), x.ok 29 → x.flat.length ≤ 60 → x.flat = t :: rr → x.kids.length = m → RowsAt w g m m (x.kids.map F) →
    Calls Try.prog fc #[.agg #[.int .i64 t.k, .int .i64 t.v], .slice (some ⟨g, 0, none⟩) m m] w fun e w' => RetF w (F x) e w' ∧ w.grownBy w' (some g)
/-- What the call that stands for an operation of the rest does. -/
def FoOK (R N C B0 : Nat) (fc : FuncId) (F : Ex → List Tm) (y : Ex) : Prop :=
  ∀ (r : List Tm) (w : World), RestAt w R B0 (y.flat ++ r) →
    w.heap[N]? = some (.cells #[.func (.func 88) #[] #[ptr R, ptr N, ptr C]] 106 (0, 0)) →
    w.heap[C]? = some (.cells #[.func (.func fc) #[] #[]] 91 (0, 0)) →
    B0 ≤ w.heap.size →
    Calls Try.prog 88 #[ptr R, ptr N, ptr C] w fun e w' => RetF w (F y) e w' ∧ RestAt w' R B0 r ∧ w.grownBy w' (some R)
theorem info_rows : (Try.prog.info? 24).map (fun i => (i.zero, i.size, i.bytes)) = some (some (.slice none 0 0), 1, 24) := by kernel_rfl
/-- Where the loop over an operation's operands stands. -/
def FoLoop (w : World) (R B0 g m : Nat) (F : Ex → List Tm) (ks : List Ex) (t : Tm) (r : List Tm) (iv : Value) (wr : World) : Prop :=
  ∃ k : Nat, k ≤ m ∧ iv = .int .i64 k ∧ RestAt wr R B0 ((ks.drop k).flatMap Ex.flat ++ r) ∧ RowsAt wr g m k (ks.map F) ∧
    wr.heap[w.heap.size]? = some (.cells #[.int .i64 t.k, .int .i64 t.v] 68 (0, 0)) ∧ w.grownBy wr (some R)
theorem foLoop_start {w w2 w3 : World} {R B0 m n1 c1 : Nat} {F : Ex → List Tm} {ks : List Ex} {t : Tm} {r : List Tm} {A A1 : Option Addr} {n c : Nat} {vs : List Value} (hR : w.heap[R]? = some (.cells #[.slice A n c] 24 (0, 0))) (hRB : B0 ≤ R) (hB : B0 ≤ w.heap.size)
    (hc : n1 ≤ c1) (hn : n1 ≤ 60) (hl : (ks.flatMap Ex.flat ++ r).length = n1) (hcut : TRow w B0 A1 (ks.flatMap Ex.flat ++ r))
    (h2 : Below ((w.setCell ⟨R, 0, none⟩ (.slice A1 n1 c1)).alloc (.cells #[.int .i64 t.k, .int .i64 t.v] 68)).heap.size ((w.setCell ⟨R, 0, none⟩ (.slice A1 n1 c1)).alloc (.cells #[.int .i64 t.k, .int .i64 t.v] 68)) w2)
    (h3 : w2.grownBy w3 none) (ho : w3.ownsRow w2.heap.size 24 1 (.slice (some ⟨w2.heap.size, 0, none⟩) m m) m vs) : w.heap.size < w2.heap.size ∧ FoLoop w R B0 w2.heap.size m F ks t r (.int .i64 0) w3 := by
  have hRlt := lt_of_block hR
  have e0 : (w.setCell ⟨R, 0, none⟩ (.slice A1 n1 c1)).heap.size = w.heap.size := by simp [World.setCell]
  have e1 : ((w.setCell ⟨R, 0, none⟩ (.slice A1 n1 c1)).alloc (.cells #[.int .i64 t.k, .int .i64 t.v] 68)).heap.size = w.heap.size + 1 := by simp
  have hs2 := h2.size
  rw [e1] at hs2
  have g1 : w.grownBy ((w.setCell ⟨R, 0, none⟩ (.slice A1 n1 c1)).alloc (.cells #[.int .i64 t.k, .int .i64 t.v] 68)) (some R) := grown_alloc (grown_setR (World.grownBy.refl _ _) _) _
  have g3 : w.grownBy w3 (some R) := grown_trans (grown_trans g1 (grown_of_below h2)) (grown_none h3)
  have hR3 : w3.heap[R]? = some (.cells #[.slice A1 n1 c1] 24 (0, 0)) := by
    rw [h3.block R (by omega) (by simp), h2.block R (by omega), Below.heap_alloc _ _ R (by omega)]
    exact one_setCell hR
  have hT3 : w3.heap[w.heap.size]? = some (.cells #[.int .i64 t.k, .int .i64 t.v] 68 (0, 0)) := by
    rw [h3.block w.heap.size (by omega) (by simp), h2.block w.heap.size (by omega)]
    have := heap_alloc_new (w.setCell ⟨R, 0, none⟩ (.slice A1 n1 c1)) (.cells #[.int .i64 t.k, .int .i64 t.v] 68)
    rwa [e0] at this
  exact ⟨by omega, 0, Nat.zero_le _, rfl, ⟨A1, n1, c1, hR3, hc, hn, by simpa using hl, by simpa using hcut.below (below_of_grown g3 hRB hB)⟩, ⟨vs, ho, fun i _ hi => by omega⟩, hT3, g3⟩
theorem foLoop_next {w wr w4 : World} {R B0 g m k c : Nat} {F : Ex → List Tm} {ks : List Ex} {t : Tm} {r : List Tm} {y : Ex} {A : Option Addr} (hy : ks[k]? = some y) (hm : ks.length = m) (hRw : R < w.heap.size) (hgw : w.heap.size < g) (hB : B0 ≤ w.heap.size)
    (ho : RowsAt wr g m k (ks.map F))
    (hT : wr.heap[w.heap.size]? = some (.cells #[.int .i64 t.k, .int .i64 t.v] 68 (0, 0))) (hg : w.grownBy wr (some R))
    (h5 : w4.ownsRow wr.heap.size 68 2 (.slice A (F y).length c) (F y).length (tvs (F y))) (h4 : RestAt w4 R B0 ((ks.drop (k + 1)).flatMap Ex.flat ++ r)) (hg4 : wr.grownBy w4 (some R)) :
    FoLoop w R B0 g m F ks t r (.int .i64 ((k + 1 : Nat) : Int)) (w4.setCell ⟨g, k, none⟩ (.slice A (F y).length c)) := by
  have hk := (List.getElem?_eq_some_iff.1 hy).1
  have hgl := ho.lt
  have ho4 : RowsAt w4 g m k (ks.map F) := ho.kept hg4 (by omega)
  have hTlt := lt_of_block hT
  have hT4 := (hg4.block w.heap.size hTlt (by intro e; injection e with e; omega)).trans hT
  refine ⟨k + 1, by omega, rfl, h4.keep (Below.heap_setCell _ _ _ _ (by show R ≠ g; omega)) ((Below.refl _ _).setCell (by show B0 ≤ g; omega) _), ?_, (Below.heap_setCell _ _ _ _ (by show w.heap.size ≠ g; omega)).trans hT4, grown_set (grown_trans hg hg4) (by omega) _⟩
  exact ho4.put (by rw [List.getElem?_map, hy]; rfl) (by omega) (own_lower h5 (by omega))
/-- What lies ahead of a block that is written alone is as it was. -/
theorem grown_past {w w1 w2 : World} {R g : Nat} (h : w.grownBy w1 (some R)) (h2 : w1.grownBy w2 (some g)) (hg : w.heap.size ≤ g) : w.grownBy w2 (some R) :=
  ⟨h2.os.trans h.os, h2.tape.trans h.tape, h2.output.trans h.output, Nat.le_trans h.size h2.size, fun k hk hne => (h2.block k (Nat.lt_of_lt_of_le hk h.size) (by intro e; injection e with e; omega)).trans (h.block k hk hne)⟩
theorem foEnd {w wr w5 : World} {R B0 g : Nat} {r : List Tm} {xs : List Tm} {e : Ending} (hg : w.grownBy wr (some R)) (hrest : RestAt wr R B0 r) (hgw : w.heap.size < g) (hRg : R < g) (hB : B0 ≤ w.heap.size) (h1 : RetF wr xs e w5) (h5 : wr.grownBy w5 (some g)) : RetF w xs e w5 ∧ RestAt w5 R B0 r ∧ w.grownBy w5 (some R) := by
  have hs := hg.size
  obtain ⟨A, c, he, ho⟩ := h1
  refine ⟨⟨A, c, he, own_lower ho hs⟩, hrest.keep (h5.block R hrest.lt (by intro e; injection e with e; omega)) (below_of_grown h5 (by omega) (by omega)), grown_past hg h5 (by omega)⟩
set_option maxRecDepth 100000 in
set_option maxHeartbeats 8000000 in
theorem foStep (R N C B0 : Nat) (fc : FuncId) (F : Ex → List Tm) (hcomp : CompOK fc F) (hent : ∀ (args : Array Value) (w : World), (callFunc fc args).run Try.prog w = .ok (.enter fc args) w) (hRB : B0 ≤ R) (hNR : N ≠ R) (hCR : C ≠ R) (x : Ex) (ho : x.ok 29) (h60 : x.flat.length ≤ 60) (ih : ∀ y ∈ x.kids, FoOK R N C B0 fc F y) : FoOK R N C B0 fc F x := by
  intro r w hrest hN hC hB
  have hRlt := hrest.lt
  have hNlt := lt_of_block hN
  have hClt := lt_of_block hC
  obtain ⟨A, n, c, hR, hnc, hn60, hlen, hrow⟩ := hrest
  obtain ⟨t, rr, hx, har⟩ := Ex.kids_len ho
  have hn1 : 1 ≤ n := by rw [← hlen, hx]; simp
  obtain ⟨b, o, t', rfl, hb, hc1, hc2, ht⟩ := hrow.at_ (k := 0) (by omega)
  have et : t' = t := by
    have h1 := ht.out
    rw [hx] at h1
    simpa using h1.symm
  subst et
  have hc1' : w.cell? ⟨b, o, none⟩ = some (.int .i64 t'.k) := by simpa using hc1
  have hc2' : w.cell? ⟨b, o + 1, none⟩ = some (.int .i64 t'.v) := by simpa using hc2
  have hcR := cell_of_one hR
  have hfR := free_of_one hR
  have hrr : rr ++ r = x.kids.flatMap Ex.flat ++ r := by rw [Ex.kids_flat, hx]; rfl
  have hcut := hrow.cut (c := c) (by omega) 1
  rw [hx] at hcut
  replace hcut : TRow w B0 (cutA (some ⟨b, o, none⟩) c 1) (x.kids.flatMap Ex.flat ++ r) := by rw [← hrr]; exact hcut
  have hlen1 : (x.kids.flatMap Ex.flat ++ r).length = n - 1 := by
    rw [← hrr]
    rw [hx] at hlen
    simp at hlen ⊢
    omega
  obtain ⟨m, hm⟩ : ∃ m, m = x.kids.length := ⟨_, rfl⟩
  have hm2 : m ≤ 2 := by rw [hm]; cases x <;> simp [Ex.kids]
  have HM := Lib.hid hm
  have HAR := Lib.hid (show ar t' = ((m : Nat) : Int) by rw [hm]; exact har)
  have HBW0 : ∀ w' : World, w.grownBy w' (some R) → w'.heap[N]? = w.heap[N]? ∧ w'.heap[C]? = w.heap[C]? ∧ Below B0 w w' ∧ w.heap.size ≤ w'.heap.size := fun w' hg =>
    ⟨hg.block N hNlt (by intro e; injection e with e; exact hNR e), hg.block C hClt (by intro e; injection e with e; exact hCR e), below_of_grown hg hRB hB, hg.size⟩
  have HBW := Lib.hid HBW0
  clear HBW0
  have HX := Lib.hid hx
  have HCUT := Lib.hid hcut
  have HLEN1 := Lib.hid hlen1
  have HNN := Lib.hid hN
  have HCC := Lib.hid hC
  have HRR := Lib.hid hR
  have HCO := Lib.hid (fun (g : Nat) (w' : World) (hr : RowsAt w' g m m (x.kids.map F)) => hcomp x t' rr g m w' ho h60 hx hm.symm hr)
  have HIH := Lib.hid ih
  obtain ⟨i0, hi, hz0, hz1, hz2⟩ := info_parts info_rows
  have hbw : b < w.heap.size := by omega
  clear hx hcut hlen1 hN hC hR ho h60 ih hm har hc1 hc2 ht hrow hrr hlen hcomp
  have hc1x : c = 1 ∨ 1 < c := by omega
  rcases hc1x with hcc | hcc
  · have HCA := Lib.hid (show cutA (some ⟨b, o, none⟩) c 1 = some ⟨b, o, none⟩ by unfold cutA; rw [if_pos hcc])
    subst hcc
    obtain rfl : n = 1 := by omega
    go_enter Try.func88, Try.ntmps88
    go_wp2_with (first
      | (go_at_call 67; refine (opCount_tm t' _).mono ?_; rw [HAR.out]; rintro e w2 ⟨rfl, b2⟩; have B2 := Lib.hid b2; clear b2)
      | (at_make; refine wpList_make_full _ rfl _ _ _ rfl w2.heap.size 24 i0 (.slice none 0 0) 1 Try.underlying98 hi hz0 hz1 .i64 .i64 _ _ m rfl rfl rfl rfl (by rw [hz2]; omega) (by unfold maxLen; omega) (Nat.le_refl _) ?_; intro w3 hown3 hg3))
    have HS := Lib.hid (foLoop_start (F := F) (ks := x.kids) (t := t') (r := r) HRR.out hRB hB (Nat.le_refl 0) (by omega) HLEN1.out (by rw [← HCA.out]; exact HCUT.out) B2.out hg3 hown3)
    have hgw := HS.out.1
    clear hown3 hg3 hi hz0 hz1 hz2 hcR hfR hc1' hc2' B2
    go_loopw [17] (fun i wr => FoLoop w R B0 w2.heap.size m F x.kids t' r i wr) (fun i _ => m - (intOf i).toNat)
    case atStart => exact HS.out.2
    case round =>
      obtain ⟨k, hk, rfl, hrest, hown, hT, hg⟩ := hrel
      obtain ⟨eN, eC, hbB, hsz⟩ := HBW.out _ hg
      by_cases hlt : k < m
      · obtain ⟨y, hy⟩ : ∃ y, x.kids[k]? = some y := ⟨_, List.getElem?_eq_getElem (by rw [← HM.out]; exact hlt)⟩
        have hcN := cell_of_one (eN.trans HNN.out)
        have hdk : (x.kids.drop k).flatMap Ex.flat ++ r = y.flat ++ ((x.kids.drop (k + 1)).flatMap Ex.flat ++ r) := by rw [drop_one _ _ _ hy, List.flatMap_cons, List.append_assoc]
        rw [hdk] at hrest
        have CK := Lib.hid (HIH.out y (List.mem_of_getElem? hy) _ wr hrest (eN.trans HNN.out) (eC.trans HCC.out) (by omega))
        have HNX := Lib.hid (fun (w4 : World) (A : Option Addr) (c : Nat) h5 h4 hg4 => foLoop_next (w4 := w4) (A := A) (c := c) (r := r) hy HM.out.symm hRlt hgw hB hown hT hg h5 h4 hg4)
        have HOWN := Lib.hid hown
        have hgr : w2.heap.size ≠ R := by omega
        have HRG := Lib.hid (show R < w2.heap.size by omega)
        clear hrest hdk hy hown hT hg eN eC
        go_wp2_with (go_at_call 88; refine (CK.out).mono ?_; rintro e w4 ⟨⟨A4, c4, rfl, h5⟩, h4, hg4⟩; obtain ⟨vs4, hv4, _⟩ := HOWN.out.kept hg4 HRG.out; obtain ⟨⟨old, hx4⟩, hf4⟩ := own_some hv4 (k := k) (by omega); have HF := Lib.hid (HNX.out w4 A4 c4 h5 h4 hg4); clear h5 h4 hg4 hv4)
        go_roundw
        case rel => exact HF.out
        case measure => simp [intOf]; omega
      · obtain rfl : k = m := by omega
        have hcC := cell_of_one (eC.trans HCC.out)
        obtain ⟨hT1, hT2⟩ := two_cells hT
        have hrest' : RestAt wr R B0 r := by
          have e : (x.kids.drop k).flatMap Ex.flat ++ r = r := by rw [List.drop_eq_nil_of_le (by rw [← HM.out]; exact Nat.le_refl _)]; rfl
          rwa [e] at hrest
        have HFIN := Lib.hid (fun (w5 : World) (e : Ending) (h1 : RetF wr (F x) e w5) (h5 : wr.grownBy w5 (some w2.heap.size)) => foEnd hg hrest' hgw (by omega) hB h1 h5)
        have CA := Lib.hid (HCO.out w2.heap.size wr hown)
        clear hrest hrest' hown hT hg eN eC hbB HCO HIH
        go_wp2_with fail
        refine (CA.out).mono ?_
        rintro e w5 ⟨h1, h5⟩
        have H5 := Lib.hid (HFIN.out w5 e h1 h5)
        obtain ⟨A5, c5, rfl, ho5⟩ := h1
        clear h5 ho5
        go_wp2
        go_ret
        exact H5.out
  · have HCA := Lib.hid (cutA_at2 (b := b) (o := o) (c := c) (by omega))
    go_enter Try.func88, Try.ntmps88
    go_wp2_with (first
      | (go_at_call 67; refine (opCount_tm t' _).mono ?_; rw [HAR.out]; rintro e w2 ⟨rfl, b2⟩; have B2 := Lib.hid b2; clear b2)
      | (at_make; refine wpList_make_full _ rfl _ _ _ rfl w2.heap.size 24 i0 (.slice none 0 0) 1 Try.underlying98 hi hz0 hz1 .i64 .i64 _ _ m rfl rfl rfl rfl (by rw [hz2]; omega) (by unfold maxLen; omega) (Nat.le_refl _) ?_; intro w3 hown3 hg3))
    have HS := Lib.hid (foLoop_start (F := F) (ks := x.kids) (t := t') (r := r) HRR.out hRB hB (by omega) (by omega) HLEN1.out (by rw [← HCA.out]; exact HCUT.out) B2.out hg3 hown3)
    have hgw := HS.out.1
    clear hown3 hg3 hi hz0 hz1 hz2 hcR hfR hc1' hc2' B2
    go_loopw [17] (fun i wr => FoLoop w R B0 w2.heap.size m F x.kids t' r i wr) (fun i _ => m - (intOf i).toNat)
    case atStart => exact HS.out.2
    case round =>
      obtain ⟨k, hk, rfl, hrest, hown, hT, hg⟩ := hrel
      obtain ⟨eN, eC, hbB, hsz⟩ := HBW.out _ hg
      by_cases hlt : k < m
      · obtain ⟨y, hy⟩ : ∃ y, x.kids[k]? = some y := ⟨_, List.getElem?_eq_getElem (by rw [← HM.out]; exact hlt)⟩
        have hcN := cell_of_one (eN.trans HNN.out)
        have hdk : (x.kids.drop k).flatMap Ex.flat ++ r = y.flat ++ ((x.kids.drop (k + 1)).flatMap Ex.flat ++ r) := by rw [drop_one _ _ _ hy, List.flatMap_cons, List.append_assoc]
        rw [hdk] at hrest
        have CK := Lib.hid (HIH.out y (List.mem_of_getElem? hy) _ wr hrest (eN.trans HNN.out) (eC.trans HCC.out) (by omega))
        have HNX := Lib.hid (fun (w4 : World) (A : Option Addr) (c : Nat) h5 h4 hg4 => foLoop_next (w4 := w4) (A := A) (c := c) (r := r) hy HM.out.symm hRlt hgw hB hown hT hg h5 h4 hg4)
        have HOWN := Lib.hid hown
        have hgr : w2.heap.size ≠ R := by omega
        have HRG := Lib.hid (show R < w2.heap.size by omega)
        clear hrest hdk hy hown hT hg eN eC
        go_wp2_with (go_at_call 88; refine (CK.out).mono ?_; rintro e w4 ⟨⟨A4, c4, rfl, h5⟩, h4, hg4⟩; obtain ⟨vs4, hv4, _⟩ := HOWN.out.kept hg4 HRG.out; obtain ⟨⟨old, hx4⟩, hf4⟩ := own_some hv4 (k := k) (by omega); have HF := Lib.hid (HNX.out w4 A4 c4 h5 h4 hg4); clear h5 h4 hg4 hv4)
        go_roundw
        case rel => exact HF.out
        case measure => simp [intOf]; omega
      · obtain rfl : k = m := by omega
        have hcC := cell_of_one (eC.trans HCC.out)
        obtain ⟨hT1, hT2⟩ := two_cells hT
        have hrest' : RestAt wr R B0 r := by
          have e : (x.kids.drop k).flatMap Ex.flat ++ r = r := by rw [List.drop_eq_nil_of_le (by rw [← HM.out]; exact Nat.le_refl _)]; rfl
          rwa [e] at hrest
        have HFIN := Lib.hid (fun (w5 : World) (e : Ending) (h1 : RetF wr (F x) e w5) (h5 : wr.grownBy w5 (some w2.heap.size)) => foEnd hg hrest' hgw (by omega) hB h1 h5)
        have CA := Lib.hid (HCO.out w2.heap.size wr hown)
        clear hrest hrest' hown hT hg eN eC hbB HCO HIH
        go_wp2_with fail
        refine (CA.out).mono ?_
        rintro e w5 ⟨h1, h5⟩
        have H5 := Lib.hid (HFIN.out w5 e h1 h5)
        obtain ⟨A5, c5, rfl, ho5⟩ := h1
        clear h5 ho5
        go_wp2
        go_ret
        exact H5.out
theorem fo_all (R N C B0 : Nat) (fc : FuncId) (F : Ex → List Tm) (hcomp : CompOK fc F) (hent : ∀ (args : Array Value) (w : World), (callFunc fc args).run Try.prog w = .ok (.enter fc args) w) (hRB : B0 ≤ R) (hNR : N ≠ R) (hCR : C ≠ R) : ∀ (x : Ex), x.ok 29 → x.flat.length ≤ 60 → FoOK R N C B0 fc F x := by
  intro x
  induction x with
  | leaf t => exact fun ho hl => foStep R N C B0 fc F hcomp hent hRB hNR hCR _ ho hl (fun y hy => by simp [Ex.kids] at hy)
  | one t a iha => exact fun ho hl => foStep R N C B0 fc F hcomp hent hRB hNR hCR _ ho hl (fun y hy => by simp [Ex.kids] at hy; subst hy; exact iha ho.2.2 (by simp [Ex.flat] at hl; omega))
  | two t a b iha ihb =>
    exact fun ho hl => foStep R N C B0 fc F hcomp hent hRB hNR hCR _ ho hl (fun y hy => by
      simp [Ex.flat] at hl
      simp [Ex.kids] at hy
      rcases hy with rfl | rfl
      · exact iha ho.2.2.1 (by omega)
      · exact ihb ho.2.2.2 (by omega))
end Go.Proofs.Ytkcbmblpalmmhaa
