/- The program's walk over an expression from the bottom up, where nothing is computed: each term is laid behind those of its operands. -/
import Derived.Test.YtfoopgnnhgdfaaaProg
import Derived.WalkKit
import Derived.ProofKit
import Derived.OwnWalk
import Derived.OneCell
import Derived.Outline
import Derived.Lib.Hide
import Derived.Laws.EntriesVeiled
import Derived.Test.YtfoopgnnhgdfaaaMem
import Derived.Test.YtfoopgnnhgdfaaaTmM
import Derived.Test.YtfoopgnnhgdfaaaTmW
import Derived.Test.YtfoopgnnhgdfaaaTmI
import Derived.Test.YtfoopgnnhgdfaaaExM
import Derived.Test.YtfoopgnnhgdfaaaCut
import Derived.Test.YtfoopgnnhgdfaaaStkM
import Derived.Test.YtfoopgnnhgdfaaaEvN
import Derived.Test.YtfoopgnnhgdfaaaEvI
import Derived.Test.YtfoopgnnhgdfaaaPoA
namespace Go.Proofs.Ytfoopgnnhgdfaaa
open Go.RowKit
abbrev Three (R P G : Nat) : Nat → Prop := fun k => k = R ∨ k = P ∨ k = G
/-- What the call that stands for an operation of the rest does. -/
def PoOK (R N C B0 P G cap : Nat) (y : Ex) : Prop :=
  ∀ (r acc : List Tm) (w : World), RestAt w R B0 (y.flat ++ r) →
    w.heap[N]? = some (.cells #[.func (.func 115) #[] #[ptr R, ptr N, ptr C]] 118 (0, 0)) →
    w.heap[C]? = some (.cells #[.func (.func 106) #[] #[ptr P]] 112 (0, 0)) →
    PostAt w P G cap acc → acc.length + y.flat.length ≤ cap → B0 ≤ w.heap.size →
    Calls Try.prog 115 #[ptr R, ptr N, ptr C] w fun e w' => e = .returned (.agg #[]) ∧ RestAt w' R B0 r ∧ PostAt w' P G cap (acc ++ postX y) ∧ Fr w w' (Three R P G)
/-- Where the loop over an operation's operands stands. -/
def PoLoop (w : World) (R B0 P G cap m : Nat) (ks : List Ex) (t : Tm) (r acc : List Tm) (iv : Value) (wr : World) : Prop :=
  ∃ k : Nat, k ≤ m ∧ iv = .int .i64 k ∧ RestAt wr R B0 ((ks.drop k).flatMap Ex.flat ++ r) ∧ PostAt wr P G cap (acc ++ (ks.take k).flatMap postX) ∧
    wr.heap[w.heap.size]? = some (.cells #[] 109 (0, 0)) ∧ wr.heap[w.heap.size + 1]? = some (.cells #[.int .i64 t.k, .int .i64 t.v] 77 (0, 0)) ∧ Fr w wr (Three R P G)
theorem poLoop_start {w w2 w3 : World} {R B0 P G cap m n1 c1 : Nat} {ks : List Ex} {t : Tm} {r acc : List Tm} {A A1 : Option Addr} {n c : Nat} (hR : w.heap[R]? = some (.cells #[.slice A n c] 24 (0, 0))) (hP : PostAt w P G cap acc) (hRP : R ≠ P) (hRG : R ≠ G) (h0 : B0 ≤ R ∧ B0 ≤ P ∧ B0 ≤ G) (hB : B0 ≤ w.heap.size)
    (hc : n1 ≤ c1) (hn : n1 ≤ 60) (hl : (ks.flatMap Ex.flat ++ r).length = n1) (hcut : TRow w B0 A1 (ks.flatMap Ex.flat ++ r))
    (h2 : Below (((w.setCell ⟨R, 0, none⟩ (.slice A1 n1 c1)).alloc (.cells #[] 109)).alloc (.cells #[.int .i64 t.k, .int .i64 t.v] 77)).heap.size (((w.setCell ⟨R, 0, none⟩ (.slice A1 n1 c1)).alloc (.cells #[] 109)).alloc (.cells #[.int .i64 t.k, .int .i64 t.v] 77)) w2)
    (h3 : w2.grownBy w3 none) : PoLoop w R B0 P G cap m ks t r acc (.int .i64 0) w3 := by
  have hRlt := lt_of_block hR
  have hPlt := lt_of_block hP.1
  have hGlt : G < w.heap.size := (hP.2.lt G rfl).2
  have F1 : Fr w (((w.setCell ⟨R, 0, none⟩ (.slice A1 n1 c1)).alloc (.cells #[] 109)).alloc (.cells #[.int .i64 t.k, .int .i64 t.v] 77)) (fun k => k = R) := (((Fr.refl w (fun k => k = R)).set ⟨R, 0, none⟩ (.slice A1 n1 c1) (.inl rfl)).alloc _).alloc _
  have F2 := F1.trans (S' := fun _ => False) (Fr.of_below h2) (fun k _ e => e.elim)
  have F3 := F2.grown h3 (fun g e => by cases e)
  have e1 : (((w.setCell ⟨R, 0, none⟩ (.slice A1 n1 c1)).alloc (.cells #[] 109)).alloc (.cells #[.int .i64 t.k, .int .i64 t.v] 77)).heap.size = w.heap.size + 2 := by simp [World.setCell]
  have hs2 := h2.size
  rw [e1] at hs2 h2
  have keep : ∀ (i : Nat) (o : Obj), i < w.heap.size + 2 → (((w.setCell ⟨R, 0, none⟩ (.slice A1 n1 c1)).alloc (.cells #[] 109)).alloc (.cells #[.int .i64 t.k, .int .i64 t.v] 77)).heap[i]? = some o → w3.heap[i]? = some o := fun i o hi ho =>
    (h3.block i (by omega) (by simp)).trans ((h2.block i hi).trans ho)
  have e0 : (w.setCell ⟨R, 0, none⟩ (.slice A1 n1 c1)).heap.size = w.heap.size := by simp [World.setCell]
  have b1 : (((w.setCell ⟨R, 0, none⟩ (.slice A1 n1 c1)).alloc (.cells #[] 109)).alloc (.cells #[.int .i64 t.k, .int .i64 t.v] 77)).heap[w.heap.size]? = some (.cells #[] 109 (0, 0)) := by
    rw [Below.heap_alloc _ _ _ (by simp [World.setCell]), ← e0]; exact heap_alloc_new _ _
  have b2 : (((w.setCell ⟨R, 0, none⟩ (.slice A1 n1 c1)).alloc (.cells #[] 109)).alloc (.cells #[.int .i64 t.k, .int .i64 t.v] 77)).heap[w.heap.size + 1]? = some (.cells #[.int .i64 t.k, .int .i64 t.v] 77 (0, 0)) := by
    rw [← e0]; exact heap_alloc2_new _ _ _
  have b3 : (((w.setCell ⟨R, 0, none⟩ (.slice A1 n1 c1)).alloc (.cells #[] 109)).alloc (.cells #[.int .i64 t.k, .int .i64 t.v] 77)).heap[R]? = some (.cells #[.slice A1 n1 c1] 24 (0, 0)) := by
    rw [Below.heap_alloc _ _ _ (by simp [World.setCell]; omega), Below.heap_alloc _ _ _ (by rw [e0]; exact hRlt)]; exact one_setCell hR
  refine ⟨0, Nat.zero_le _, rfl, ⟨A1, n1, c1, keep R _ (by omega) b3, hc, hn, by simpa using hl, by simpa using hcut.below (F3.below hB (fun k hk e => by have : k = R := e; omega))⟩, ?_, ?_, ?_, ?_⟩
  · simpa using hP.keep F3 (fun e => hRP e.symm) (fun e => hRG e.symm)
  · exact keep _ _ (by omega) b1
  · exact keep _ _ (by omega) b2
  · exact (Fr.refl w _).trans F3 (fun k _ e => .inl e)
theorem poLoop_next {w wr w4 : World} {R B0 P G cap m k : Nat} {ks : List Ex} {t : Tm} {r acc : List Tm} {y : Ex} (hy : ks[k]? = some y) (hm : ks.length = m) (hlt : R < w.heap.size ∧ P < w.heap.size ∧ G < w.heap.size)
    (hU : wr.heap[w.heap.size]? = some (.cells #[] 109 (0, 0))) (hT : wr.heap[w.heap.size + 1]? = some (.cells #[.int .i64 t.k, .int .i64 t.v] 77 (0, 0))) (hf : Fr w wr (Three R P G))
    (h4 : RestAt w4 R B0 ((ks.drop (k + 1)).flatMap Ex.flat ++ r)) (hp4 : PostAt w4 P G cap ((acc ++ (ks.take k).flatMap postX) ++ postX y)) (hf4 : Fr wr w4 (Three R P G)) :
    PoLoop w R B0 P G cap m ks t r acc (.int .i64 ((k + 1 : Nat) : Int)) w4 := by
  have hk := (List.getElem?_eq_some_iff.1 hy).1
  have n1 : ¬ Three R P G w.heap.size := by rintro (e | e | e) <;> omega
  have n2 : ¬ Three R P G (w.heap.size + 1) := by rintro (e | e | e) <;> omega
  refine ⟨k + 1, by omega, rfl, h4, ?_, (hf4.block _ (lt_of_block hU) n1).trans hU, (hf4.block _ (lt_of_block hT) n2).trans hT, hf.trans hf4 (fun _ _ e => e)⟩
  rw [take_one _ _ _ hy, List.flatMap_append]
  simpa using hp4
theorem poEnd {w wr w5 : World} {R B0 P G cap : Nat} {r acc : List Tm} {x : Ex} {t : Tm} (h0 : B0 ≤ R ∧ B0 ≤ P ∧ B0 ≤ G) (hlt : R < w.heap.size ∧ P < w.heap.size ∧ G < w.heap.size) (hne : R ≠ P ∧ R ≠ G ∧ P ≠ G) (hf : Fr w wr (Three R P G)) (hrest : RestAt wr R B0 r) (hx : postX x = x.kids.flatMap postX ++ [t])
    (hU : wr.heap[w.heap.size]? = some (.cells #[] 109 (0, 0))) (h1 : PostAt w5 P G cap ((acc ++ x.kids.flatMap postX) ++ [t])) (h5 : Fr wr w5 (fun k => k = P ∨ k = G)) :
    w5.heap[w.heap.size]? = some (.cells #[] 109 (0, 0)) ∧ RestAt w5 R B0 r ∧ PostAt w5 P G cap (acc ++ postX x) ∧ Fr w w5 (Three R P G) := by
  have hs := hf.size
  refine ⟨(h5.block _ (lt_of_block hU) (by rintro (e | e) <;> omega)).trans hU, hrest.keep (h5.block R hrest.lt (by rintro (e | e); exact hne.1 e; exact hne.2.1 e)) (h5.below (by omega) (fun k hk => by rintro (e | e) <;> omega)), by rw [hx, ← List.append_assoc]; exact h1, hf.trans h5 (fun k _ e => .inr e)⟩
theorem posts_len : ∀ l : List Ex, (l.flatMap postX).length = (l.flatMap Ex.flat).length := by
  intro l
  induction l with
  | nil => rfl
  | cons x l ih => rw [List.flatMap_cons, List.flatMap_cons, List.length_append, List.length_append, postX_len, ih]
set_option maxRecDepth 100000 in
set_option maxHeartbeats 8000000 in
theorem poStep (R N C B0 P G cap : Nat) (h0 : B0 ≤ R ∧ B0 ≤ P ∧ B0 ≤ G) (hne : R ≠ P ∧ R ≠ G ∧ P ≠ G) (hN3 : ¬ Three R P G N) (hC3 : ¬ Three R P G C) (x : Ex) (ho : x.ok 29) (ih : ∀ y ∈ x.kids, PoOK R N C B0 P G cap y) : PoOK R N C B0 P G cap x := by
  intro r acc w hrest hN hC hpost hroom hB
  have hRlt := hrest.lt
  have hNlt := lt_of_block hN
  have hClt := lt_of_block hC
  have hPlt := lt_of_block hpost.1
  have hGlt : G < w.heap.size := (hpost.2.lt G rfl).2
  obtain ⟨A, n, c, hR, hnc, hn60, hlen, hrow⟩ := hrest
  obtain ⟨t, rr, hx, har⟩ := Ex.kids_len ho
  have hn1 : 1 ≤ n := by rw [← hlen, hx]; simp
  obtain ⟨b, o, t', rfl, hb, hc1, hc2, ht⟩ := hrow.at_ (k := 0) (by omega)
  have et : t' = t := by
    have h1 := ht.out
    rw [hx] at h1
    simpa using h1.symm
  subst et
  have hc1' : w.cell? ⟨b, o, none⟩ = some (.int .i64 t'.k) := by simpa using hc1
  have hc2' : w.cell? ⟨b, o + 1, none⟩ = some (.int .i64 t'.v) := by simpa using hc2
  have hcR := cell_of_one hR
  have hfR := free_of_one hR
  have hrr : rr ++ r = x.kids.flatMap Ex.flat ++ r := by rw [Ex.kids_flat, hx]; rfl
  have hcut := hrow.cut (c := c) (by omega) 1
  rw [hx] at hcut
  replace hcut : TRow w B0 (cutA (some ⟨b, o, none⟩) c 1) (x.kids.flatMap Ex.flat ++ r) := by rw [← hrr]; exact hcut
  have hlen1 : (x.kids.flatMap Ex.flat ++ r).length = n - 1 := by
    rw [← hrr]
    rw [hx] at hlen
    simp at hlen ⊢
    omega
  obtain ⟨m, hm⟩ : ∃ m, m = x.kids.length := ⟨_, rfl⟩
  have hm2 : m ≤ 2 := by rw [hm]; cases x <;> simp [Ex.kids]
  have HM := Lib.hid hm
  have HAR := Lib.hid (show ar t' = ((m : Nat) : Int) by rw [hm]; exact har)
  have hfl : x.flat.length = 1 + (x.kids.flatMap Ex.flat).length := by rw [Ex.flat_top x]; simp; omega
  have htop : x.top = t' := by
    have h1 := Ex.flat_top x
    rw [hx] at h1
    injection h1 with h1 _
    exact h1.symm
  have HPX := Lib.hid (show postX x = x.kids.flatMap postX ++ [t'] by rw [postX_kids, htop])
  have HSUM : ∀ k y, x.kids[k]? = some y → (acc ++ (x.kids.take k).flatMap postX).length + y.flat.length ≤ cap := by
    intro k y hy
    have hk := (List.getElem?_eq_some_iff.1 hy).1
    have e : x.kids = x.kids.take k ++ y :: x.kids.drop (k + 1) := by rw [← drop_one _ _ _ hy, List.take_append_drop]
    have h1 := congrArg (fun l : List Ex => (l.flatMap Ex.flat).length) e
    simp only [List.flatMap_append, List.flatMap_cons, List.length_append] at h1
    have h2 := posts_len (x.kids.take k)
    rw [List.length_append]
    omega
  have HSUM := Lib.hid HSUM
  have hroom2 : (acc ++ x.kids.flatMap postX).length + 1 ≤ cap := by rw [List.length_append, posts_len]; omega
  have HBW0 : ∀ w' : World, Fr w w' (Three R P G) → w'.heap[N]? = w.heap[N]? ∧ w'.heap[C]? = w.heap[C]? ∧ w.heap.size ≤ w'.heap.size := fun w' hg =>
    ⟨hg.block N hNlt hN3, hg.block C hClt hC3, hg.size⟩
  have HBW := Lib.hid HBW0
  clear HBW0
  have HX := Lib.hid hx
  have HCUT := Lib.hid hcut
  have HLEN1 := Lib.hid hlen1
  have HNN := Lib.hid hN
  have HCC := Lib.hid hC
  have HRR := Lib.hid hR
  have HPO := Lib.hid hpost
  have HIH := Lib.hid ih
  obtain ⟨i0, hi, hz0, hz1, hz2⟩ := info_parts info_unit
  have hbw : b < w.heap.size := by omega
  have HST := Lib.hid (fun (n1 c1 : Nat) (A1 : Option Addr) (w2 w3 : World) a1 a2 a3 a4 a5 a6 => poLoop_start (m := m) (n1 := n1) (c1 := c1) (A1 := A1) (w2 := w2) (w3 := w3) (ks := x.kids) (t := t') (r := r) hR hpost hne.1 hne.2.1 h0 hB a1 a2 a3 a4 a5 a6)
  have hbR : b ≠ R := by have := h0.1; omega
  have hPG := hne.2.2
  have HRPG := Lib.hid (show R < w.heap.size ∧ P < w.heap.size ∧ G < w.heap.size from ⟨hRlt, hPlt, hGlt⟩)
  have HNE := Lib.hid hne
  have h0' := h0
  clear hx hcut hlen1 hN hC hR ih hm har hc1 hc2 ht hrow hrr hlen hpost hfl htop hroom h0 hne hN3 hC3 ho
  have hc1x : c = 1 ∨ 1 < c := by omega
  rcases hc1x with hcc | hcc
  · have HCA := Lib.hid (show cutA (some ⟨b, o, none⟩) c 1 = some ⟨b, o, none⟩ by unfold cutA; rw [if_pos hcc])
    subst hcc
    obtain rfl : n = 1 := by omega
    go_enter Try.func115, Try.ntmps115
    go_wp2_with (first
      | (go_at_call 72; refine (opCount_tm t' _).mono ?_; rw [HAR.out]; rintro e w2 ⟨rfl, b2⟩; have B2 := Lib.hid b2; clear b2)
      | (at_make; refine wpList_make_full _ rfl _ _ _ rfl w2.heap.size 109 i0 (.agg #[]) 0 Try.underlying111 hi hz0 hz1 .i64 .i64 _ _ m rfl rfl rfl rfl (by rw [hz2]; omega) (by unfold maxLen; omega) (Nat.le_refl _) ?_; intro w3 hown3 hg3))
    have HS := Lib.hid (HST.out _ _ _ _ _ (Nat.le_refl 0) (by omega) HLEN1.out (by rw [← HCA.out]; exact HCUT.out) B2.out hg3)
    clear hown3 hg3 hi hz0 hz1 hz2 hcR hfR hc1' hc2' B2
    go_loopw [17] (fun i wr => PoLoop w R B0 P G cap m x.kids t' r acc i wr) (fun i _ => m - (intOf i).toNat)
    case atStart => exact HS.out
    case round =>
      obtain ⟨k, hk, rfl, hrest, hpo, hU, hT, hf⟩ := hrel
      obtain ⟨eN, eC, hsz⟩ := HBW.out _ hf
      by_cases hlt : k < m
      · obtain ⟨y, hy⟩ : ∃ y, x.kids[k]? = some y := ⟨_, List.getElem?_eq_getElem (by rw [← HM.out]; exact hlt)⟩
        have hcN := cell_of_one (eN.trans HNN.out)
        have hdk : (x.kids.drop k).flatMap Ex.flat ++ r = y.flat ++ ((x.kids.drop (k + 1)).flatMap Ex.flat ++ r) := by rw [drop_one _ _ _ hy, List.flatMap_cons, List.append_assoc]
        rw [hdk] at hrest
        have CK := Lib.hid (HIH.out y (List.mem_of_getElem? hy) _ _ wr hrest (eN.trans HNN.out) (eC.trans HCC.out) hpo (HSUM.out k y hy) (by omega))
        have HNX := Lib.hid (fun (w4 : World) h4 hp4 hf4 => poLoop_next (w4 := w4) (r := r) (acc := acc) (cap := cap) (B0 := B0) hy HM.out.symm HRPG.out hU hT hf h4 hp4 hf4)
        clear hrest hdk hy hpo hU hT hf eN eC
        go_wp2_with (go_at_call 115; refine (CK.out).mono ?_; rintro e w4 ⟨rfl, h4, hp4, hf4⟩; have HF := Lib.hid (HNX.out w4 h4 hp4 hf4); clear h4 hp4 hf4)
        go_roundw
        case rel => exact HF.out
        case measure => simp [intOf] <;> omega
      · obtain rfl : k = m := by omega
        have hcC := cell_of_one (eC.trans HCC.out)
        obtain ⟨hT1, hT2⟩ := two_cells hT
        have htk : x.kids.take k = x.kids := List.take_of_length_le (by rw [← HM.out]; exact Nat.le_refl _)
        rw [htk] at hpo
        have hrest' : RestAt wr R B0 r := by
          have e : (x.kids.drop k).flatMap Ex.flat ++ r = r := by rw [List.drop_eq_nil_of_le (by rw [← HM.out]; exact Nat.le_refl _)]; rfl
          rwa [e] at hrest
        have CA := Lib.hid (clos_any t' (some ⟨w2.heap.size, 0, none⟩) k k P G cap (acc ++ x.kids.flatMap postX) wr hpo hPG hroom2)
        have HFIN := Lib.hid (fun (w5 : World) (h1 : PostAt w5 P G cap ((acc ++ x.kids.flatMap postX) ++ [t'])) (h5 : Fr wr w5 (fun k => k = P ∨ k = G)) => poEnd h0' HRPG.out HNE.out hf hrest' HPX.out hU h1 h5)
        clear hrest hrest' hpo hU hT hf eN eC HIH htk
        go_wp2_with (go_at_call 106; refine (CA.out).mono ?_; rintro e w5 ⟨rfl, h1, h5⟩; have H5 := Lib.hid (HFIN.out w5 h1 h5); clear h1 h5)
        refine bodyPost_ret (results_cell_row rfl _ _ w.heap.size 109 #[] (0, 0) _ rfl H5.out.1 unit_under rfl (by kernel_rfl)) rfl ?_
        exact ⟨rfl, H5.out.2⟩
  · have HCA := Lib.hid (cutA_at2 (b := b) (o := o) (c := c) (by omega))
    go_enter Try.func115, Try.ntmps115
    go_wp2_with (first
      | (go_at_call 72; refine (opCount_tm t' _).mono ?_; rw [HAR.out]; rintro e w2 ⟨rfl, b2⟩; have B2 := Lib.hid b2; clear b2)
      | (at_make; refine wpList_make_full _ rfl _ _ _ rfl w2.heap.size 109 i0 (.agg #[]) 0 Try.underlying111 hi hz0 hz1 .i64 .i64 _ _ m rfl rfl rfl rfl (by rw [hz2]; omega) (by unfold maxLen; omega) (Nat.le_refl _) ?_; intro w3 hown3 hg3))
    have HS := Lib.hid (HST.out _ _ _ _ _ (by omega) (by omega) HLEN1.out (by rw [← HCA.out]; exact HCUT.out) B2.out hg3)
    clear hown3 hg3 hi hz0 hz1 hz2 hcR hfR hc1' hc2' B2
    go_loopw [17] (fun i wr => PoLoop w R B0 P G cap m x.kids t' r acc i wr) (fun i _ => m - (intOf i).toNat)
    case atStart => exact HS.out
    case round =>
      obtain ⟨k, hk, rfl, hrest, hpo, hU, hT, hf⟩ := hrel
      obtain ⟨eN, eC, hsz⟩ := HBW.out _ hf
      by_cases hlt : k < m
      · obtain ⟨y, hy⟩ : ∃ y, x.kids[k]? = some y := ⟨_, List.getElem?_eq_getElem (by rw [← HM.out]; exact hlt)⟩
        have hcN := cell_of_one (eN.trans HNN.out)
        have hdk : (x.kids.drop k).flatMap Ex.flat ++ r = y.flat ++ ((x.kids.drop (k + 1)).flatMap Ex.flat ++ r) := by rw [drop_one _ _ _ hy, List.flatMap_cons, List.append_assoc]
        rw [hdk] at hrest
        have CK := Lib.hid (HIH.out y (List.mem_of_getElem? hy) _ _ wr hrest (eN.trans HNN.out) (eC.trans HCC.out) hpo (HSUM.out k y hy) (by omega))
        have HNX := Lib.hid (fun (w4 : World) h4 hp4 hf4 => poLoop_next (w4 := w4) (r := r) (acc := acc) (cap := cap) (B0 := B0) hy HM.out.symm HRPG.out hU hT hf h4 hp4 hf4)
        clear hrest hdk hy hpo hU hT hf eN eC
        go_wp2_with (go_at_call 115; refine (CK.out).mono ?_; rintro e w4 ⟨rfl, h4, hp4, hf4⟩; have HF := Lib.hid (HNX.out w4 h4 hp4 hf4); clear h4 hp4 hf4)
        go_roundw
        case rel => exact HF.out
        case measure => simp [intOf] <;> omega
      · obtain rfl : k = m := by omega
        have hcC := cell_of_one (eC.trans HCC.out)
        obtain ⟨hT1, hT2⟩ := two_cells hT
        have htk : x.kids.take k = x.kids := List.take_of_length_le (by rw [← HM.out]; exact Nat.le_refl _)
        rw [htk] at hpo
        have hrest' : RestAt wr R B0 r := by
          have e : (x.kids.drop k).flatMap Ex.flat ++ r = r := by rw [List.drop_eq_nil_of_le (by rw [← HM.out]; exact Nat.le_refl _)]; rfl
          rwa [e] at hrest
        have CA := Lib.hid (clos_any t' (some ⟨w2.heap.size, 0, none⟩) k k P G cap (acc ++ x.kids.flatMap postX) wr hpo hPG hroom2)
        have HFIN := Lib.hid (fun (w5 : World) (h1 : PostAt w5 P G cap ((acc ++ x.kids.flatMap postX) ++ [t'])) (h5 : Fr wr w5 (fun k => k = P ∨ k = G)) => poEnd h0' HRPG.out HNE.out hf hrest' HPX.out hU h1 h5)
        clear hrest hrest' hpo hU hT hf eN eC HIH htk
        go_wp2_with (go_at_call 106; refine (CA.out).mono ?_; rintro e w5 ⟨rfl, h1, h5⟩; have H5 := Lib.hid (HFIN.out w5 h1 h5); clear h1 h5)
        refine bodyPost_ret (results_cell_row rfl _ _ w.heap.size 109 #[] (0, 0) _ rfl H5.out.1 unit_under rfl (by kernel_rfl)) rfl ?_
        exact ⟨rfl, H5.out.2⟩
theorem po_all (R N C B0 P G cap : Nat) (h0 : B0 ≤ R ∧ B0 ≤ P ∧ B0 ≤ G) (hne : R ≠ P ∧ R ≠ G ∧ P ≠ G) (hN3 : ¬ Three R P G N) (hC3 : ¬ Three R P G C) : ∀ (x : Ex), x.ok 29 → PoOK R N C B0 P G cap x := by
  intro x
  induction x with
  | leaf t => exact fun ho => poStep R N C B0 P G cap h0 hne hN3 hC3 _ ho (fun y hy => by simp [Ex.kids] at hy)
  | one t a iha => exact fun ho => poStep R N C B0 P G cap h0 hne hN3 hC3 _ ho (fun y hy => by simp [Ex.kids] at hy; subst hy; exact iha ho.2.2)
  | two t a b iha ihb =>
    exact fun ho => poStep R N C B0 P G cap h0 hne hN3 hC3 _ ho (fun y hy => by
      simp [Ex.kids] at hy
      rcases hy with rfl | rfl
      · exact iha ho.2.2.1
      · exact ihb ho.2.2.2)
end Go.Proofs.Ytfoopgnnhgdfaaa
