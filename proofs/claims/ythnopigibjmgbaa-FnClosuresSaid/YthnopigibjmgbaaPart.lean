/- Partitions: the model's and the program's functions on lists compute one plain numbering. -/
import Derived.Test.YthnopigibjmgbaaProg
import Derived.WalkKit
import Derived.ProofKit
import Derived.BigQuiet
import Derived.Outline
import Derived.Maps.OwnSet
import Derived.Maps.OwnOps
import Derived.Test.YthnopigibjmgbaaMem
import Derived.Test.YthnopigibjmgbaaLawI
import Derived.Test.YthnopigibjmgbaaPartM
namespace Go.Proofs.Ythnopigibjmgbaa
open Go.RowKit Go.Maps
theorem itemCount_yes (n : Int) (w : World) (h1 : 1 ≤ n) (h2 : n ≤ 40) : Calls Try.prog 67 #[.int .i64 n] w fun e w' => e = .returned (.bool true) ∧ w = w' := by
  go_enter Try.func67, Try.ntmps67
  go_wp2
  go_ret
  exact ⟨rfl, rfl⟩
theorem itemCount_no (n : Int) (w : World) (h : n < 1 ∨ 40 < n) : Calls Try.prog 67 #[.int .i64 n] w fun e w' => e = .returned (.bool false) ∧ w = w' := by
  by_cases h1 : 1 ≤ n
  · have h2 : ¬ n ≤ 40 := by omega
    go_enter Try.func67, Try.ntmps67
    go_wp2
    go_ret
    exact ⟨rfl, rfl⟩
  · go_enter Try.func67, Try.ntmps67
    go_wp2
    go_ret
    exact ⟨rfl, rfl⟩
set_option maxHeartbeats 1000000 in
theorem slicesEqI_any (A1 A2 : Option Addr) (n1 n2 c1 c2 : Nat) (xs ys : List Int) (w : World) (B1 B2 : Nat) (h1 : IRow w B1 A1 xs) (h2 : IRow w B2 A2 ys)
    (l1 : xs.length = n1) (l2 : ys.length = n2) (m1 : n1 ≤ 2000000) :
    Calls Try.prog 68 #[.slice A1 n1 c1, .slice A2 n2 c2] w fun e w' => e = .returned (.bool (decide (xs = ys))) ∧ Drawn w w' := by
  by_cases hn : n1 = n2
  · subst hn
    have L1 := Lib.hid l1; have L2 := Lib.hid l2
    clear l1 l2
    go_enter Try.func68, Try.ntmps68
    go_wp2
    go_loopw [13] (fun i wr => ∃ k : Nat, k ≤ n1 ∧ i = .int .i64 k ∧ Drawn w wr ∧ Hid (xs.take k = ys.take k)) (fun i _ => n1 - (intOf i).toNat)
    case atStart => exact ⟨0, Nat.zero_le _, rfl, Drawn.refl _, rfl⟩
    case round =>
      obtain ⟨k, hk1, rfl, hD, HE⟩ := hrel
      by_cases hlt1 : k < n1
      · obtain ⟨b1, o1, u, rfl, hb1, hc1, hu⟩ := (h1.drawn hD).at_ (k := k) (by rw [L1.out]; exact hlt1)
        obtain ⟨b2, o2, v, rfl, hb2, hc2, hv⟩ := (h2.drawn hD).at_ (k := k) (by rw [L2.out]; exact hlt1)
        by_cases he : u = v
        · subst he
          have HS := Lib.hid (show xs.take (k + 1) = ys.take (k + 1) by rw [take_one _ _ _ hu.out, take_one _ _ _ hv.out, HE.out])
          clear HE
          go_wp2
          go_quiet (fail)
          go_wp2
          go_roundw
          case rel => exact ⟨k + 1, by omega, by go_num, by repeat (first | exact hD | apply Drawn.drewN), HS⟩
          case measure => simp [intOf]; omega
        · have hne : (u != v) = true := by simp [he]
          have HR := Lib.hid (show decide (xs = ys) = false from decide_eq_false fun e => he (by
            subst e
            have := hu.out.symm.trans hv.out
            injection this))
          clear he HE
          go_wp2
          go_quiet (fail)
          go_wp2
          go_ret
          exact ⟨ret_bool HR.out.symm, by repeat (first | exact hD | apply Drawn.drewN)⟩
      · have HR := Lib.hid (show decide (xs = ys) = true from decide_eq_true (by
          have := HE.out
          rwa [List.take_of_length_le (by rw [L1.out]; omega), List.take_of_length_le (by rw [L2.out]; omega)] at this))
        clear HE
        go_wp2
        go_ret
        exact ⟨ret_bool HR.out.symm, hD⟩
  · have HR := Lib.hid (show decide (xs = ys) = false from decide_eq_false fun e => hn (by rw [← l1, ← l2, e]))
    have hne : ((n1 : Int) != (n2 : Int)) = true := by simp; omega
    clear l1 l2
    go_enter Try.func68, Try.ntmps68
    go_wp2
    go_ret
    exact ⟨ret_bool HR.out.symm, Drawn.refl _⟩
set_option maxHeartbeats 1000000 in
theorem l02Is_any (A1 : Option Addr) (n1 c1 : Nat) (p : List Int) (w : World) (B1 : Nat) (h1 : IRow w B1 A1 p) (l1 : p.length = n1) (m1 : n1 ≤ 2000000) :
    Calls Try.prog 66 #[.slice A1 n1 c1] w fun e w' => e = .returned (.bool (partB p)) ∧ w = w' := by
  have L1 := Lib.hid l1
  clear l1
  by_cases h0 : n1 < 1
  · have HR := Lib.hid (show partB p = false from partB_no fun h => by have := h.1; rw [L1.out] at this; omega)
    have h0' : (n1 : Int) < 1 := by omega
    go_enter Try.func66, Try.ntmps66
    go_wp2
    go_ret
    exact ⟨ret_bool HR.out.symm, rfl⟩
  have h0' : ¬ (n1 : Int) < 1 := by omega
  by_cases h40 : 40 < n1
  · have HR := Lib.hid (show partB p = false from partB_no fun h => by have := h.2.1; rw [L1.out] at this; omega)
    have h4' : (40 : Int) < (n1 : Int) := by omega
    go_enter Try.func66, Try.ntmps66
    go_wp2
    go_ret
    exact ⟨ret_bool HR.out.symm, rfl⟩
  have h4' : ¬ (40 : Int) < (n1 : Int) := by omega
  go_enter Try.func66, Try.ntmps66
  go_wp2
  go_loop [3, 4] (fun x i => ∃ k m : Nat, k ≤ n1 ∧ m ≤ k ∧ i = .int .i64 k ∧ x = .int .i64 m ∧ Hid (PartTo p k m)) (fun _ i => n1 - (intOf i).toNat)
  case atStart => exact ⟨0, 0, Nat.zero_le _, Nat.le_refl _, rfl, rfl, PartTo.zero p⟩
  case round =>
    obtain ⟨k, m, hk1, hmk, rfl, rfl, HE⟩ := hrel
    by_cases hlt1 : k < n1
    · obtain ⟨b1, o1, u, rfl, hb1, hc1, hu⟩ := h1.at_ (k := k) (by rw [L1.out]; exact hlt1)
      by_cases hneg : u < 0
      · have HR := Lib.hid (HE.out.bad hu.out (.inl hneg))
        go_wp2
        go_ret
        exact ⟨ret_bool HR.out.symm, rfl⟩
      · by_cases hbig : (m : Int) < u
        · have HR := Lib.hid (HE.out.bad hu.out (.inr hbig))
          go_wp2
          go_ret
          exact ⟨ret_bool HR.out.symm, rfl⟩
        · by_cases he : u = m
          · have HN := Lib.hid (HE.out.next hu.out he)
            have hb : (u == (m : Int)) = true := by simp [he]
            clear he HE
            go_wp2
            go_round
            case rel => exact ⟨k + 1, m + 1, by omega, by omega, by go_num, by go_num, HN⟩
            case measure => simp [intOf]; omega
          · have HN := Lib.hid (HE.out.old hu.out (by omega) (by omega))
            have hb : (u == (m : Int)) = false := by simp [he]
            clear he HE
            go_wp2
            go_round
            case rel => exact ⟨k + 1, m, by omega, by omega, by go_num, rfl, HN⟩
            case measure => simp [intOf]; omega
    · have HR := Lib.hid (HE.out.done (by rw [L1.out]; omega) (by rw [L1.out]; omega) (by rw [L1.out]; omega))
      clear HE
      go_wp2
      go_ret
      exact ⟨ret_bool HR.out.symm, rfl⟩
theorem specIsPart_any (A1 : Option Addr) (n1 c1 : Nat) (p : List Int) (w : World) (B1 : Nat) (h1 : IRow w B1 A1 p) (l1 : p.length = n1) (m1 : n1 ≤ 2000000) :
    Calls Try.prog 25 #[.slice A1 n1 c1] w fun e w' => e = .returned (.bool (partB p)) ∧ w = w' := by
  have C := Lib.hid (l02Is_any A1 n1 c1 p w B1 h1 l1 m1)
  clear l1
  go_enter Try.func25, Try.ntmps25
  go_wp2_with (go_at_call 66; refine (C.out).mono ?_; rintro e w' ⟨rfl, rfl⟩)
  go_ret
  exact ⟨rfl, rfl⟩
/-- A map from the keys of the list L (each met once) to their places. -/
def MapIs {α : Type} [DecidableEq α] (kl : α → Lit) (D : DataW Unit) (L : List α) : Prop :=
  Maps.size D = L.length ∧ (∀ x, Maps.has D (kl x) = decide (x ∈ L)) ∧ ∀ x, x ∈ L → D.atKey (kl x) (.lit (.int .i64 0)) = .lit (.int .i64 (L.idxOf x))
theorem MapIs.nil {α : Type} [DecidableEq α] (kl : α → Lit) : MapIs kl (.map []) [] := ⟨rfl, fun _ => rfl, fun x h => by cases h⟩
theorem MapIs.new {α : Type} [DecidableEq α] {kl : α → Lit} (inj : ∀ x y, kl x = kl y → x = y) (key : ∀ x, WideAt.IsKeyLit (kl x)) {D : DataW Unit} {L : List α} (h : MapIs kl D L) (ht : Maps.Tidy D) {x : α} (hx : x ∉ L) :
    MapIs kl (D.put (kl x) (.lit (.int .i64 (L.length : Nat)))) (addNew L x) := by
  have hno : Maps.has D (kl x) = false := by rw [h.2.1]; exact decide_eq_false hx
  have e : addNew L x = L ++ [x] := by unfold addNew; rw [if_neg hx]
  rw [e]
  refine ⟨by rw [Maps.size_put ht, hno, h.1]; simp, fun y => ?_, fun y hy => ?_⟩
  · by_cases hyx : y = x
    · subst hyx; rw [Maps.has_put_same ht.isMap (key _)]; simp
    · rw [Maps.has_put_other (fun e => hyx (inj _ _ e)), h.2.1]
      simp [hyx]
  · by_cases hyx : y = x
    · subst hyx
      rw [Maps.atKey_put_same ht.isMap (key _), List.idxOf_append, if_neg hx]; simp
    · have hyL : y ∈ L := by simpa [hyx] using hy
      rw [Maps.atKey_put_other (fun e => hyx (inj _ _ e)), h.2.2 y hyL, List.idxOf_append, if_pos hyL]
def kI (x : Int) : Lit := .int .i64 x
theorem kI_inj (x y : Int) (h : kI x = kI y) : x = y := by unfold kI at h; injection h
theorem kI_key (x : Int) : WideAt.IsKeyLit (kI x) := trivial
theorem lit_inj {a b : Int} (h : (DataW.lit (.int .i64 a) : DataW Unit) = .lit (.int .i64 b)) : a = b := by
  simp only [DataW.lit.injEq, Lit.int.injEq, true_and] at h
  exact h
theorem zero64 (w : World) : (zeroValue 2).run Try.prog w = .ok (.int .i64 0) w := by kernel_rfl
theorem wf_small (k : Nat) (h : k ≤ 2000000) : (Lit.int .i64 (k : Int)).wf = true := WalkArith.wf_i64 (by omega)
set_option maxHeartbeats 2000000 in
theorem numberBlocks_any (A : Option Addr) (n c : Nat) (xs : List Int) (w : World) (B : Nat) (h : IRow w B A xs) (hB : B ≤ w.heap.size) (l : xs.length = n) (m : n ≤ 2000000) (hwf : ∀ x ∈ xs, (Lit.int .i64 x).wf = true) :
    Calls Try.prog 69 #[.slice A n c] w fun e w' => e = .returned (.slice (some ⟨w.heap.size + 1, 0, none⟩) n n) ∧
      w'.ownsRow w.heap.size 2 1 (.slice (some ⟨w.heap.size + 1, 0, none⟩) n n) n ((normL xs).map (Value.int .i64)) ∧ Below w.heap.size w w' := by
  obtain ⟨i0, hi, hz0, hz1, hz2⟩ := info_parts info_i64
  have L := Lib.hid l
  have HWF := Lib.hid hwf
  clear l hwf
  have hmm := @run_makeMap Try.prog
  have law := int_keyed Try.underlying2
  go_enter Try.func69, Try.ntmps69
  go_wp2_with (at_make; refine wpList_make_full _ rfl _ _ _ rfl w.heap.size 2 i0 (.int .i64 0) 1 Try.underlying30 hi hz0 hz1 .i64 .i64 _ _ n rfl rfl rfl rfl (by rw [hz2]; omega) (by unfold maxLen; omega) (by simp) ?_; intro w1 hown1 hg1)
  have H0 : w1.ownsRow w.heap.size 2 1 (.slice (some ⟨w.heap.size + 1, 0, none⟩) n n) n (((normL xs).map (Value.int .i64)).take 0 ++ List.replicate (n - 0) (.int .i64 0)) := by
    have e := toList_madeCells_one (.int .i64 0) n
    have e2 : (Value.int .i64 0).cells = #[.int .i64 0] := rfl
    rw [e2, Nat.mul_one, e] at hown1
    simpa using hown1
  have hm1 : w1.ownsMap Try.prog 2 (plainElem (H := Unit) Try.prog 2) w.heap.size 0 (.map []) := (World.ownsMap_made w _ _ _).kept hg1 (by simp)
  have hb1 : Below w.heap.size w w1 := ((Below.refl _ _).alloc (Nat.le_refl _) _).grown hg1 (by simp) (by simp)
  have h63 : n ≤ 9223372036854775807 := by omega
  have HNL := Lib.hid (normL_length xs)
  clear hown1 hg1 hi hz0 hz1 hz2 hmm
  go_loopw [15] (fun i wr => ∃ (k : Nat) (Dm : DataW Unit), k ≤ n ∧ i = .int .i64 k ∧ Hid (MapIs kI Dm (seen (xs.take k))) ∧ Below w.heap.size w wr ∧ wr.ownsMap Try.prog 2 (plainElem (H := Unit) Try.prog 2) w.heap.size k Dm ∧ wr.ownsRow w.heap.size 2 1 (.slice (some ⟨w.heap.size + 1, 0, none⟩) n n) n (((normL xs).map (Value.int .i64)).take k ++ List.replicate (n - k) (.int .i64 0))) (fun i _ => n - (intOf i).toNat)
  case atStart => exact ⟨0, _, Nat.zero_le _, rfl, MapIs.nil kI, hb1, hm1, H0⟩
  case round =>
    obtain ⟨k, Dm, hk, rfl, HM, hb, hmap, hown⟩ := hrel
    clear H0 hb1 hm1
    by_cases hlt : k < n
    · obtain ⟨b, o, u, rfl, hbB, hc, hu⟩ := (h.below (hb.mono hB)).at_ (k := k) (by rw [L.out]; exact hlt)
      have hkey : keyOf Try.prog 2 (.int .i64 u) = some (kI u) := keyOf_int_mk Try.underlying2 (HWF.out u (List.mem_of_getElem? hu.out))
      have HKEY := Lib.hid hkey
      clear hkey
      have hx := hown.cellAt k (by omega)
      have hlen : k < (((normL xs).map (Value.int .i64)).take k ++ List.replicate (n - k) (Value.int .i64 0)).length := by rw [hown.1]; omega
      rw [List.getElem?_eq_getElem hlen] at hx
      have hf := hown.frozenAt k
      have hsz : Maps.size Dm ≤ 2000000 := by have := hmap.size_le; omega
      have HB := Lib.hid hb
      have HO := Lib.hid hown
      have HNU := Lib.hid (normL_at hu.out)
      clear hb hown
      replace hx : ∃ old, wr.cell? ⟨w.heap.size + 1, k, none⟩ = some old := ⟨_, hx⟩
      obtain ⟨old, hx⟩ := hx
      clear hlen
      by_cases hmem : u ∈ seen (xs.take k)
      · have hhas : Maps.has Dm (kI u) = true := by rw [HM.out.2.1]; exact decide_eq_true hmem
        have HS := Lib.hid (seen_succ hu.out)
        have HMEM := Lib.hid hmem
        clear hmem
        go_wp2_with (first
          | (at_lookup; refine wpList_lookup_own_ok_int _ rfl _ _ 70 rfl 2 2 .i64 law Try.underlying70 Try.underlying2 (zero64 _) w.heap.size k Dm rfl hmap _ (kI u) rfl HKEY.out ?_; intro cc hat hwc; have HAT := Lib.hid hat; clear hat))
        go_roundw
        case rel =>
          refine ⟨k + 1, Dm, by omega, by go_num, ?_, HB.out.setCell (by simp) _, ?_, ?_⟩
          · have := HM.out
            show MapIs kI Dm (seen (xs.take (k + 1)))
            rw [HS.out]; unfold addNew; rw [if_pos HMEM.out]; exact this
          · exact (hmap.setCell (a := ⟨w.heap.size + 1, k, none⟩) (show w.heap.size ≠ w.heap.size + 1 by omega) _).mono (Nat.le_succ k)
          · have e : cc = ((seen (xs.take k)).idxOf u : Int) := by
              exact (lit_inj ((HM.out.2.2 u HMEM.out).symm.trans HAT.out)).symm
            have := (HO.out.stored k (.int .i64 cc)).1
            rwa [upd_take _ _ _ _ _ (by rw [List.length_map, HNL.out]; exact L.out) (by rw [List.getElem?_map, HNU.out, e]; rfl)] at this
        case measure => simp [intOf]; omega
      · have hhas : Maps.has Dm (kI u) = false := by rw [HM.out.2.1]; exact decide_eq_false hmem
        have HS := Lib.hid (seen_succ hu.out)
        have HMEM := Lib.hid hmem
        have HT := Lib.hid (hmap.tidy law)
        clear hmem
        go_wp2_with (first
          | (at_lookup; refine wpList_lookup_own_ok_int _ rfl _ _ 70 rfl 2 2 .i64 law Try.underlying70 Try.underlying2 (zero64 _) w.heap.size k Dm rfl hmap _ (kI u) rfl HKEY.out ?_; intro cc hat hwc; clear hat)
          | (at_len; refine wpList_len_own _ rfl _ 70 rfl 2 2 Try.underlying70 _ w.heap.size k Dm rfl hmap ?_)
          | (at_mapUpdate; refine wpList_mapUpdate_own _ rfl _ _ _ 70 rfl 2 2 law Try.underlying70 _ w.heap.size k Dm rfl hmap (by unfold maxLen; omega) _ _ (kI u) rfl rfl HKEY.out _ [] (plainElem_int Try.underlying2 (wf_small _ hsz)) ?_; intro w2 hmap2 hg2; have hx2 := hg2.cell hx (by simp); have hf2 := (HO.out.kept hg2 (.inr (by simp [Value.ownBlock]))).frozenAt k; have HG2 := Lib.hid hg2; clear hg2))
        go_roundw
        case rel =>
          have hg2 := HG2.out
          have HO2 := HO.out.kept hg2 (.inr (by simp [Value.ownBlock]))
          refine ⟨k + 1, _, by omega, by go_num, ?_, (HB.out.grown hg2 HB.out.size (fun j hj => by cases hj; exact Nat.le_refl _)).setCell (by simp) _, hmap2.setCell (a := ⟨w.heap.size + 1, k, none⟩) (show w.heap.size ≠ w.heap.size + 1 by omega) _, ?_⟩
          · show MapIs kI _ (seen (xs.take (k + 1)))
            rw [HS.out]
            have hsize := HM.out.1
            have := MapIs.new kI_inj kI_key HM.out HT.out HMEM.out
            rwa [← hsize] at this
          · have e : ((Maps.size Dm : Nat) : Int) = ((seen (xs.take k)).idxOf u : Int) := by
              rw [idxOf_miss HMEM.out, HM.out.1]
            have := (HO2.stored k (.int .i64 (Maps.size Dm : Nat))).1
            rwa [upd_take _ _ _ _ _ (by rw [List.length_map, HNL.out]; exact L.out) (by rw [List.getElem?_map, HNU.out, ← e]; rfl)] at this
        case measure => simp [intOf]; omega
    · go_wp2
      go_ret
      obtain rfl : k = n := by omega
      exact ⟨rfl, by simpa [List.take_of_length_le, L.out, HNL.out] using hown, hb⟩
end Go.Proofs.Ythnopigibjmgbaa
