/- Conjunctions: the model's answer is that of the plain function. -/
import Derived.Test.YtfoopgnnhgdfaaaProg
import Derived.WalkKit
import Derived.ProofKit
import Derived.OwnWalk
import Derived.Outline
import Derived.Lib.Hide
import Derived.Test.YtfoopgnnhgdfaaaMem
import Derived.Test.YtfoopgnnhgdfaaaOwn
import Derived.Test.YtfoopgnnhgdfaaaTmM
import Derived.Test.YtfoopgnnhgdfaaaTmW
import Derived.Test.YtfoopgnnhgdfaaaTmV
import Derived.Test.YtfoopgnnhgdfaaaRet
import Derived.Test.YtfoopgnnhgdfaaaApp
import Derived.Test.YtfoopgnnhgdfaaaBuildT
import Derived.Test.YtfoopgnnhgdfaaaConc
import Derived.Test.YtfoopgnnhgdfaaaJoin
import Derived.Test.YtfoopgnnhgdfaaaConjM
namespace Go.Proofs.Ytfoopgnnhgdfaaa
open Go.RowKit
theorem ret_one (w : World) (t : Tm) : RetT1 w [t] (.returned (.slice (some ⟨w.heap.size, 0, none⟩) 1 1)) (w.alloc (.cells #[.int .i64 t.k, .int .i64 t.v] 77)) :=
  ⟨_, 1, 1, rfl, own_single w t w.heap.size (Nat.le_refl _), (Below.refl _ _).alloc (Nat.le_refl _) _⟩
set_option maxRecDepth 100000 in
set_option maxHeartbeats 4000000 in
theorem l03All_any (O : Option Addr) (no co : Nat) (oss : List (List Tm)) (w : World) (B : Nat) (h : TTRow w B O oss) (hB : B ≤ w.heap.size) (l : oss.length = no) (m : no ≤ 2000000) (hs : sm oss ≤ 4000) :
    Calls Try.prog 85 #[.slice O no co] w fun e w' => RetT1 w (conjL oss) e w' := by
  have L := Lib.hid l
  rcases Nat.eq_zero_or_pos no with h0 | h0
  · obtain rfl : oss = [] := List.eq_nil_of_length_eq_zero (by omega)
    have H := Lib.hid (ret_one w ⟨0, 1⟩)
    subst h0
    clear l h
    go_enter Try.func85, Try.ntmps85
    go_wp2
    go_ret
    exact H.out
  · have hne : oss ≠ [] := fun e => by subst e; simp at l; omega
    have HC := Lib.hid (show conjL oss = allL oss by unfold conjL; rw [if_neg hne])
    have HS := Lib.hid (show (allL oss).length ≤ 4000 by have := allL_len oss hne; omega)
    have HO0 := Lib.hid (own_made w)
    have HB0 := Lib.hid (show Below w.heap.size w (w.alloc (.cells #[] 77)) from (Below.refl _ _).alloc (Nat.le_refl _) _)
    have hn0 : ((no : Int) == 0) = false := by simp; omega
    clear l hne hs
    go_enter Try.func85, Try.ntmps85
    go_wp2
    go_loopw [3, 4] (fun v i wr => ∃ (k : Nat) (A : Option Addr) (q c : Nat) (acc : List Tm), k ≤ no ∧ i = .int .i64 k ∧ v = .slice A q c ∧ q ≤ 4000 ∧ wr.ownsRow w.heap.size 77 2 (.slice A q c) q (tvs acc) ∧ Below w.heap.size w wr ∧ acc ++ allL (oss.drop k) = allL oss) (fun _ i _ => no - (intOf i).toNat)
    case atStart => exact ⟨0, _, 0, _, [], Nat.zero_le _, rfl, rfl, by omega, HO0.out, HB0.out, by simp⟩
    case round =>
      obtain ⟨k, A, q, c, acc, hk, rfl, rfl, hq, hown, hbel, hac⟩ := hrel
      clear HO0 HB0
      by_cases hlt : k < no
      · obtain ⟨b, o, A', c', xs, rfl, hbB, hc, hr, hx⟩ := (h.below (hbel.mono hB)).at_ (k := k) (by rw [L.out]; exact hlt)
        have hws := hbel.size
        have hql : acc.length = q := own_lenJ hown
        by_cases hla : k + 1 < no
        · have HST := Lib.hid (allL_step hx.out (by rw [L.out]; exact hla))
          have HAC := Lib.hid (show (acc ++ [⟨2, 7⟩] ++ xs) ++ allL (oss.drop (k + 1)) = allL oss by rw [← hac, HST.out]; simp)
          have hln : q + 1 + xs.length ≤ 4000 := by
            have h1 := congrArg List.length HAC.out
            have h2 := HS.out
            simp at h1
            omega
          have HO1 := Lib.hid (own_below' hown ((Below.refl _ _).alloc (Nat.le_refl _) (.cells #[.int .i64 2, .int .i64 7] 77)))
          have HR1 := Lib.hid (trow_one wr ⟨2, 7⟩ 77)
          have HBX := Lib.hid (show ∀ (w1 : World), (wr.alloc (.cells #[.int .i64 2, .int .i64 7] 77)).grownBy w1 (Value.slice A q c).ownBlock → Below w.heap.size w w1 ∧ Below w.heap.size wr w1 from fun w1 hg => ⟨(hbel.alloc hws _).grown hg (by simp; omega) (fun g e => (hown.lt g e).1), (((Below.refl _ wr).alloc hws _).grown hg (by simp; omega) (fun g e => (hown.lt g e).1))⟩)
          have HR := Lib.hid hr
          have hws1 : w.heap.size ≤ (wr.alloc (.cells #[.int .i64 2, .int .i64 7] 77)).heap.size := by simp; omega
          clear hown hbel hr hac hql
          go_wp2_with (first
            | (at_builtin; refine wpList_append_tms rfl _ _ rfl _ w.heap.size _ (.slice A q c) q acc rfl (by exact HO1.out) (some ⟨wr.heap.size, 0, none⟩) 1 1 [⟨2, 7⟩] rfl (by exact HR1.out) rfl (by omega) (by exact hws1) ?_; intro A1 c1 w1 ho1 hg1; obtain ⟨hB1, hB2⟩ := HBX.out w1 hg1; have hc1 := (hB2.cell (p := ⟨b, o + k, none⟩) (by show b < w.heap.size; omega)).trans hc; have HR2 := Lib.hid (HR.out.below (hB2.mono hB)); have HO2 := Lib.hid ho1; have HB2 := Lib.hid hB1; have hws2 := hB1.size; clear ho1 hg1 hB1 hB2)
            | (at_builtin; refine wpList_append_tms rfl _ _ rfl _ w.heap.size B (.slice A1 (q + 1) c1) (q + 1) (acc ++ [⟨2, 7⟩]) rfl (by exact HO2.out) A' xs.length c' xs rfl (by exact HR2.out) rfl (by omega) (by exact hws2) ?_; intro A3 c3 w3 ho3 hg3; have HO3 := Lib.hid ho3; have HB3 := Lib.hid (HB2.out.grown hg3 hws2 (fun g e => (HO2.out.lt g e).1)); clear ho3 hg3))
          go_roundw
          case rel => exact ⟨k + 1, A3, q + 1 + xs.length, c3, _, by omega, by go_num, rfl, hln, HO3.out, HB3.out, HAC.out⟩
          case measure => simp [intOf]; omega
        · obtain ⟨e1, e2⟩ := allL_last hx.out (by rw [L.out]; exact hla)
          have HAC := Lib.hid (show (acc ++ xs) ++ allL (oss.drop (k + 1)) = allL oss by rw [← hac, e1, e2]; simp)
          have hln : q + xs.length ≤ 4000 := by
            have h1 := congrArg List.length HAC.out
            have h2 := HS.out
            simp at h1
            omega
          have HO2 := Lib.hid hown
          have HB2 := Lib.hid hbel
          have HR2 := Lib.hid hr
          clear hown hbel hr hac hql e1 e2
          go_wp2_with (at_builtin; refine wpList_append_tms rfl _ _ rfl _ w.heap.size B (.slice A q c) q acc rfl (by exact HO2.out) A' xs.length c' xs rfl (by exact HR2.out) rfl (by omega) (by exact hws) ?_; intro A3 c3 w3 ho3 hg3; have HO3 := Lib.hid ho3; have HB3 := Lib.hid (HB2.out.grown hg3 hws (fun g e => (HO2.out.lt g e).1)); clear ho3 hg3)
          go_roundw
          case rel => exact ⟨k + 1, A3, q + xs.length, c3, _, by omega, by go_num, rfl, hln, HO3.out, HB3.out, HAC.out⟩
          case measure => simp [intOf]; omega
      · have HE := Lib.hid (show conjL oss = acc by
          rw [HC.out, ← hac, List.drop_eq_nil_of_le (by rw [L.out]; omega)]
          simp [allL])
        go_wp2
        go_ret
        exact ⟨A, q, c, rfl, by rw [HE.out]; exact hown, hbel⟩
set_option maxRecDepth 100000 in
set_option maxHeartbeats 4000000 in
theorem specConj_any (O : Option Addr) (no co : Nat) (oss : List (List Tm)) (w : World) (lo hi : Nat) (hO : OwnTT w lo hi O no co oss) (hB : hi ≤ w.heap.size) (l : oss.length = no) (m : no ≤ 2000000) (M : ∀ xs ∈ oss, xs.length ≤ 2000000) :
    Calls Try.prog 48 #[.slice O no co] w fun e w' => RetT2 w (conjR oss) e w' := by
  have h := hO.row
  clear hO
  have L := Lib.hid l
  have M2 := Lib.hid M
  clear M
  go_enter Try.func48, Try.ntmps48
  go_wp2
  go_loop [4] (fun i => ∃ k : Nat, k ≤ no ∧ i = .int .i64 k ∧ Hid (∀ j x, j < k → oss[j]? = some x → exB 29 60 x = true)) (fun i => no - (intOf i).toNat)
  case atStart => exact ⟨0, Nat.zero_le _, rfl, fun j x hj => by omega⟩
  case round =>
    obtain ⟨k, hk, rfl, HE⟩ := hrel
    by_cases hlt : k < no
    · obtain ⟨b, o, A', c', xs, rfl, hb, hc, hr, hx⟩ := h.at_ (k := k) (by rw [L.out]; exact hlt)
      have C := Lib.hid (specAny_any A' xs.length c' xs w hi hr rfl (M2.out xs (List.mem_of_getElem? hx.out)))
      rcases hv : exB 29 60 xs with _ | _
      · have HV := Lib.hid hv
        have H := Lib.hid (conjR_bad hx.out hv)
        clear hv
        go_wp2_with (go_at_call 74; refine (C.out).mono ?_; rw [HV.out]; rintro e w' ⟨rfl, rfl⟩)
        go_ret2
        exact RetT2.nil H.out (Below.refl _ _)
      · have HV := Lib.hid hv
        have HE2 := Lib.hid (show ∀ j y, j < k + 1 → oss[j]? = some y → exB 29 60 y = true from fun j y hj hy => by
          by_cases e : j = k
          · subst e
            have : y = xs := by have := hy.symm.trans hx.out; injection this
            subst this; exact HV.out
          · exact HE.out j y (by omega) hy)
        clear hv HE
        go_wp2_with (go_at_call 74; refine (C.out).mono ?_; rw [HV.out]; rintro e w' ⟨rfl, rfl⟩)
        go_round
        case rel => exact ⟨k + 1, by omega, by go_num, HE2⟩
        case measure => simp [intOf]; omega
    · have hall := all_take (n := no) L.out (fun j x hj hx => HE.out j x (by omega) hx)
      have hg := sm_ge (fun x hx => (exB_pos (hall x hx)).1)
      have hl2 := sm_le (fun x hx => (exB_pos (hall x hx)).2)
      rw [L.out] at hg hl2
      by_cases hn : 60 < no
      · have H := Lib.hid (conjR_full hall (by omega))
        clear hall hg hl2 HE
        go_wp2
        go_ret2
        exact RetT2.nil H.out (Below.refl _ _)
      · have C := Lib.hid (l03All_any O no co oss w hi h hB L.out m (by omega))
        by_cases hs : 61 < sm oss
        · have H := Lib.hid (conjR_full hall hs)
          have HL := Lib.hid (show 60 < (conjL oss).length by
            rcases conjL_len (oss := oss) with ⟨e, _⟩ | ⟨_, _, e⟩
            · subst e; simp [sm] at hs
            · omega)
          clear hall hg hl2 HE hs
          go_wp2_with (go_at_call 85; refine (C.out).mono ?_; rintro e w' ⟨A2, n2, c2, rfl, ho, hb⟩; have hn2 : 60 < n2 := (by have h1 := own_lenJ ho; have h2 := HL.out; omega))
          go_ret2
          exact RetT2.nil H.out hb
        · have H := Lib.hid (conjR_ok hall (by omega))
          have HL := Lib.hid (show ¬ 60 < (conjL oss).length by
            rcases conjL_len (oss := oss) with ⟨_, e⟩ | ⟨_, _, e⟩ <;> omega)
          clear hall hg hl2 HE hs
          go_wp2_with (go_at_call 85; refine (C.out).mono ?_; rintro e w' ⟨A2, n2, c2, rfl, ho, hb⟩; have hn2 : ¬ 60 < n2 := (by have h1 := own_lenJ ho; have h2 := HL.out; omega))
          go_ret2
          exact RetT2.mk' H.out ho hb
end Go.Proofs.Ytfoopgnnhgdfaaa
