/- Conjunctions: the program's answer is that of the plain function. -/
import Derived.Test.YtfoopgnnhgdfaaaProg
import Derived.WalkKit
import Derived.ProofKit
import Derived.OwnWalk
import Derived.Outline
import Derived.Deep.RegionWith
import Derived.Lib.Hide
import Derived.Test.YtfoopgnnhgdfaaaMem
import Derived.Test.YtfoopgnnhgdfaaaOwn
import Derived.Test.YtfoopgnnhgdfaaaTmM
import Derived.Test.YtfoopgnnhgdfaaaTmW
import Derived.Test.YtfoopgnnhgdfaaaTmI
import Derived.Test.YtfoopgnnhgdfaaaRet
import Derived.Test.YtfoopgnnhgdfaaaApp
import Derived.Test.YtfoopgnnhgdfaaaShift
import Derived.Test.YtfoopgnnhgdfaaaBuildT
import Derived.Test.YtfoopgnnhgdfaaaCut
import Derived.Test.YtfoopgnnhgdfaaaConc
import Derived.Test.YtfoopgnnhgdfaaaJoin
import Derived.Test.YtfoopgnnhgdfaaaConjM
import Derived.Test.YtfoopgnnhgdfaaaConjS
namespace Go.Proofs.Ytfoopgnnhgdfaaa
open Go.RowKit
/-- The lists behind the first one. -/
theorem TTRow.tail {w : World} {B b o : Nat} {x : List Tm} {r : List (List Tm)} (h : TTRow w B (some ⟨b, o, none⟩) (x :: r)) : TTRow w B (some ⟨b, o + 1, none⟩) r := by
  obtain ⟨vs, h1, h2, h3⟩ := h
  rcases vs with _ | ⟨v, vs⟩
  · simp at h2
  · refine ⟨vs, fun hp => ?_, by simpa using h2, fun i xs hi => ?_⟩
    · obtain ⟨b', o', e, hb, hc⟩ := h1 (by simp)
      injection e with e
      injection e with e1 e2 _
      subst e1
      subst e2
      refine ⟨b, o + 1, rfl, hb, fun i v' hv => ?_⟩
      have := hc (i + 1) v' (by simpa using hv)
      rwa [show o + 1 + i = o + (i + 1) by omega]
    · obtain ⟨A', c', e, hr⟩ := h3 (i + 1) xs (by simpa using hi)
      exact ⟨A', c', by simpa using e, hr⟩
/-- Two lists side by side in a new block. -/
theorem TTRow.pair {w2 : World} {A1 A2 : Option Addr} {c1 c2 n1 n2 B1 B2 : Nat} {x y : List Tm} (T : TypeId) (h1 : TRow w2 B1 A1 x) (b1 : B1 ≤ w2.heap.size) (l1 : x.length = n1) (h2 : TRow w2 B2 A2 y) (b2 : B2 ≤ w2.heap.size) (l2 : y.length = n2) :
    TTRow (w2.alloc (.cells #[.slice A1 n1 c1, .slice A2 n2 c2] T)) (w2.alloc (.cells #[.slice A1 n1 c1, .slice A2 n2 c2] T)).heap.size (some ⟨w2.heap.size, 0, none⟩) [x, y] := by
  subst l1
  subst l2
  have hs : (w2.alloc (.cells #[.slice A1 x.length c1, .slice A2 y.length c2] T)).heap.size = w2.heap.size + 1 := by simp
  have hb : Below w2.heap.size w2 (w2.alloc (.cells #[.slice A1 x.length c1, .slice A2 y.length c2] T)) := (Below.refl _ _).alloc (Nat.le_refl _) _
  refine ⟨[.slice A1 x.length c1, .slice A2 y.length c2], fun _ => ⟨w2.heap.size, 0, rfl, by omega, fun i v hv => ?_⟩, rfl, fun i xs hi => ?_⟩
  · rw [Nat.zero_add, cell_of_row _ _ i _ _ (0, 0) (heap_alloc_new w2 _)]
    rw [← hv]
    simp
  · rcases i with _ | _ | i
    · simp at hi; subst hi
      exact ⟨A1, c1, rfl, Row.more (h1.below (hb.mono b1)) (by omega)⟩
    · simp at hi; subst hi
      exact ⟨A2, c2, rfl, Row.more (h2.below (hb.mono b2)) (by omega)⟩
    · simp at hi
theorem own_cap2 {w : World} {base : Nat} {T : TypeId} {s n c : Nat} {A : Option Addr} {vs : List Value} (h : w.ownsRow base T s (.slice A n c) n vs) : c ≤ 9223372036854775807 := by
  rcases h.2 with ⟨e, _⟩ | ⟨g, cap, cur, e, _, _, _, hm, _⟩
  · injection e with _ _ e3
    subst e3
    omega
  · injection e with _ _ e3
    subst e3
    unfold maxLen at hm
    omega
theorem conj_end {w w2 w3 : World} {o : Obj} {es fs : List Tm} {e : Ending} (h : RetT1 (w2.alloc o) es e w3) (hb : Below w.heap.size w w2) (he : es = fs) : RetT1 w fs e w3 := by
  obtain ⟨A, n, c, rfl, ho, hb3⟩ := h
  subst he
  have h1 := hb.alloc hb.size o
  exact ⟨A, n, c, rfl, own_lower ho h1.size, h1.trans (hb3.mono h1.size)⟩
set_option maxRecDepth 100000 in
set_option maxHeartbeats 4000000 in
theorem conjOf_any : ∀ (oss : List (List Tm)) (O : Option Addr) (no co : Nat) (w : World) (B : Nat), TTRow w B O oss → B ≤ w.heap.size → oss.length = no → no ≤ co → co ≤ 9223372036854775807 → sm oss ≤ 61 →
    Calls Try.prog 86 #[.slice O no co] w fun e w' => RetT1 w (conjL oss) e w' := by
  intro oss
  induction oss with
  | nil =>
    intro O no co w B h hB l hc hc2 hs
    obtain rfl : no = 0 := by simpa using l.symm
    have H := Lib.hid (ret_one w ⟨0, 1⟩)
    clear h
    go_enter Try.func86, Try.ntmps86
    go_wp2
    go_ret
    exact H.out
  | cons x r ih =>
    intro O no co w B h hB l hc hc2 hs
    obtain ⟨b, o, A', c', xs, rfl, hb, hcell, hr, hx⟩ := h.at_ (k := 0) (by simp)
    obtain rfl : xs = x := by have := hx.out; simpa using this.symm
    rw [Nat.add_zero] at hcell
    have hxl : xs.length ≤ 60 := by simp [sm] at hs; omega
    rcases r with _ | ⟨y, r⟩
    · obtain rfl : no = 1 := by simpa using l.symm
      have C := Lib.hid (clone_any A' xs.length c' xs w B hr hB rfl (by omega))
      clear h ih hx hr
      go_enter Try.func86, Try.ntmps86
      go_wp2_with (go_at_call 80; refine (C.out).mono ?_; rintro e w' ⟨A2, n2, c2, rfl, ho, hb2⟩)
      go_ret
      exact ⟨A2, n2, c2, rfl, ho, hb2⟩
    · have hln : no = (y :: r).length + 1 := by rw [← l]; rfl
      have hn2 : 2 ≤ no := by rw [hln]; simp
      have hsm : sm (y :: r) ≤ 61 := by simp only [sm] at hs ⊢; omega
      have C := Lib.hid (fun (w1 : World) (hb1 : Below w.heap.size w w1) => ih (some ⟨b, o + 1, none⟩) (no - 1) (co - 1) w1 B ((h.tail).below (hb1.mono hB)) (Nat.le_trans hB hb1.size) (by omega) (by omega) (by omega) hsm)
      have HSM := Lib.hid hsm
      have HR := Lib.hid hr
      have e0 : ((no : Int) == 0) = false := by simp; omega
      have e1 : ((no : Int) == 1) = false := by simp; omega
      have hco : co ≠ 1 := by omega
      have hcd : w.drew.cell? ⟨b, o, none⟩ = some (.slice A' xs.length c') := hcell
      have HE := Lib.hid (show (⟨2, 7⟩ : Tm) :: [xs, conjL (y :: r)].flatten = conjL (xs :: y :: r) by simp [conjL, allL])
      have HF := Lib.hid (show [xs, conjL (y :: r)].flatten.length ≤ 100000 by
        rcases conjL_len (oss := y :: r) with ⟨e, _⟩ | ⟨_, _, e⟩
        · cases e
        · simp at e ⊢; omega)
      generalize hL : conjL (y :: r) = z at *
      generalize hL2 : conjL (xs :: y :: r) = z2 at *
      clear h ih hx hr l hs hsm hln hL hL2 HSM
      go_enter Try.func86, Try.ntmps86
      go_wp2
      go_region_with (first
        | (go_at_call 86; refine (C.out _ (Below.refl _ _).drew).mono ?_; rintro e w2 ⟨A2, n2, c2, rfl, ho2, hb2⟩; have hb2' : Below w.heap.size w w2 := (Below.refl _ w).drew.trans hb2; have hcw := (hb2'.cell (p := ⟨b, o, none⟩) (Nat.lt_of_lt_of_le hb hB)).trans hcell; have HT := Lib.hid (TTRow.pair (c1 := c') (c2 := c2) 24 (HR.out.below (hb2'.mono hB)) (Nat.le_trans hB hb2'.size) rfl (Row.of_own2 ho2) (Nat.le_refl _) (own_lenJ ho2)); have HB2 := Lib.hid hb2'; clear ho2 hb2 hb2')
        | (go_at_call 97; refine (joined_any ⟨2, 7⟩ (some ⟨w2.heap.size, 0, none⟩) 2 2 [xs, z] _ _ HT.out (Nat.le_refl _) rfl (by omega) HF.out).mono ?_; rintro e w3 ⟨A3, n3, c3, rfl, ho3, hb3⟩; have HX := Lib.hid (conj_end ⟨A3, n3, c3, rfl, ho3, hb3⟩ HB2.out HE.out); clear ho3 hb3))
      all_goals
        go_wp2
        go_ret
        exact HX.out
set_option maxRecDepth 100000 in
set_option maxHeartbeats 4000000 in
theorem implConj_any (O : Option Addr) (no co : Nat) (oss : List (List Tm)) (w : World) (lo hi : Nat) (hO : OwnTT w lo hi O no co oss) (hB : hi ≤ w.heap.size) (l : oss.length = no) (m : no ≤ 2000000) (M : ∀ xs ∈ oss, xs.length ≤ 2000000) :
    Calls Try.prog 50 #[.slice O no co] w fun e w' => RetT2 w (conjR oss) e w' := by
  have h := hO.row
  have hcap : no ≤ co ∧ co ≤ 9223372036854775807 := by
    obtain ⟨_, T, G, C, R, h1, _⟩ := hO
    exact ⟨own_cap h1.own, own_cap2 h1.own⟩
  clear hO
  have L := Lib.hid l
  have M2 := Lib.hid M
  clear M
  go_enter Try.func50, Try.ntmps50
  go_wp2
  go_loopw [4, 6, 9] (fun t x i wr => ∃ k u : Nat, k ≤ no ∧ i = .int .i64 k ∧ t = .int .i64 ((u : Int) - 1) ∧ u ≤ 61 * k ∧ Hid (u + sm (oss.drop k) = sm oss) ∧ Below w.heap.size w wr ∧ Hid (∀ j x, j < k → oss[j]? = some x → exB 29 60 x = true)) (fun _ _ i _ => no - (intOf i).toNat)
  case atStart => exact ⟨0, 0, Nat.zero_le _, rfl, rfl, by omega, Lib.hid (by simp), Below.refl _ _, fun j x hj => by omega⟩
  case round =>
    obtain ⟨k, u, hk, rfl, rfl, hu, HU, hbel, HE⟩ := hrel
    by_cases hlt : k < no
    · obtain ⟨b, o, A', c', xs, rfl, hb, hc, hr, hx⟩ := (h.below (hbel.mono hB)).at_ (k := k) (by rw [L.out]; exact hlt)
      have hws := hbel.size
      have C := Lib.hid (isEx_any A' xs.length c' xs wr hi hr (Nat.le_trans hB hws) rfl (M2.out xs (List.mem_of_getElem? hx.out)))
      rcases hv : exB 29 60 xs with _ | _
      · have HV := Lib.hid hv
        have H := Lib.hid (conjR_bad hx.out hv)
        have HB := Lib.hid hbel
        clear hv hbel
        go_wp2_with (go_at_call 62; refine (C.out).mono ?_; rw [HV.out]; rintro e w' ⟨rfl, hb'⟩)
        go_ret2
        exact RetT2.nil H.out (HB.out.trans (hb'.mono hws))
      · have HV := Lib.hid hv
        have HE2 := Lib.hid (show ∀ j y, j < k + 1 → oss[j]? = some y → exB 29 60 y = true from fun j y hj hy => by
          by_cases e : j = k
          · subst e
            have : y = xs := by have := hy.symm.trans hx.out; injection this
            subst this; exact HV.out
          · exact HE.out j y (by omega) hy)
        have hx60 := (exB_pos hv).2
        have HU2 := Lib.hid (show (u + (xs.length + 1)) + sm (oss.drop (k + 1)) = sm oss by have := HU.out; rw [drop_sm hx.out] at this; omega)
        have HB := Lib.hid hbel
        have hu2 : u + (xs.length + 1) ≤ 61 * (k + 1) := by omega
        clear hv hbel HE
        go_wp2_with (go_at_call 62; refine (C.out).mono ?_; rw [HV.out]; rintro e w1 ⟨rfl, hb'⟩; have HB1 := Lib.hid (HB.out.trans (hb'.mono hws)); clear hb')
        go_roundw
        case rel => exact ⟨k + 1, u + (xs.length + 1), by omega, by go_num, by go_num, hu2, HU2, HB1.out, HE2⟩
        case measure => simp [intOf]; omega
    · have hall := all_take (n := no) L.out (fun j x hj hx => HE.out j x (by omega) hx)
      have husm : u = sm oss := by
        have := HU.out
        rw [List.drop_eq_nil_of_le (by rw [L.out]; omega)] at this
        simpa [sm] using this
      by_cases hs : 61 < sm oss
      · have H := Lib.hid (conjR_full hall hs)
        have HB := Lib.hid hbel
        have hs' : (60 : Int) < (u : Int) - 1 := by omega
        clear hall HE hs husm hbel
        go_wp2
        go_ret2
        exact RetT2.nil H.out HB.out
      · have H := Lib.hid (conjR_ok hall (by omega))
        have C := Lib.hid (conjOf_any oss O no co wr hi (h.below (hbel.mono hB)) (Nat.le_trans hB hbel.size) L.out hcap.1 hcap.2 (by omega))
        have HB := Lib.hid hbel
        have hs' : ¬ (60 : Int) < (u : Int) - 1 := by omega
        clear hall HE hs husm hbel
        go_wp2_with (go_at_call 86; refine (C.out).mono ?_; rintro e w' ⟨A2, n2, c2, rfl, ho, hb⟩)
        go_ret2
        exact RetT2.mk' H.out (own_lower ho HB.out.size) (HB.out.trans (hb.mono HB.out.size))
end Go.Proofs.Ytfoopgnnhgdfaaa
