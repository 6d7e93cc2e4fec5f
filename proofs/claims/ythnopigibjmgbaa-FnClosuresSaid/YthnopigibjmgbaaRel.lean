/- Which lists are relations: the model's and the program's function by one contract. -/
import Derived.Test.YthnopigibjmgbaaProg
import Derived.WalkKit
import Derived.ProofKit
import Derived.BigQuiet
import Derived.Outline
import Derived.IntWalk
import Derived.Test.YthnopigibjmgbaaMem
import Derived.Test.YthnopigibjmgbaaRRow
import Derived.Test.YthnopigibjmgbaaLawI
import Derived.Test.YthnopigibjmgbaaPart
import Derived.Test.YthnopigibjmgbaaCmpI
import Derived.Test.YthnopigibjmgbaaRelM
namespace Go.Proofs.Ythnopigibjmgbaa
open Go.RowKit
theorem in_yes (x lo hi : Int) (w : World) (h1 : lo ≤ x) (h2 : x ≤ hi) : Calls Try.prog 75 #[.int .i64 x, .int .i64 lo, .int .i64 hi] w fun e w' => e = .returned (.bool true) ∧ w = w' := by
  go_enter Try.func75, Try.ntmps75
  go_wp2
  go_ret
  exact ⟨rfl, rfl⟩
theorem in_no (x lo hi : Int) (w : World) (h : x < lo ∨ hi < x) : Calls Try.prog 75 #[.int .i64 x, .int .i64 lo, .int .i64 hi] w fun e w' => e = .returned (.bool false) ∧ w = w' := by
  by_cases h1 : lo ≤ x
  · have h2 : ¬ x ≤ hi := by omega
    go_enter Try.func75, Try.ntmps75
    go_wp2
    go_ret
    exact ⟨rfl, rfl⟩
  · go_enter Try.func75, Try.ntmps75
    go_wp2
    go_ret
    exact ⟨rfl, rfl⟩
set_option maxHeartbeats 1000000 in
theorem onlyItems_any (nn : Int) (A : Option Addr) (n c : Nat) (r : List (List Int)) (w : World) (B : Nat) (h : RRow w B A r) (l : r.length = n) (m : n ≤ 2000000) (m2 : ∀ xs ∈ r, xs.length ≤ 2000000) :
    Calls Try.prog 77 #[.int .i64 nn, .slice A n c] w fun e w' => e = .returned (.bool (onlyB nn r)) ∧ w = w' := by
  have L := Lib.hid l
  have M2 := Lib.hid m2
  clear l m2
  go_enter Try.func77, Try.ntmps77
  go_wp2
  go_loop [11] (fun i => ∃ k : Nat, k ≤ n ∧ i = .int .i64 k ∧ Hid (∀ j xs, j < k → r[j]? = some xs → ∀ x ∈ xs, 0 ≤ x ∧ x < nn)) (fun i => n - (intOf i).toNat)
  case atStart => exact ⟨0, Nat.zero_le _, rfl, fun j xs hj => by omega⟩
  case round =>
    obtain ⟨k, hk, rfl, HE⟩ := hrel
    by_cases hlt : k < n
    · obtain ⟨b, o, A', c', xs, rfl, hb, hc, hr, hx⟩ := h.at_ (k := k) (by rw [L.out]; exact hlt)
      have hxl := M2.out xs (List.mem_of_getElem? hx.out)
      go_wp2
      go_loop [17] (fun i => ∃ q : Nat, q ≤ xs.length ∧ i = .int .i64 q ∧ Hid (∀ j x, j < q → xs[j]? = some x → 0 ≤ x ∧ x < nn)) (fun i => xs.length - (intOf i).toNat)
      case atStart => exact ⟨0, Nat.zero_le _, rfl, fun j xs hj => by omega⟩
      case round =>
        obtain ⟨q, hq, rfl, HQ⟩ := hrel
        by_cases hlt2 : q < xs.length
        · obtain ⟨b1, o1, u, rfl, hb1, hc1, hu⟩ := hr.at_ (k := q) hlt2
          by_cases hu1 : u < 0
          · have HR := Lib.hid (onlyB_bad (n := nn) hx.out hu.out (.inl hu1))
            go_wp2
            go_ret
            exact ⟨ret_bool HR.out.symm, rfl⟩
          · by_cases hu2 : nn ≤ u
            · have HR := Lib.hid (onlyB_bad (n := nn) hx.out hu.out (.inr hu2))
              go_wp2
              go_ret
              exact ⟨ret_bool HR.out.symm, rfl⟩
            · have HN := Lib.hid (show ∀ j x, j < q + 1 → xs[j]? = some x → 0 ≤ x ∧ x < nn from fun j x hj hx' => by
                by_cases e : j = q
                · subst e; have := hu.out.symm.trans hx'; injection this with this; subst this; omega
                · exact HQ.out j x (by omega) hx')
              clear HQ
              go_wp2
              go_round
              case rel => exact ⟨q + 1, by omega, by go_num, HN⟩
              case measure => simp [intOf]; omega
        · have HN := Lib.hid (show ∀ j ys, j < k + 1 → r[j]? = some ys → ∀ x ∈ ys, 0 ≤ x ∧ x < nn from fun j ys hj hy x hxm => by
            by_cases e : j = k
            · subst e; have := hx.out.symm.trans hy; injection this with this; subst this
              obtain ⟨i, hi⟩ := List.getElem?_of_mem hxm
              have := (List.getElem?_eq_some_iff.1 hi).1
              exact HQ.out i x (by omega) hi
            · exact HE.out j ys (by omega) hy x hxm)
          clear HQ HE
          go_wp2
          go_round
          case rel => exact ⟨k + 1, by omega, by go_num, HN⟩
          case measure => simp [intOf]; omega
    · have HR := Lib.hid (onlyB_all (n := nn) (r := r) fun i xs hi => HE.out i xs (by have := (List.getElem?_eq_some_iff.1 hi).1; rw [L.out] at this; omega) hi)
      clear HE
      go_wp2
      go_ret
      exact ⟨ret_bool HR.out.symm, rfl⟩
set_option maxHeartbeats 2000000 in
theorem l02Relation_any (nn : Int) (A : Option Addr) (n c : Nat) (r : List (List Int)) (w : World) (B : Nat) (h : RRow w B A r) (l : r.length = n) (m : n ≤ 2000000) (m2 : ∀ xs ∈ r, xs.length ≤ 2000000) :
    Calls Try.prog 86 #[.int .i64 nn, .slice A n c] w fun e w' => e = .returned (.bool (relB nn r)) ∧ Drawn w w' := by
  have L := Lib.hid l
  have M2 := Lib.hid m2
  clear l m2
  by_cases hnn : nn < 1 ∨ 40 < nn
  · have HR := Lib.hid (rel_count (r := r) hnn)
    go_enter Try.func86, Try.ntmps86
    go_wp2_with (first | (go_at_call 75; refine (in_yes _ _ _ _ (by omega) (by omega)).mono ?_; rintro e w' ⟨rfl, rfl⟩) | (go_at_call 75; refine (in_no _ _ _ _ (by omega)).mono ?_; rintro e w' ⟨rfl, rfl⟩))
    go_ret
    exact ⟨ret_bool HR.out.symm, Drawn.refl _⟩
  have h1 : 1 ≤ nn := by omega
  have h2 : nn ≤ 40 := by omega
  clear hnn
  go_enter Try.func86, Try.ntmps86
  go_wp2_with (first | (go_at_call 75; refine (in_yes _ _ _ _ (by omega) (by omega)).mono ?_; rintro e w' ⟨rfl, rfl⟩) | (go_at_call 75; refine (in_no _ _ _ _ (by omega)).mono ?_; rintro e w' ⟨rfl, rfl⟩))
  go_loopw [5] (fun i wr => ∃ k : Nat, k ≤ n ∧ i = .int .i64 k ∧ Hid (RelTo nn r k) ∧ Drawn w wr) (fun i _ => n - (intOf i).toNat)
  case atStart => exact ⟨0, Nat.zero_le _, rfl, RelTo.zero _ _, Drawn.refl _⟩
  case round =>
    obtain ⟨k, hk, rfl, HE, hD⟩ := hrel
    by_cases hlt : k < n
    · obtain ⟨b, o, A', c', xs, rfl, hb, hc, hr, hx⟩ := (h.drawn hD).at_ (k := k) (by rw [L.out]; exact hlt)
      have hxl := M2.out xs (List.mem_of_getElem? hx.out)
      by_cases h2 : xs.length = 2
      · obtain ⟨b1, o1, u, rfl, hb1, hc1, hu⟩ := hr.at_ (k := 0) (by omega)
        obtain ⟨b2, o2, v, hbe, hb2, hc2, hv⟩ := hr.at_ (k := 1) (by omega)
        obtain ⟨rfl, rfl⟩ : b2 = b1 ∧ o2 = o1 := by simp only [Option.some.injEq, Addr.mk.injEq, and_true] at hbe; exact ⟨hbe.1.symm, hbe.2.symm⟩
        rw [Nat.add_zero] at hc1
        have hl2 : ((xs.length : Int) != 2) = false := by simp [h2]
        have h0 : 0 < xs.length := by omega
        have h01 : 1 < xs.length := by omega
        have H2 := Lib.hid h2
        clear h2 hbe
        by_cases hu1 : 0 ≤ u ∧ u ≤ nn - 1
        · obtain ⟨hu1, hu2⟩ := hu1
          by_cases hv1 : 0 ≤ v ∧ v ≤ nn - 1
          · obtain ⟨hv1, hv2⟩ := hv1
            have HP := Lib.hid (pair_of (n := nn) H2.out hu.out hv.out hu1 (by omega) hv1 (by omega))
            by_cases hk0 : 0 < k
            · obtain ⟨b3, o3, A3, c3, ys, hbe, hb3, hc3, hr3, hx3⟩ := (h.drawn hD).at_ (k := k - 1) (by rw [L.out]; omega)
              obtain ⟨rfl, rfl⟩ : b3 = b ∧ o3 = o := by simp only [Option.some.injEq, Addr.mk.injEq, and_true] at hbe; exact ⟨hbe.1.symm, hbe.2.symm⟩
              clear hbe
              obtain ⟨u2, v2, hys, p1, p2, p3, p4⟩ := HE.out.1 (k - 1) ys (by omega) hx3.out
              have HY := Lib.hid hys
              obtain ⟨b4, o4, u3, rfl, hb4, hc4, hu3⟩ := hr3.at_ (k := 0) (by rw [hys]; simp)
              obtain ⟨b5, o5, v3, hbe, hb5, hc5, hv3⟩ := hr3.at_ (k := 1) (by rw [hys]; simp)
              obtain ⟨rfl, rfl⟩ : b5 = b4 ∧ o5 = o4 := by simp only [Option.some.injEq, Addr.mk.injEq, and_true] at hbe; exact ⟨hbe.1.symm, hbe.2.symm⟩
              clear hbe
              obtain rfl : u3 = u2 := by have := hu3.out; rw [hys] at this; simpa using this.symm
              obtain rfl : v3 = v2 := by have := hv3.out; rw [hys] at this; simpa using this.symm
              rw [Nat.add_zero] at hc4
              have hyl : ys.length = 2 := by rw [hys]; rfl
              have hy0 : 0 < ys.length := by omega
              have hy1 : 1 < ys.length := by omega
              clear hyl hys
              have e1 : IntKind.i64.wrap ((k : Int) - 1) = (k : Int) - 1 := IntWalk.i64_in _ (by omega)
              have e2 : 0 ≤ (k : Int) - 1 := by omega
              have e3 : ((k : Int) - 1).toNat = k - 1 := by omega
              have e4 : k - 1 < n := by omega
              have e5 : IntKind.i64.wrap (u3 * 40) = u3 * 40 := IntWalk.i64_in _ (by omega)
              have e6 : IntKind.i64.wrap (u3 * 40 + v3) = u3 * 40 + v3 := IntWalk.i64_in _ (by omega)
              have e7 : IntKind.i64.wrap (u * 40) = u * 40 := IntWalk.i64_in _ (by omega)
              have e8 : IntKind.i64.wrap (u * 40 + v) = u * 40 + v := IntWalk.i64_in _ (by omega)
              have HC := Lib.hid (cmp_pair (a := u3) (b := v3) (c := u) (d := v) p3 (by omega) hv1 (by omega))
              have hi1 : ((k : Int) - 1) < (n : Int) := by omega
              have hk1 : (0 : Int) < (k : Int) := by omega
              by_cases hord : u3 * 40 + v3 < u * 40 + v
              · have hno : ¬ (u * 40 + v ≤ u3 * 40 + v3) := by omega
                have HN := Lib.hid (HE.out.next hx.out HP.out fun zs hz _ => by
                  have := hx3.out.symm.trans hz; injection this with this; subst this
                  rw [HY.out, HP.out.1]; exact HC.out.2 hord)
                clear hord HE
                go_wp2_with (first | (go_at_call 75; refine (in_yes _ _ _ _ (by omega) (by omega)).mono ?_; rintro e w' ⟨rfl, rfl⟩) | (go_at_call 75; refine (in_no _ _ _ _ (by omega)).mono ?_; rintro e w' ⟨rfl, rfl⟩))
                go_quiet (fail)
                clear e1 e2 e3 e4 e5 e6 e7 e8
                go_wp2
                go_roundw
                case rel => exact ⟨k + 1, by omega, by go_num, HN, by repeat (first | exact hD | apply Drawn.drewN)⟩
                case measure => simp [intOf]; omega
              · have hno : (u * 40 + v ≤ u3 * 40 + v3) := by omega
                have HR := Lib.hid (rel_order (n := nn) (r := r) (i := k - 1) hx3.out (ys := xs) (by rw [Nat.sub_add_cancel hk0]; exact hx.out) (fun hcc => hord (HC.out.1 (by rw [HY.out, HP.out.1] at hcc; exact hcc))))
                clear hord HE
                go_wp2_with (first | (go_at_call 75; refine (in_yes _ _ _ _ (by omega) (by omega)).mono ?_; rintro e w' ⟨rfl, rfl⟩) | (go_at_call 75; refine (in_no _ _ _ _ (by omega)).mono ?_; rintro e w' ⟨rfl, rfl⟩))
                go_quiet (fail)
                clear e1 e2 e3 e4 e5 e6 e7 e8
                go_wp2
                go_ret
                exact ⟨ret_bool HR.out.symm, by repeat (first | exact hD | apply Drawn.drewN)⟩
            · have HN := Lib.hid (HE.out.next hx.out HP.out fun zs hz h => absurd h hk0)
              have hk1 : ¬ (0 : Int) < (k : Int) := by omega
              clear HE
              go_wp2_with (first | (go_at_call 75; refine (in_yes _ _ _ _ (by omega) (by omega)).mono ?_; rintro e w' ⟨rfl, rfl⟩) | (go_at_call 75; refine (in_no _ _ _ _ (by omega)).mono ?_; rintro e w' ⟨rfl, rfl⟩))
              go_quiet (fail)
              go_wp2
              go_roundw
              case rel => exact ⟨k + 1, by omega, by go_num, HN, by repeat (first | exact hD | apply Drawn.drewN)⟩
              case measure => simp [intOf]; omega
          · have HR := Lib.hid (rel_out (n := nn) hx.out hv.out (by omega))
            go_wp2_with (first | (go_at_call 75; refine (in_yes _ _ _ _ (by omega) (by omega)).mono ?_; rintro e w' ⟨rfl, rfl⟩) | (go_at_call 75; refine (in_no _ _ _ _ (by omega)).mono ?_; rintro e w' ⟨rfl, rfl⟩))
            go_ret
            exact ⟨ret_bool HR.out.symm, hD⟩
        · have HR := Lib.hid (rel_out (n := nn) hx.out hu.out (by omega))
          go_wp2_with (first | (go_at_call 75; refine (in_yes _ _ _ _ (by omega) (by omega)).mono ?_; rintro e w' ⟨rfl, rfl⟩) | (go_at_call 75; refine (in_no _ _ _ _ (by omega)).mono ?_; rintro e w' ⟨rfl, rfl⟩))
          go_ret
          exact ⟨ret_bool HR.out.symm, hD⟩
      · have hl2 : ((xs.length : Int) != 2) = true := by simp; omega
        have HR := Lib.hid (rel_len (n := nn) hx.out h2)
        go_wp2
        go_ret
        exact ⟨ret_bool HR.out.symm, hD⟩
    · have HR := Lib.hid (HE.out.done (by rw [L.out]; omega) h1 h2)
      go_wp2
      go_ret
      exact ⟨ret_bool HR.out.symm, hD⟩
set_option maxHeartbeats 2000000 in
theorem implRel_any (nn : Int) (A : Option Addr) (n c : Nat) (r : List (List Int)) (w : World) (B : Nat) (h : RRow w B A r) (l : r.length = n) (m : n ≤ 2000000) (m2 : ∀ xs ∈ r, xs.length ≤ 2000000) :
    Calls Try.prog 51 #[.int .i64 nn, .slice A n c] w fun e w' => e = .returned (.bool (relB nn r)) ∧ Drawn w w' := by
  have C := Lib.hid (onlyItems_any nn A n c r w B h l m m2)
  have L := Lib.hid l
  have M2 := Lib.hid m2
  clear l m2
  by_cases hnn : nn < 1 ∨ 40 < nn
  · have HR := Lib.hid (rel_count (r := r) hnn)
    go_enter Try.func51, Try.ntmps51
    go_wp2_with (go_at_call 67; refine (itemCount_no _ _ hnn).mono ?_; rintro e w' ⟨rfl, rfl⟩)
    go_ret
    exact ⟨ret_bool HR.out.symm, Drawn.refl _⟩
  have h1 : 1 ≤ nn := by omega
  have h2 : nn ≤ 40 := by omega
  clear hnn
  rcases ho : onlyB nn r with _ | _
  · have HR := Lib.hid (rel_only ho)
    have HO := Lib.hid ho
    clear ho
    go_enter Try.func51, Try.ntmps51
    go_wp2_with (first | (go_at_call 67; refine (itemCount_yes _ _ h1 h2).mono ?_; rintro e w' ⟨rfl, rfl⟩) | (go_at_call 77; refine (C.out).mono ?_; rw [HO.out]; rintro e w' ⟨rfl, rfl⟩))
    go_ret
    exact ⟨ret_bool HR.out.symm, Drawn.refl _⟩
  have HO := Lib.hid ho
  clear ho
  go_enter Try.func51, Try.ntmps51
  go_wp2_with (first | (go_at_call 67; refine (itemCount_yes _ _ h1 h2).mono ?_; rintro e w' ⟨rfl, rfl⟩) | (go_at_call 77; refine (C.out).mono ?_; rw [HO.out]; rintro e w' ⟨rfl, rfl⟩))
  go_loopw [18] (fun i wr => ∃ k : Nat, k ≤ n ∧ i = .int .i64 k ∧ Hid (RelTo nn r k) ∧ Drawn w wr) (fun i _ => n - (intOf i).toNat)
  case atStart => exact ⟨0, Nat.zero_le _, rfl, RelTo.zero _ _, Drawn.refl _⟩
  case round =>
    obtain ⟨k, hk, rfl, HE, hD⟩ := hrel
    by_cases hlt : k < n
    · obtain ⟨b, o, A', c', xs, rfl, hb, hc, hr, hx⟩ := (h.drawn hD).at_ (k := k) (by rw [L.out]; exact hlt)
      have hxl := M2.out xs (List.mem_of_getElem? hx.out)
      by_cases h2 : xs.length = 2
      · have hl2 : ((xs.length : Int) != 2) = false := by simp [h2]
        have HP := Lib.hid (show ∃ a b, PairOf nn xs a b by
          have := onlyB_iff.1 HO.out xs (List.mem_of_getElem? hx.out)
          have e0 : xs[0]? = some xs[0] := List.getElem?_eq_getElem (by omega)
          have e1 : xs[1]? = some xs[1] := List.getElem?_eq_getElem (by omega)
          have i0 := this _ (List.mem_of_getElem? e0)
          have i1 := this _ (List.mem_of_getElem? e1)
          exact ⟨_, _, pair_of h2 e0 e1 i0.1 i0.2 i1.1 i1.2⟩)
        clear h2
        by_cases hk0 : 0 < k
        · obtain ⟨b3, o3, A3, c3, ys, hbe, hb3, hc3, hr3, hx3⟩ := (h.drawn hD).at_ (k := k - 1) (by rw [L.out]; omega)
          obtain ⟨rfl, rfl⟩ : b3 = b ∧ o3 = o := by simp only [Option.some.injEq, Addr.mk.injEq, and_true] at hbe; exact ⟨hbe.1.symm, hbe.2.symm⟩
          clear hbe
          have hyl := M2.out ys (List.mem_of_getElem? hx3.out)
          have CC := Lib.hid (implCmp_any A3 A' ys.length xs.length c3 c' ys xs wr B hr3 hr rfl rfl hyl hxl)
          have hi1 : ((k : Int) - 1) < (n : Int) := by omega
          have hk1 : (0 : Int) < (k : Int) := by omega
          have e4 : k - 1 < n := by omega
          have e2 : 0 ≤ (k : Int) - 1 := by omega
          have e3 : ((k : Int) - 1).toNat = k - 1 := by omega
          by_cases hord : cmpL ys xs < 0
          · have hno : ¬ (0 ≤ cmpL ys xs) := by omega
            have HN := Lib.hid (show RelTo nn r (k + 1) from by
              obtain ⟨a, b, hp⟩ := HP.out
              exact HE.out.next hx.out hp fun zs hz _ => by
                have := hx3.out.symm.trans hz; injection this with this; subst this
                exact hord)
            clear hord HE
            go_wp2_with (go_at_call 87; refine (CC.out).mono ?_; rintro e w' ⟨rfl, hD2⟩)
            go_roundw
            case rel => exact ⟨k + 1, by omega, by go_num, HN, hD.trans hD2⟩
            case measure => simp [intOf]; omega
          · have hno : (0 ≤ cmpL ys xs) := by omega
            have HR := Lib.hid (rel_order (n := nn) (r := r) (i := k - 1) hx3.out (ys := xs) (by rw [Nat.sub_add_cancel hk0]; exact hx.out) hord)
            clear hord HE
            go_wp2_with (go_at_call 87; refine (CC.out).mono ?_; rintro e w' ⟨rfl, hD2⟩)
            go_ret
            exact ⟨ret_bool HR.out.symm, hD.trans hD2⟩
        · have HN := Lib.hid (show RelTo nn r (k + 1) from by
            obtain ⟨a, b, hp⟩ := HP.out
            exact HE.out.next hx.out hp fun zs hz h => absurd h hk0)
          have hk1 : ¬ (0 : Int) < (k : Int) := by omega
          clear HE
          go_wp2
          go_roundw
          case rel => exact ⟨k + 1, by omega, by go_num, HN, hD⟩
          case measure => simp [intOf]; omega
      · have hl2 : ((xs.length : Int) != 2) = true := by simp; omega
        have HR := Lib.hid (rel_len (n := nn) hx.out h2)
        go_wp2
        go_ret
        exact ⟨ret_bool HR.out.symm, hD⟩
    · have HR := Lib.hid (HE.out.done (by rw [L.out]; omega) h1 h2)
      go_wp2
      go_ret
      exact ⟨ret_bool HR.out.symm, hD⟩
theorem specRel_bel (nn : Int) (A : Option Addr) (n c : Nat) (r : List (List Int)) (w : World) (B : Nat) (h : RRow w B A r) (_ : B ≤ w.heap.size) (l : r.length = n) (m : n ≤ 2000000) (m2 : ∀ xs ∈ r, xs.length ≤ 2000000) :
    Calls Try.prog 50 #[.int .i64 nn, .slice A n c] w fun e w' => e = .returned (.bool (relB nn r)) ∧ Below w.heap.size w w' := by
  have C := Lib.hid (l02Relation_any nn A n c r w B h l m m2)
  clear l m2
  go_enter Try.func50, Try.ntmps50
  go_wp2_with (go_at_call 86; refine (C.out).mono ?_; rintro e w' ⟨rfl, hD⟩)
  go_ret
  exact ⟨rfl, hD.below _⟩
theorem implRel_bel (nn : Int) (A : Option Addr) (n c : Nat) (r : List (List Int)) (w : World) (B : Nat) (h : RRow w B A r) (_ : B ≤ w.heap.size) (l : r.length = n) (m : n ≤ 2000000) (m2 : ∀ xs ∈ r, xs.length ≤ 2000000) :
    Calls Try.prog 51 #[.int .i64 nn, .slice A n c] w fun e w' => e = .returned (.bool (relB nn r)) ∧ Below w.heap.size w w' :=
  (implRel_any nn A n c r w B h l m m2).mono fun _ _ ⟨h1, h2⟩ => ⟨h1, h2.below _⟩
end Go.Proofs.Ythnopigibjmgbaa
