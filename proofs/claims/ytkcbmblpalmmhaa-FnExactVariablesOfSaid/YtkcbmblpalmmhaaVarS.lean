/- The variables of an expression: the model's answer is that of the plain function. -/
import Derived.Test.YtkcbmblpalmmhaaProg
import Derived.WalkKit
import Derived.ProofKit
import Derived.OwnWalk
import Derived.Outline
import Derived.Lib.Hide
import Derived.Test.YtkcbmblpalmmhaaMem
import Derived.Test.YtkcbmblpalmmhaaOwn
import Derived.Test.YtkcbmblpalmmhaaL00
import Derived.Test.YtkcbmblpalmmhaaTmM
import Derived.Test.YtkcbmblpalmmhaaTmW
import Derived.Test.YtkcbmblpalmmhaaTmV
import Derived.Test.YtkcbmblpalmmhaaRet
import Derived.Test.YtkcbmblpalmmhaaApp
import Derived.Test.YtkcbmblpalmmhaaExM
import Derived.Test.YtkcbmblpalmmhaaVarM
import Derived.Test.YtkcbmblpalmmhaaVarW
namespace Go.Proofs.Ytkcbmblpalmmhaa
open Go.RowKit
theorem own_madeI (w : World) : (w.alloc (.cells #[] 2)).ownsRow w.heap.size 2 1 (.slice (some ⟨w.heap.size, 0, none⟩) 0 0) 0 (([] : List Int).map (Value.int .i64)) :=
  World.ownsRow_made (e := 2) (size := 1) w #[] 0 (Nat.le_refl _) (Nat.zero_le _) rfl
set_option maxRecDepth 100000 in
set_option maxHeartbeats 4000000 in
theorem l00Put_any (A : Option Addr) (n c : Nat) (xs : List Int) (u : Int) (w : World) (B : Nat) (h : IRow w B A xs) (hB : B ≤ w.heap.size) (l : xs.length = n) (m : n ≤ 2000000) :
    Calls Try.prog 75 #[.slice A n c, .int .i64 u] w fun e w' => RetN1 w (putG u false xs) e w' := by
  have L := Lib.hid l
  have HM0 := Lib.hid (own_madeI w)
  have HA0 := Lib.hid ((Below.refl w.heap.size w).alloc (Nat.le_refl _) (.cells #[] 2))
  clear l
  go_enter Try.func75, Try.ntmps75
  go_wp2
  go_loopw [5, 6, 7] (fun v dv i wr => ∃ (k : Nat) (d : Bool) (A : Option Addr) (q c : Nat) (acc : List Int), k ≤ n ∧ i = .int .i64 (k : Int) ∧ dv = .bool d ∧ v = .slice A q c ∧ (d = false → q ≤ k) ∧ q ≤ k + 1 ∧ Hid (wr.ownsRow w.heap.size 2 1 (.slice A q c) q (acc.map (Value.int .i64))) ∧ Hid (Below w.heap.size w wr) ∧ Hid (acc ++ putG u d (xs.drop k) = putG u false xs)) (fun _ _ i _ => n - (intOf i).toNat)
  case atStart => exact ⟨0, false, some ⟨w.heap.size, 0, none⟩, 0, 0, [], Nat.zero_le _, rfl, rfl, rfl, fun _ => Nat.le_refl _, by omega, HM0, HA0, Lib.hid (by rw [List.drop_zero]; rfl)⟩
  case round =>
    obtain ⟨k, d, A2, q, c2, acc, hk, rfl, rfl, rfl, hqf, hq, HO, HB, HAC⟩ := hrel
    have hws := HB.out.size
    have HA := Lib.hid (fun (o1 : Obj) => HB.out.alloc hws o1)
    have HO2 := Lib.hid (fun (o1 : Obj) => HO.out.alloc o1)
    have hq8 : q + 2 ≤ 8000000 := by omega
    by_cases hlt : k < n
    · obtain ⟨b, o, x, rfl, hb, hc, hx⟩ := (IRow.below h (HB.out.mono hB)).at_ (k := k) (by rw [L.out]; exact hlt)
      have hbw : b < wr.heap.size := by omega
      rcases d with _ | _
      · have hqk := hqf rfl
        by_cases hux : u ≤ x
        · by_cases hlt2 : u < x
          · have HAC2 := Lib.hid (show ((acc ++ [u]) ++ [x]) ++ putG u true (xs.drop (k + 1)) = putG u false xs by
              rw [← HAC.out, drop_one _ _ _ hx.out, putG, if_pos ⟨rfl, hux⟩, if_pos hlt2]; simp)
            clear hqf hq
            go_wp2_with (first
              | (at_builtin; refine wpList_append_i rfl _ _ rfl _ w.heap.size (.slice A2 q c2) q acc rfl (by exact HO2.out _) wr.heap.size 1 u rfl (by exact cell_one1 _ _ _) (by omega) (by simp; omega) ?_; intro A7 c7 w7 ho hg; have HO7 := Lib.hid ho; have HB7 := Lib.hid ((HA.out _).grown hg (by simp; omega) (fun g e => (HO.out.lt g e).1)); have hs7 := HB7.out.size; have hc7 := (HB7.out.cell (p := ⟨b, o + k, none⟩) (by show b < w.heap.size; omega)).trans ((HB.out.cell (p := ⟨b, o + k, none⟩) (by show b < w.heap.size; omega)).symm.trans hc); have hbw7 : b < w7.heap.size := (by omega); have HA7 := Lib.hid (fun (o1 : Obj) => HB7.out.alloc hs7 o1); clear ho hg)
              | (at_builtin; refine wpList_append_i rfl _ _ rfl _ w.heap.size (.slice A7 (q + 1) c7) (q + 1) (acc ++ [u]) rfl (by exact HO7.out.alloc _) w7.heap.size 1 x rfl (by exact cell_one1 _ _ _) (by omega) (by simp; omega) ?_; intro A8 c8 w8 ho hg; have HO8 := Lib.hid ho; have HB8 := Lib.hid ((HA7.out _).grown hg (by simp; omega) (fun g e => (HO7.out.lt g e).1)); clear ho hg))
            go_roundw
            case rel => exact ⟨k + 1, true, A8, q + 1 + 1, c8, _, by omega, by first | rfl | go_num, rfl, rfl, (fun e => by cases e), by omega, HO8, HB8, HAC2⟩
            case measure => simp [intOf] <;> omega
          · have HAC2 := Lib.hid (show (acc ++ [x]) ++ putG u true (xs.drop (k + 1)) = putG u false xs by
              rw [← HAC.out, drop_one _ _ _ hx.out, putG, if_pos ⟨rfl, hux⟩, if_neg hlt2]; simp)
            clear hqf hq
            go_wp2_with (at_builtin; refine wpList_append_i rfl _ _ rfl _ w.heap.size (.slice A2 q c2) q acc rfl (by exact HO2.out _) wr.heap.size 1 x rfl (by exact cell_one1 _ _ _) (by omega) (by simp; omega) ?_; intro A7 c7 w7 ho hg; have HO7 := Lib.hid ho; have HB7 := Lib.hid ((HA.out _).grown hg (by simp; omega) (fun g e => (HO.out.lt g e).1)); clear ho hg)
            go_roundw
            case rel => exact ⟨k + 1, true, A7, q + 1, c7, _, by omega, by first | rfl | go_num, rfl, rfl, (fun e => by cases e), by omega, HO7, HB7, HAC2⟩
            case measure => simp [intOf] <;> omega
        · have HAC2 := Lib.hid (show (acc ++ [x]) ++ putG u false (xs.drop (k + 1)) = putG u false xs by
            rw [← HAC.out, drop_one _ _ _ hx.out]
            conv => rhs; rw [putG, if_neg (fun e => hux e.2)]
            simp)
          clear hqf hq
          go_wp2_with (at_builtin; refine wpList_append_i rfl _ _ rfl _ w.heap.size (.slice A2 q c2) q acc rfl (by exact HO2.out _) wr.heap.size 1 x rfl (by exact cell_one1 _ _ _) (by omega) (by simp; omega) ?_; intro A7 c7 w7 ho hg; have HO7 := Lib.hid ho; have HB7 := Lib.hid ((HA.out _).grown hg (by simp; omega) (fun g e => (HO.out.lt g e).1)); clear ho hg)
          go_roundw
          case rel => exact ⟨k + 1, false, A7, q + 1, c7, _, by omega, by first | rfl | go_num, rfl, rfl, (fun _ => by omega), by omega, HO7, HB7, HAC2⟩
          case measure => simp [intOf] <;> omega
      · have HAC2 := Lib.hid (show (acc ++ [x]) ++ putG u true (xs.drop (k + 1)) = putG u false xs by
          rw [← HAC.out, drop_one _ _ _ hx.out, putG_true, putG_true]; simp)
        clear hqf
        go_wp2_with (at_builtin; refine wpList_append_i rfl _ _ rfl _ w.heap.size (.slice A2 q c2) q acc rfl (by exact HO2.out _) wr.heap.size 1 x rfl (by exact cell_one1 _ _ _) (by omega) (by simp; omega) ?_; intro A7 c7 w7 ho hg; have HO7 := Lib.hid ho; have HB7 := Lib.hid ((HA.out _).grown hg (by simp; omega) (fun g e => (HO.out.lt g e).1)); clear ho hg)
        go_roundw
        case rel => exact ⟨k + 1, true, A7, q + 1, c7, _, by omega, by first | rfl | go_num, rfl, rfl, (fun e => by cases e), by omega, HO7, HB7, HAC2⟩
        case measure => simp [intOf] <;> omega
    · have hdk : xs.drop k = [] := List.drop_eq_nil_of_le (by rw [L.out]; omega)
      rcases d with _ | _
      · have HE := Lib.hid (show acc ++ [u] = putG u false xs by rw [← HAC.out, hdk]; rfl)
        clear hqf hdk
        go_wp2_with (at_builtin; refine wpList_append_i rfl _ _ rfl _ w.heap.size (.slice A2 q c2) q acc rfl (by exact HO2.out _) wr.heap.size 1 u rfl (by exact cell_one1 _ _ _) (by omega) (by simp; omega) ?_; intro A7 c7 w7 ho hg; rw [HE.out] at ho; have HO7 := Lib.hid ho; have HB7 := Lib.hid ((HA.out _).grown hg (by simp; omega) (fun g e => (HO.out.lt g e).1)); clear ho hg)
        go_ret
        exact ⟨A7, _, c7, rfl, HO7.out, HB7.out⟩
      · have HE := Lib.hid (show acc = putG u false xs by rw [← HAC.out, hdk]; simp [putG])
        clear hqf hdk
        go_wp2
        go_ret
        exact ⟨A2, q, c2, rfl, by rw [← HE.out]; exact HO.out, HB.out⟩
set_option maxRecDepth 100000 in
set_option maxHeartbeats 2000000 in
theorem l03Names_any (A : Option Addr) (n c : Nat) (es : List Tm) (w : World) (B : Nat) (h : TRow w B A es) (hB : B ≤ w.heap.size) (l : es.length = n) (m : n ≤ 2000000) :
    Calls Try.prog 52 #[.slice A n c] w fun e w' => RetN1 w (namesOf es) e w' := by
  have L := Lib.hid l
  have HM0 := Lib.hid (own_madeI w)
  have HA0 := Lib.hid ((Below.refl w.heap.size w).alloc (Nat.le_refl _) (.cells #[] 2))
  clear l
  go_enter Try.func52, Try.ntmps52
  go_wp2
  go_loopw [3, 4] (fun v i wr => ∃ (k : Nat) (A : Option Addr) (q c : Nat), k ≤ n ∧ i = .int .i64 (k : Int) ∧ v = .slice A q c ∧ Hid (wr.ownsRow w.heap.size 2 1 (.slice A q c) q ((namesOf (es.take k)).map (Value.int .i64))) ∧ Hid (Below w.heap.size w wr)) (fun _ i _ => n - (intOf i).toNat)
  case atStart => exact ⟨0, some ⟨w.heap.size, 0, none⟩, 0, 0, Nat.zero_le _, rfl, rfl, Lib.hid (by rw [List.take_zero]; exact HM0.out), HA0⟩
  case round =>
    obtain ⟨k, A2, q, c2, hk, rfl, rfl, HO, HB⟩ := hrel
    have hws := HB.out.size
    by_cases hlt : k < n
    · obtain ⟨b, o, t, rfl, hb, hc1, hc2, ht⟩ := (h.below (HB.out.mono hB)).at_ (k := k) (by rw [L.out]; exact hlt)
      have hbw : b < wr.heap.size := by omega
      by_cases hk1 : t.k = 1
      · have HV := Lib.hid (show namesOf (es.take (k + 1)) = putG t.v false (namesOf (es.take k)) by rw [take_one _ _ _ ht.out, namesOf_snoc, if_pos hk1])
        have hnl := namesOf_len (es.take k)
        rw [List.length_take] at hnl
        have CP := Lib.hid (l00Put_any A2 q c2 (namesOf (es.take k)) t.v wr wr.heap.size (Row.of_own HO.out) (Nat.le_refl _) (own_lenI HO.out) (by have := own_lenI HO.out; omega))
        rw [hk1] at hc1
        clear hk1 hnl
        go_wp2_with (go_at_call 75; refine (CP.out).mono ?_; rintro e w7 ⟨A7, n7, c7, rfl, ho7, hb7⟩; rw [← HV.out] at ho7; have HO7 := Lib.hid (own_lower ho7 hws); have HB7 := Lib.hid (HB.out.trans (hb7.mono hws)); clear ho7 hb7)
        go_roundw
        case rel => exact ⟨k + 1, A7, n7, c7, by omega, by first | rfl | go_num, rfl, HO7, HB7⟩
        case measure => simp [intOf] <;> omega
      · have HV := Lib.hid (show namesOf (es.take (k + 1)) = namesOf (es.take k) by rw [take_one _ _ _ ht.out, namesOf_snoc, if_neg hk1])
        go_wp2
        go_roundw
        case rel => exact ⟨k + 1, A2, q, c2, by omega, by first | rfl | go_num, rfl, by rw [HV.out]; exact HO, HB⟩
        case measure => simp [intOf] <;> omega
    · have htk : es.take k = es := List.take_of_length_le (by rw [L.out]; omega)
      have ho := HO.out
      rw [htk] at ho
      have HO3 := Lib.hid ho
      clear htk ho
      go_wp2
      go_ret
      exact ⟨A2, q, c2, rfl, HO3.out, HB.out⟩
set_option maxRecDepth 100000 in
set_option maxHeartbeats 1000000 in
theorem specVars_any (A : Option Addr) (n c : Nat) (es : List Tm) (w : World) (T : TypeId) (lo hi : Nat) (h : OwnV w lo hi T 2 A n c (tvs es)) (hB : hi ≤ w.heap.size) (l : es.length = n) (m : n ≤ 2000000) :
    Calls Try.prog 22 #[.slice A n c] w fun e w' => RetN2 w (varR es) e w' := by
  have hrow := h.trow.more hB
  clear h hB
  have C := Lib.hid (specAny_any A n c es w w.heap.size hrow l m)
  rcases hv : exB 29 60 es with _ | _
  · have H := Lib.hid (varR_no hv)
    have HV := Lib.hid hv
    clear hv l
    go_enter Try.func22, Try.ntmps22
    go_wp2_with (go_at_call 51; refine (C.out).mono ?_; rw [HV.out]; rintro e w' ⟨rfl, rfl⟩)
    go_ret2
    exact RetN2.nil H.out (Below.refl _ _)
  · have H := Lib.hid (varR_yes hv)
    have HV := Lib.hid hv
    have CN := Lib.hid (l03Names_any A n c es w w.heap.size hrow (Nat.le_refl _) l m)
    clear hv l hrow
    go_enter Try.func22, Try.ntmps22
    go_wp2_with (first
      | (go_at_call 51; refine (C.out).mono ?_; rw [HV.out]; rintro e w' ⟨rfl, rfl⟩)
      | (go_at_call 52; refine (CN.out).mono ?_; rintro e w2 ⟨A2, n2, c2, rfl, ho2, hb2⟩))
    go_ret2
    exact RetN2.mk' H.out ho2 hb2
end Go.Proofs.Ytkcbmblpalmmhaa
