/- The variables of an expression: the program's answer is that of the plain function. -/
import Derived.Test.YtfoopgnnhgdfaaaProg
import Derived.WalkKit
import Derived.ProofKit
import Derived.OwnWalk
import Derived.Outline
import Derived.Lib.Hide
import Derived.Test.YtfoopgnnhgdfaaaMem
import Derived.Test.YtfoopgnnhgdfaaaOwn
import Derived.Test.YtfoopgnnhgdfaaaTmM
import Derived.Test.YtfoopgnnhgdfaaaTmW
import Derived.Test.YtfoopgnnhgdfaaaTmI
import Derived.Test.YtfoopgnnhgdfaaaRet
import Derived.Test.YtfoopgnnhgdfaaaApp
import Derived.Test.YtfoopgnnhgdfaaaShift
import Derived.Test.YtfoopgnnhgdfaaaExM
import Derived.Test.YtfoopgnnhgdfaaaVarM
import Derived.Test.YtfoopgnnhgdfaaaVarW
namespace Go.Proofs.Ytfoopgnnhgdfaaa
open Go.RowKit
set_option maxRecDepth 100000 in
set_option maxHeartbeats 2000000 in
theorem usedVars_any (A : Option Addr) (n c : Nat) (es : List Tm) (w : World) (B : Nat) (h : TRow w B A es) (hB : B ≤ w.heap.size) (l : es.length = n) (m : n ≤ 2000000) :
    Calls Try.prog 76 #[.slice A n c] w fun e w' => RetN1 w (namesOf es) e w' := by
  have L := Lib.hid l
  clear l
  go_enter Try.func76, Try.ntmps76
  go_wp2
  go_loopw [3, 8] (fun v i wr => ∃ (k : Nat) (A : Option Addr) (q c : Nat), k ≤ n ∧ i = .int .i64 (k : Int) ∧ v = .slice A q c ∧ q ≤ k ∧ Hid (wr.ownsRow w.heap.size 2 1 (.slice A q c) q ((varsOf (es.take k)).map (Value.int .i64))) ∧ Hid (Below w.heap.size w wr)) (fun _ i _ => n - (intOf i).toNat)
  case atStart => exact ⟨0, none, 0, 0, Nat.zero_le _, rfl, rfl, Nat.le_refl _, Lib.hid (by rw [List.take_zero]; exact World.ownsRow_nil _ _ _ _), Lib.hid (Below.refl _ _)⟩
  case round =>
    obtain ⟨k, A2, q, c2, hk, rfl, rfl, hq, HO, HB⟩ := hrel
    have hws := HB.out.size
    by_cases hlt : k < n
    · obtain ⟨b, o, t, rfl, hb, hc1, hc2, ht⟩ := (h.below (HB.out.mono hB)).at_ (k := k) (by rw [L.out]; exact hlt)
      have hbw : b < wr.heap.size := by omega
      by_cases hk1 : t.k = 1
      · have HV := Lib.hid (show varsOf (es.take (k + 1)) = varsOf (es.take k) ++ [t.v] by rw [take_one _ _ _ ht.out, varsOf_snoc, if_pos hk1])
        have HA := Lib.hid (fun (o1 o2 : Obj) => ((Below.refl wr.heap.size wr).alloc (Nat.le_refl _) o1).alloc (by simp) o2)
        have HO2 := Lib.hid (fun (o1 o2 : Obj) => (HO.out.alloc o1).alloc o2)
        rw [hk1] at hc1
        clear hk1
        go_wp2_with (at_builtin; refine wpList_append_i rfl _ _ rfl _ w.heap.size (.slice A2 q c2) q (varsOf (es.take k)) rfl (by exact HO2.out _ _) (wr.heap.size + 1) 1 t.v rfl (by exact cell_one2 _ _ _ _) (by omega) (by simp; omega) ?_; intro A7 c7 w7 ho7 hg7; rw [← HV.out] at ho7; have HO7 := Lib.hid ho7; have HB7 := Lib.hid ((HB.out.trans ((HA.out _ _).mono hws)).grown hg7 (by simp; omega) (fun g e => (HO.out.lt g e).1)); clear ho7 hg7)
        go_roundw
        case rel => exact ⟨k + 1, A7, q + 1, c7, by omega, by first | rfl | go_num, rfl, by omega, HO7, HB7⟩
        case measure => simp [intOf] <;> omega
      · have HV := Lib.hid (show varsOf (es.take (k + 1)) = varsOf (es.take k) by rw [take_one _ _ _ ht.out, varsOf_snoc, if_neg hk1, List.append_nil])
        have HA := Lib.hid (fun (o1 : Obj) => HB.out.alloc hws o1)
        have HO2 := Lib.hid (fun (o1 : Obj) => HO.out.alloc o1)
        go_wp2
        go_roundw
        case rel => exact ⟨k + 1, A2, q, c2, by omega, by first | rfl | go_num, rfl, by omega, by rw [HV.out]; exact HO2.out _, HA.out _⟩
        case measure => simp [intOf] <;> omega
    · have htk : es.take k = es := List.take_of_length_le (by rw [L.out]; omega)
      have ho := HO.out
      rw [htk] at ho
      have CS := Lib.hid (sortedSet_any A2 q c2 (varsOf es) (namesOf es) wr w.heap.size ho (by omega) (names_sorted es))
      have HO3 := Lib.hid ho
      clear htk ho HO
      go_wp2_with (go_at_call 102; refine (CS.out).mono ?_; rintro e w6 ⟨k6, rfl, ho6, hg6⟩; have HO6 := Lib.hid ho6; have HB6 := Lib.hid (HB.out.grown hg6 hws (fun g e => (HO3.out.lt g e).1)); clear ho6 hg6)
      go_ret
      exact ⟨A2, k6, c2, rfl, HO6.out, HB6.out⟩
set_option maxRecDepth 100000 in
set_option maxHeartbeats 1000000 in
theorem implVars_any (A : Option Addr) (n c : Nat) (es : List Tm) (w : World) (T : TypeId) (lo hi : Nat) (h : OwnV w lo hi T 2 A n c (tvs es)) (hB : hi ≤ w.heap.size) (l : es.length = n) (m : n ≤ 2000000) :
    Calls Try.prog 31 #[.slice A n c] w fun e w' => RetN2 w (varR es) e w' := by
  have hrow := h.trow.more hB
  clear h hB
  have C := Lib.hid (isEx_any A n c es w w.heap.size hrow (Nat.le_refl _) l m)
  rcases hv : exB 29 60 es with _ | _
  · have H := Lib.hid (varR_no hv)
    have HV := Lib.hid hv
    clear hv l
    go_enter Try.func31, Try.ntmps31
    go_wp2_with (go_at_call 62; refine (C.out).mono ?_; rw [HV.out]; rintro e w1 ⟨rfl, hb⟩)
    go_ret2
    exact RetN2.nil H.out hb
  · have H := Lib.hid (varR_yes hv)
    have HV := Lib.hid hv
    have CB := Lib.hid (fun (w1 : World) (hb1 : Below w.heap.size w w1) => usedVars_any A n c es w1 w.heap.size (hrow.below hb1) hb1.size l m)
    clear hv l hrow
    go_enter Try.func31, Try.ntmps31
    go_wp2_with (first
      | (go_at_call 62; refine (C.out).mono ?_; rw [HV.out]; rintro e w1 ⟨rfl, hb⟩; have CB1 := Lib.hid (CB.out w1 hb); have HB := Lib.hid hb; clear hb)
      | (go_at_call 76; refine (CB1.out).mono ?_; rintro e w2 ⟨A2, n2, c2, rfl, ho2, hb2⟩; have HO2 := Lib.hid (own_lower ho2 HB.out.size); have HB2 := Lib.hid (HB.out.trans (hb2.mono HB.out.size)); clear ho2 hb2))
    go_ret2
    exact RetN2.mk' H.out HO2.out HB2.out
end Go.Proofs.Ytfoopgnnhgdfaaa
