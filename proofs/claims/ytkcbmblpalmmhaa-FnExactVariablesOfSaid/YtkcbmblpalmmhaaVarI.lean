/- The variables of an expression: the program's answer is that of the plain function. -/
import Derived.Test.YtkcbmblpalmmhaaProg
import Derived.WalkKit
import Derived.ProofKit
import Derived.OwnWalk
import Derived.Outline
import Derived.Lib.Hide
import Derived.Test.YtkcbmblpalmmhaaMem
import Derived.Test.YtkcbmblpalmmhaaOwn
import Derived.Test.YtkcbmblpalmmhaaTmM
import Derived.Test.YtkcbmblpalmmhaaTmW
import Derived.Test.YtkcbmblpalmmhaaTmI
import Derived.Test.YtkcbmblpalmmhaaRet
import Derived.Test.YtkcbmblpalmmhaaBuildT
import Derived.Test.YtkcbmblpalmmhaaApp
import Derived.Test.YtkcbmblpalmmhaaShift
import Derived.Test.YtkcbmblpalmmhaaExM
import Derived.Test.YtkcbmblpalmmhaaVarM
import Derived.Test.YtkcbmblpalmmhaaVarW
namespace Go.Proofs.Ytkcbmblpalmmhaa
open Go.RowKit
theorem tt_alloc {w1 : World} {B n c : Nat} {A : Option Addr} {es : List Tm} (h : TRow w1 B A es) (hB : B ≤ w1.heap.size) (l : es.length = n) (T : TypeId) : TTRow (w1.alloc (.cells #[.slice A n c] T)) (w1.heap.size + 1) (some ⟨w1.heap.size, 0, none⟩) [es] := by
  subst l
  refine ⟨[.slice A es.length c], fun _ => ⟨w1.heap.size, 0, rfl, Nat.lt_succ_self _, fun i v hv => ?_⟩, rfl, fun i xs hi => ?_⟩
  · match i, hv with
    | 0, hv =>
      simp at hv; subst hv
      have := cell_of_row (w1.alloc (.cells #[.slice A es.length c] T)) w1.heap.size 0 #[.slice A es.length c] T (0, 0) (heap_alloc_new w1 _)
      rw [this]; rfl
  · match i, hi with
    | 0, hi =>
      simp at hi; subst hi
      exact ⟨A, c, rfl, ((h.more hB).below ((Below.refl _ _).alloc (Nat.le_refl _) _)).more (Nat.le_succ _)⟩
theorem flat_take_le {α : Type} (l : List (List α)) (k : Nat) : ((l.take k).flatten).length ≤ l.flatten.length := by
  have h : l.flatten = (l.take k).flatten ++ (l.drop k).flatten := by rw [← List.flatten_append, List.take_append_drop]
  rw [h, List.length_append]; omega
set_option maxRecDepth 100000 in
set_option maxHeartbeats 2000000 in
theorem usedVars_any (A : Option Addr) (n c : Nat) (ess : List (List Tm)) (w : World) (B : Nat) (h : TTRow w B A ess) (hB : B ≤ w.heap.size) (l : ess.length = n) (m : n ≤ 2000000) (m2 : ess.flatten.length ≤ 2000000) :
    Calls Try.prog 53 #[.slice A n c] w fun e w' => RetN1 w (namesOf ess.flatten) e w' := by
  have L := Lib.hid l
  have M2 := Lib.hid m2
  clear l m2
  go_enter Try.func53, Try.ntmps53
  go_wp2
  go_loopw [3, 10] (fun v i wr => ∃ (k : Nat) (A : Option Addr) (q c : Nat), k ≤ n ∧ i = .int .i64 (k : Int) ∧ v = .slice A q c ∧ Hid (q ≤ ((ess.take k).flatten).length) ∧ Hid (wr.ownsRow w.heap.size 2 1 (.slice A q c) q ((varsOf (ess.take k).flatten).map (Value.int .i64))) ∧ Hid (Below w.heap.size w wr)) (fun _ i _ => n - (intOf i).toNat)
  case atStart => exact ⟨0, none, 0, 0, Nat.zero_le _, rfl, rfl, Lib.hid (Nat.zero_le _), Lib.hid (by rw [List.take_zero]; exact World.ownsRow_nil _ _ _ _), Lib.hid (Below.refl _ _)⟩
  case round =>
    obtain ⟨k, A2, q, c2, hk, rfl, rfl, HQ, HO, HB⟩ := hrel
    have hws := HB.out.size
    have HTK := Lib.hid (flat_take_le ess k)
    by_cases hlt : k < n
    · obtain ⟨b, o, A', c', es, rfl, hb, hc, hr, hx⟩ := (h.below (HB.out.mono hB)).at_ (k := k) (by rw [L.out]; exact hlt)
      have hbw : b < wr.heap.size := by omega
      obtain ⟨n', hn'⟩ : ∃ n', n' = es.length := ⟨_, rfl⟩
      have HF := Lib.hid (show (ess.take (k + 1)).flatten = (ess.take k).flatten ++ es by rw [take_one _ _ _ hx.out, List.flatten_append]; simp)
      obtain ⟨P, hP⟩ : ∃ P, P = (ess.take k).flatten := ⟨_, rfl⟩
      have HT := Lib.hid (show P.length + n' ≤ 2000000 by
        have h1 := flat_take_le ess (k + 1)
        have h2 := M2.out
        rw [HF.out, List.length_append, ← hP, ← hn'] at h1
        omega)
      have hT := HT.out
      rw [← hn'] at hc
      rw [← hP] at HF HQ HO
      have HN := Lib.hid hn'
      clear hn' hP HTK
      obtain ⟨wo, rfl⟩ : ∃ wo, wo = wr := ⟨_, rfl⟩
      have hHQ := HQ.out
      go_wp2
      go_loopw [3, 16] (fun v i wr => ∃ (j : Nat) (A : Option Addr) (q c : Nat), j ≤ n' ∧ i = .int .i64 (j : Int) ∧ v = .slice A q c ∧ q ≤ P.length + j ∧ Hid (wr.ownsRow w.heap.size 2 1 (.slice A q c) q ((varsOf (P ++ es.take j)).map (Value.int .i64))) ∧ Hid (Below w.heap.size wo wr)) (fun _ i _ => n' - (intOf i).toNat)
      case atStart => exact ⟨0, A2, q, c2, Nat.zero_le _, rfl, rfl, by omega, Lib.hid (by rw [List.take_zero, List.append_nil]; exact HO.out), Lib.hid (Below.refl _ _)⟩
      case round =>
        clear HO HQ hHQ
        obtain ⟨j, A3, q3, c3, hj, rfl, rfl, hq, HO, HD⟩ := hrel
        have hwd := HD.out.size
        have hws2 : w.heap.size ≤ wr.heap.size := Nat.le_trans hws hwd
        by_cases hlt2 : j < n'
        · obtain ⟨b2, o2, t, rfl, hb2, hc1, hc2, ht⟩ := (hr.below (HD.out.mono hB)).at_ (k := j) (by rw [← HN.out]; exact hlt2)
          have hbw2 : b2 < wr.heap.size := by omega
          by_cases hk1 : t.k = 1
          · have HV := Lib.hid (show varsOf (P ++ es.take (j + 1)) = varsOf (P ++ es.take j) ++ [t.v] by rw [take_one _ _ _ ht.out, ← List.append_assoc, varsOf_snoc, if_pos hk1])
            have HA := Lib.hid (fun (o1 o2 : Obj) => ((Below.refl wr.heap.size wr).alloc (Nat.le_refl _) o1).alloc (by simp) o2)
            have HO2 := Lib.hid (fun (o1 o2 : Obj) => (HO.out.alloc o1).alloc o2)
            rw [hk1] at hc1
            clear hk1
            go_wp2_with (at_builtin; refine wpList_append_i rfl _ _ rfl _ w.heap.size (.slice A3 q3 c3) q3 (varsOf (P ++ es.take j)) rfl (by exact HO2.out _ _) (wr.heap.size + 1) 1 t.v rfl (by exact cell_one2 _ _ _ _) (by omega) (by simp; omega) ?_; intro A7 c7 w7 ho7 hg7; rw [← HV.out] at ho7; have HO7 := Lib.hid ho7; have HB7 := Lib.hid ((HD.out.trans ((HA.out _ _).mono hws2)).grown hg7 (by simp; omega) (fun g e => (HO.out.lt g e).1)); clear ho7 hg7)
            go_roundw
            case rel => exact ⟨j + 1, A7, q3 + 1, c7, by omega, by first | rfl | go_num, rfl, by omega, HO7, HB7⟩
            case measure => simp [intOf] <;> omega
          · have HV := Lib.hid (show varsOf (P ++ es.take (j + 1)) = varsOf (P ++ es.take j) by rw [take_one _ _ _ ht.out, ← List.append_assoc, varsOf_snoc, if_neg hk1, List.append_nil])
            have HA := Lib.hid (fun (o1 : Obj) => HD.out.alloc hws2 o1)
            have HO2 := Lib.hid (fun (o1 : Obj) => HO.out.alloc o1)
            go_wp2
            go_roundw
            case rel => exact ⟨j + 1, A3, q3, c3, by omega, by first | rfl | go_num, rfl, by omega, by rw [HV.out]; exact HO2.out _, HA.out _⟩
            case measure => simp [intOf] <;> omega
        · obtain rfl : j = n' := by omega
          have HE := Lib.hid (show P ++ es.take j = (ess.take (k + 1)).flatten by rw [HF.out, List.take_of_length_le (by rw [HN.out]; exact Nat.le_refl _)])
          have HQ2 := Lib.hid (show q3 ≤ ((ess.take (k + 1)).flatten).length by rw [← HE.out, List.length_append, List.length_take, HN.out]; rw [HN.out] at hq; omega)
          go_wp2
          go_roundw
          case rel => exact ⟨k + 1, A3, q3, c3, by omega, by first | rfl | go_num, rfl, HQ2, by rw [← HE.out]; exact HO, Lib.hid (HB.out.trans HD.out)⟩
          case measure => simp [intOf] <;> omega
    · have htk : ess.take k = ess := List.take_of_length_le (by rw [L.out]; omega)
      have ho := HO.out
      rw [htk] at ho
      have hq1 : q ≤ 2000000 := by have h1 := HQ.out; rw [htk] at h1; have h2 := M2.out; omega
      have CS := Lib.hid (sortedSet_any A2 q c2 (varsOf ess.flatten) (namesOf ess.flatten) wr w.heap.size ho hq1 (names_sorted ess.flatten))
      have HO3 := Lib.hid ho
      clear htk ho HO HQ HTK
      go_wp2_with (go_at_call 76; refine (CS.out).mono ?_; rintro e w6 ⟨k6, rfl, ho6, hg6⟩; have HO6 := Lib.hid ho6; have HB6 := Lib.hid (HB.out.grown hg6 hws (fun g e => (HO3.out.lt g e).1)); clear ho6 hg6)
      go_ret
      exact ⟨A2, k6, c2, rfl, HO6.out, HB6.out⟩
set_option maxRecDepth 100000 in
set_option maxHeartbeats 1000000 in
theorem implVars_any (A : Option Addr) (n c : Nat) (es : List Tm) (w : World) (T : TypeId) (lo hi : Nat) (h : OwnV w lo hi T 2 A n c (tvs es)) (hB : hi ≤ w.heap.size) (l : es.length = n) (m : n ≤ 2000000) :
    Calls Try.prog 23 #[.slice A n c] w fun e w' => RetN2 w (varR es) e w' := by
  have hrow := h.trow.more hB
  clear h hB
  have C := Lib.hid (isEx_any A n c es w w.heap.size hrow (Nat.le_refl _) l m)
  rcases hv : exB 29 60 es with _ | _
  · have H := Lib.hid (varR_no hv)
    have HV := Lib.hid hv
    clear hv l
    go_enter Try.func23, Try.ntmps23
    go_wp2_with (go_at_call 44; refine (C.out).mono ?_; rw [HV.out]; rintro e w1 ⟨rfl, hb⟩)
    go_ret2
    exact RetN2.nil H.out hb
  · have H := Lib.hid (varR_yes hv)
    have HV := Lib.hid hv
    have hn60 : n ≤ 60 := by have := (exB_scan hv).2; omega
    have CB := Lib.hid (fun (w1 : World) (hb1 : Below w.heap.size w w1) => usedVars_any (some ⟨w1.heap.size, 0, none⟩) 1 1 [es] (w1.alloc (.cells #[.slice A n c] 24)) (w1.heap.size + 1) (tt_alloc (hrow.below hb1) hb1.size l _) (by simp) rfl (by omega) (by simp; omega))
    have HS1 := Lib.hid (show namesOf [es].flatten = namesOf es by simp)
    have HBA := Lib.hid (fun (w1 : World) (hb1 : Below w.heap.size w w1) (o : Obj) => hb1.alloc hb1.size o)
    clear hv l hrow hn60
    go_enter Try.func23, Try.ntmps23
    go_wp2_with (first
      | (go_at_call 44; refine (C.out).mono ?_; rw [HV.out]; rintro e w1 ⟨rfl, hb⟩; have CB1 := Lib.hid (CB.out w1 hb); have HB := Lib.hid hb; clear hb)
      | (go_at_call 53; refine (CB1.out).mono ?_; rintro e w2 ⟨A2, n2, c2, rfl, ho2, hb2⟩; rw [HS1.out] at ho2; have HO2 := Lib.hid (own_lower ho2 (HBA.out w1 HB.out _).size); have HB2 := Lib.hid ((HBA.out w1 HB.out _).trans (hb2.mono (HBA.out w1 HB.out _).size)); clear ho2 hb2))
    go_ret2
    exact RetN2.mk' H.out HO2.out HB2.out
end Go.Proofs.Ytkcbmblpalmmhaa
