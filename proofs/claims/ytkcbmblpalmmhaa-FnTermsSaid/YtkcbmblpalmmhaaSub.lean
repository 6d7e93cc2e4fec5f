/- Replacing a variable by an expression: the model's and the program's answers are those of one plain function. -/
import Derived.Test.YtkcbmblpalmmhaaProg
import Derived.WalkKit
import Derived.ProofKit
import Derived.Outline
import Derived.Laws.StructEq
import Derived.Lib.Hide
import Derived.Test.YtkcbmblpalmmhaaMem
import Derived.Test.YtkcbmblpalmmhaaOwn
import Derived.Test.YtkcbmblpalmmhaaL00
import Derived.Test.YtkcbmblpalmmhaaTmM
import Derived.Test.YtkcbmblpalmmhaaTmW
import Derived.Test.YtkcbmblpalmmhaaTmV
import Derived.Test.YtkcbmblpalmmhaaTmI
import Derived.Test.YtkcbmblpalmmhaaRet
import Derived.Test.YtkcbmblpalmmhaaApp
import Derived.Test.YtkcbmblpalmmhaaShift
import Derived.Test.YtkcbmblpalmmhaaSubM
namespace Go.Proofs.Ytkcbmblpalmmhaa
open Go.RowKit
set_option maxRecDepth 100000 in
theorem eql_tm (a b c d : Int) (w : World) : (binOp .eql 68 (.agg #[.int .i64 a, .int .i64 b]) (.agg #[.int .i64 c, .int .i64 d])).run Try.prog w = .ok (.bool (a == c && b == d)) w := by
  rw [run_eql_struct, run_equalIn_agg w 9999 68 _ _ (by kernel_rfl) (by kernel_rfl)]
  rcases h1 : (a == c) with _ | _ <;> rcases h2 : (b == d) with _ | _ <;> simp [go_sem, h1, h2, Try.underlying68, Try.underlying2]
set_option maxRecDepth 100000 in
set_option maxHeartbeats 4000000 in
theorem implSub_any (A1 A2 : Option Addr) (n1 n2 c1 c2 : Nat) (es by_ : List Tm) (k0 : Int) (w : World) (B1 B2 : Nat) (h : TRow w B1 A1 es) (hB1 : B1 ≤ w.heap.size) (l1 : es.length = n1) (m1 : n1 ≤ 2000000) (h2 : TRow w B2 A2 by_) (hB2 : B2 ≤ w.heap.size) (l2 : by_.length = n2) (m2 : n2 ≤ 2000000) :
    Calls Try.prog 16 #[.slice A1 n1 c1, .int .i64 k0, .slice A2 n2 c2] w fun e w' => RetT2 w (subR es k0 by_) e w' := by
  have C1 := Lib.hid (isEx_any A1 n1 c1 es w B1 h hB1 l1 m1)
  have C2 := Lib.hid (fun wx (hb : Below w.heap.size w wx) => isEx_any A2 n2 c2 by_ wx B2 (h2.below (hb.mono hB2)) (Nat.le_trans hB2 hb.size) l2 m2)
  rcases hv : exB 29 60 es with _ | _
  · have H := Lib.hid (subR_bad (k := k0) (by_ := by_) (.inl hv))
    have HV := Lib.hid hv
    clear hv l1 l2
    go_enter Try.func16, Try.ntmps16
    go_wp2_with fail
    refine (C1.out).mono ?_
    rw [HV.out]
    rintro e w1 ⟨rfl, hb⟩
    go_wp2
    go_ret2
    exact RetT2.nil H.out hb
  rcases hv2 : exB 29 60 by_ with _ | _
  · have H := Lib.hid (subR_bad (es := es) (k := k0) (.inr hv2))
    have HV := Lib.hid hv
    have HV2 := Lib.hid hv2
    clear hv hv2 l1 l2
    go_enter Try.func16, Try.ntmps16
    go_wp2_with fail
    refine (C1.out).mono ?_
    rw [HV.out]
    rintro e w1 ⟨rfl, hb⟩
    go_wp2_with fail
    refine (C2.out _ hb).mono ?_
    rw [HV2.out]
    rintro e w2 ⟨rfl, hb2⟩
    go_wp2
    go_ret2
    exact RetT2.nil H.out (hb.trans (hb2.mono hb.size))
  have HV := Lib.hid hv
  have HV2 := Lib.hid hv2
  have hn1 : n1 ≤ 60 := by have := exB_len hv; omega
  have hn2 : n2 ≤ 60 := by have := exB_len hv2; omega
  by_cases hk1 : k0 < 0
  · have H := Lib.hid (subR_far hv hv2 (k := k0) (by omega))
    clear hv hv2 l1 l2
    go_enter Try.func16, Try.ntmps16
    go_wp2_with fail
    refine (C1.out).mono ?_
    rw [HV.out]
    rintro e w1 ⟨rfl, hb⟩
    go_wp2_with fail
    refine (C2.out _ hb).mono ?_
    rw [HV2.out]
    rintro e w2 ⟨rfl, hb2⟩
    go_wp2
    go_ret2
    exact RetT2.nil H.out (hb.trans (hb2.mono hb.size))
  by_cases hk2 : 29 ≤ k0
  · have H := Lib.hid (subR_far hv hv2 (k := k0) (by omega))
    clear hv hv2 l1 l2
    go_enter Try.func16, Try.ntmps16
    go_wp2_with fail
    refine (C1.out).mono ?_
    rw [HV.out]
    rintro e w1 ⟨rfl, hb⟩
    go_wp2_with fail
    refine (C2.out _ hb).mono ?_
    rw [HV2.out]
    rintro e w2 ⟨rfl, hb2⟩
    go_wp2
    go_ret2
    exact RetT2.nil H.out (hb.trans (hb2.mono hb.size))
  have HK := Lib.hid (show 0 ≤ k0 ∧ k0 ≤ 28 by omega)
  have L1 := Lib.hid l1
  have L2 := Lib.hid l2
  have HLE := Lib.hid (fun i => putL_len' (k := k0) (by_ := by_) (es := es) (i := i) (by omega) (by omega))
  have heq := fun (a b : Int) (w : World) => eql_tm a b 1 k0 w
  clear hv hv2 l1 l2
  go_enter Try.func16, Try.ntmps16
  go_wp2_with fail
  refine (C1.out).mono ?_
  rw [HV.out]
  rintro e w1 ⟨rfl, hb⟩
  go_wp2_with fail
  refine (C2.out _ hb).mono ?_
  rw [HV2.out]
  rintro e w2 ⟨rfl, hb2⟩
  have hb0 := hb.trans (hb2.mono hb.size)
  clear hb hb2 C1 C2
  go_wp2
  go_loopw [8, 27] (fun v i wr => ∃ (k : Nat) (A : Option Addr) (m c : Nat), k ≤ n1 ∧ i = .int .i64 k ∧ v = .slice A m c ∧ m ≤ 3600 ∧ wr.ownsRow w.heap.size 68 2 (.slice A m c) m (tvs (putL k0 by_ (es.take k))) ∧ Below w.heap.size w wr) (fun _ i _ => n1 - (intOf i).toNat)
  case atStart => exact ⟨0, none, 0, 0, Nat.zero_le _, rfl, rfl, by omega, World.ownsRow_nil _ _ _ _, hb0⟩
  case round =>
    obtain ⟨k, A, m, c, hk, rfl, rfl, hm, hown, hbel⟩ := hrel
    clear hb0
    by_cases hlt : k < n1
    · obtain ⟨b, o, t, rfl, hbB, hc1, hc2, ht⟩ := (h.below (hbel.mono hB1)).at_ (k := k) (by rw [L1.out]; exact hlt)
      have HR2 := Lib.hid (h2.below (hbel.mono hB2))
      have HSN := Lib.hid (putL_snoc (k := k0) (by_ := by_) ht.out)
      have HL := Lib.hid (show (putL k0 by_ (es.take (k + 1))).length ≤ 3600 from HLE.out _)
      have hws := hbel.size
      have HO := Lib.hid hown
      have HB := Lib.hid hbel
      clear hown hbel
      by_cases hy : t.k = 1 ∧ t.v = k0
      · have HP := Lib.hid (putT_yes (by_ := by_) hy.1 hy.2)
        have h1 : (t.k == 1) = true := by simpa using hy.1
        have h3 : (t.v == k0) = true := by simpa using hy.2
        clear hy
        go_wp2_with (at_builtin; refine wpList_append_tms rfl _ _ rfl _ w.heap.size B2 (.slice A m c) m (putL k0 by_ (es.take k)) rfl (by exact HO.out.alloc _) A2 n2 c2 by_ rfl (by exact HR2.out.below ((Below.refl _ _).alloc (by omega) _)) L2.out (by omega) (by simp; omega) ?_; intro A' c' w' ho hg; have HO2 := Lib.hid ho; have HG := Lib.hid hg; clear ho hg)
        go_roundw
        case rel =>
          have e := HSN.out
          rw [HP.out] at e
          refine ⟨k + 1, A', _, c', by omega, by go_num, rfl, ?_, by rw [e]; exact HO2.out, (HB.out.alloc hws _).grown HG.out (by simp; omega) (fun g e => (HO.out.lt g e).1)⟩
          have := HO2.out.1
          rw [← e, tvs_length] at this
          have := HL.out
          omega
        case measure => simp [intOf]; omega
      · have HP := Lib.hid (show putT k0 by_ t = [t] by unfold putT; rw [if_neg hy])
        have hz : (t.k == 1 && t.v == k0) = false := by
          rcases e : (t.k == 1 && t.v == k0) with _ | _
          · rfl
          · rw [Bool.and_eq_true] at e
            exact absurd ⟨by simpa using e.1, by simpa using e.2⟩ hy
        clear hy
        go_wp2_with (at_builtin; refine wpList_append_tms rfl _ _ rfl _ w.heap.size (wr.heap.size + 1 + 1) (.slice A m c) m (putL k0 by_ (es.take k)) rfl (by exact (HO.out.alloc _).alloc _) (some ⟨wr.heap.size + 1, 0, none⟩) 1 1 [t] rfl (by have := trow_one (wr.alloc (.cells #[.int .i64 t.k, .int .i64 t.v] 68)) t 68; simpa using this) rfl (by omega) (by simp; omega) ?_; intro A' c' w' ho hg; have HO2 := Lib.hid ho; have HG := Lib.hid hg; clear ho hg)
        go_roundw
        case rel =>
          have e := HSN.out
          rw [HP.out] at e
          refine ⟨k + 1, A', _, c', by omega, by go_num, rfl, ?_, by rw [e]; exact HO2.out, ((HB.out.alloc hws _).alloc (by simp; omega) _).grown HG.out (by simp; omega) (fun g e => (HO.out.lt g e).1)⟩
          have := HO2.out.1
          rw [← e, tvs_length] at this
          have := HL.out
          omega
        case measure => simp [intOf]; omega
    · have HA := Lib.hid (show es.take k = es from List.take_of_length_le (by rw [L1.out]; omega))
      have hown' := hown
      rw [HA.out] at hown'
      have hml : (putL k0 by_ es).length = m := by have := hown'.1; rw [tvs_length] at this; omega
      by_cases hl : 60 < m
      · have H := Lib.hid (subR_full HV.out HV2.out HK.out (by rw [hml]; exact hl))
        have hl' : (60 : Int) < (m : Int) := by omega
        clear hml hl hown hown'
        go_wp2
        go_ret2
        exact RetT2.nil H.out hbel
      · have H := Lib.hid (subR_yes HV.out HV2.out HK.out (by rw [hml]; exact hl))
        have hl' : ¬ (60 : Int) < (m : Int) := by omega
        have HO := Lib.hid hown'
        clear hml hl hown hown'
        go_wp2
        go_ret2
        exact RetT2.mk' H.out HO.out hbel
theorem implSub_law (A1 : Option Addr) (n1 c1 : Nat) (es : List Tm) (k0 : Int) (A2 : Option Addr) (n2 c2 : Nat) (by_ : List Tm) (w : World) (B1 : Nat) (h : TRow w B1 A1 es) (hB1 : B1 ≤ w.heap.size) (l1 : es.length = n1) (m1 : n1 ≤ 2000000) (B2 : Nat) (h2 : TRow w B2 A2 by_) (hB2 : B2 ≤ w.heap.size) (l2 : by_.length = n2) (m2 : n2 ≤ 2000000) :
    Calls Try.prog 16 #[.slice A1 n1 c1, .int .i64 k0, .slice A2 n2 c2] w fun e w' => RetT2 w (subR es k0 by_) e w' :=
  implSub_any A1 A2 n1 n2 c1 c2 es by_ k0 w B1 B2 h hB1 l1 m1 h2 hB2 l2 m2
end Go.Proofs.Ytkcbmblpalmmhaa
