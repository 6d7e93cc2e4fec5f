/- Evaluating an expression: whether all values are within bounds, and one operation's value, as the program computes them. -/
import Derived.Test.YtfoopgnnhgdfaaaProg
import Derived.WalkKit
import Derived.ProofKit
import Derived.BigQuiet
import Derived.Deep.QuietTactic
import Derived.Outline
import Derived.Lib.Hide
import Derived.Test.YtfoopgnnhgdfaaaMem
import Derived.Test.YtfoopgnnhgdfaaaTmM
import Derived.Test.YtfoopgnnhgdfaaaTmI
import Derived.Test.YtfoopgnnhgdfaaaOpr
import Derived.Test.YtfoopgnnhgdfaaaExM
import Derived.Test.YtfoopgnnhgdfaaaEvM
namespace Go.Proofs.Ytfoopgnnhgdfaaa
open Go.RowKit
/-- Where the first value outside bounds stands; -1 if there is none. -/
def IdxPost (vals : List Int) (w : World) (e : Ending) (w' : World) : Prop := ∃ r : Int, e = .returned (.int .i64 r) ∧ (dataB vals = true → r = -1) ∧ (dataB vals = false → 0 ≤ r) ∧ w = w'
set_option maxHeartbeats 1000000 in
theorem indexF_any (A : Option Addr) (n c : Nat) (vals : List Int) (w : World) (B : Nat) (h : IRow w B A vals) (l : vals.length = n) (m : n ≤ 2000000) :
    Calls Try.prog 93 #[.slice A n c, .func (.func 60) #[] #[]] w (IdxPost vals w) := by
  have L := Lib.hid l
  clear l
  go_enter Try.func93, Try.ntmps93
  go_wp2
  go_loop [8] (fun i => ∃ k : Nat, k ≤ n ∧ i = .int .i64 k ∧ Hid (∀ v ∈ vals.take k, 0 ≤ v ∧ v ≤ 63)) (fun i => n - (intOf i).toNat)
  case atStart => exact ⟨0, Nat.zero_le _, rfl, by rw [List.take_zero]; exact Lib.hid (by simp)⟩
  case round =>
    obtain ⟨k, hk, rfl, HS⟩ := hrel
    by_cases hlt : k < n
    · obtain ⟨b, o, u, rfl, hb, hc, hu⟩ := h.at_ (k := k) (by rw [L.out]; exact hlt)
      by_cases hd : 0 ≤ u ∧ u ≤ 63
      · have HN := Lib.hid (show ∀ v ∈ vals.take (k + 1), 0 ≤ v ∧ v ≤ 63 by
          rw [take_one _ _ _ hu.out]
          intro v hv
          rcases List.mem_append.1 hv with hv | hv
          · exact HS.out v hv
          · rw [List.mem_singleton] at hv; subst hv; exact hd)
        go_wp2_with (go_at_call 60; refine (outM_no _ hd _).mono ?_; rintro e w' ⟨rfl, rfl⟩)
        go_round
        case rel => exact ⟨k + 1, by omega, by go_num, HN⟩
        case measure => simp [intOf]; omega
      · have hd' : u < 0 ∨ 63 < u := by omega
        have H : IdxPost vals w (.returned (.int .i64 (k : Int))) w := by
          refine ⟨k, rfl, fun e => ?_, fun _ => by omega, rfl⟩
          rw [dataB_no hu.out hd'] at e; cases e
        clear hd
        go_wp2_with (go_at_call 60; refine (outM_yes _ hd' _).mono ?_; rintro e w' ⟨rfl, rfl⟩)
        go_ret
        exact H
    · have H : IdxPost vals w (.returned (.int .i64 (-1))) w := by
        have hA := dataB_all (vals := vals) (by have := HS.out; rwa [List.take_of_length_le (by rw [L.out]; omega)] at this)
        refine ⟨-1, rfl, fun _ => rfl, fun e => ?_, rfl⟩
        rw [hA] at e; cases e
      go_wp2
      go_ret
      exact H
theorem containsF_any (A : Option Addr) (n c : Nat) (vals : List Int) (w : World) (B : Nat) (h : IRow w B A vals) (l : vals.length = n) (m : n ≤ 2000000) :
    Calls Try.prog 59 #[.slice A n c, .func (.func 60) #[] #[]] w fun e w' => e = .returned (.bool (!dataB vals)) ∧ w = w' := by
  have C := Lib.hid (indexF_any A n c vals w B h l m)
  clear l
  rcases hd : dataB vals with _ | _
  · have HD := Lib.hid hd
    clear hd
    go_enter Try.func59, Try.ntmps59
    go_wp2_with (go_at_call 93; refine (C.out).mono ?_; rintro e w' ⟨r, rfl, _, h2, rfl⟩; have hr := h2 HD.out; clear h2)
    go_ret
    exact ⟨rfl, rfl⟩
  · have HD := Lib.hid hd
    clear hd
    go_enter Try.func59, Try.ntmps59
    go_wp2_with (go_at_call 93; refine (C.out).mono ?_; rintro e w' ⟨r, rfl, h1, _, rfl⟩; obtain rfl := h1 HD.out)
    go_ret
    exact ⟨rfl, rfl⟩
/-- One operation's value, from those of its operands. -/
def appV (vals : List Int) (t : Tm) (os : List Int) : Int :=
  if t.k = 0 then t.v else if t.k = 1 then vals.getD t.v.toNat 0 else if t.k = 3 then tr (os.getD 0 0 == 0) else opV t.v (os.getD 0 0) (os.getD 1 0)
theorem applyLeaf_any (t : Tm) (V : Option Addr) (nv cv : Nat) (vals : List Int) (O : Option Addr) (no co : Nat) (w : World) (B : Nat) (hv : IRow w B V vals) (lv : vals.length = nv) (_mv : nv ≤ 29) (hB : B ≤ w.heap.size) (ht : (t.k = 0 ∧ 0 ≤ t.v ∧ t.v ≤ 63) ∨ (t.k = 1 ∧ 0 ≤ t.v ∧ t.v < nv)) :
    Calls Try.prog 95 #[.slice V nv cv, .agg #[.int .i64 t.k, .int .i64 t.v], .slice O no co] w fun e w' => e = .returned (.int .i64 (evX vals (.leaf t))) ∧ Below w.heap.size w w' := by
  have HB := Lib.hid (fun o : Obj => (Below.refl w.heap.size w).alloc (Nat.le_refl _) o)
  have LV := Lib.hid lv
  clear lv
  obtain ⟨k, v⟩ := t
  simp only at ht ⊢
  rcases ht with ⟨h0, h1, h2⟩ | ⟨h0, h1, h2⟩
  · subst h0
    have H := Lib.hid (show evX vals (.leaf ⟨0, v⟩) = v from rfl)
    go_enter Try.func95, Try.ntmps95
    go_wp2
    go_ret
    exact ⟨ret_int H.out.symm, HB.out _⟩
  · subst h0
    obtain ⟨q, rfl⟩ : ∃ q : Nat, v = (q : Int) := ⟨v.toNat, by omega⟩
    have hql : q < nv := by omega
    obtain ⟨b2, o2, u, rfl, hb2, hcu, hu⟩ := hv.at_ (k := q) (by rw [LV.out]; exact hql)
    have H := Lib.hid (show evX vals (.leaf ⟨1, q⟩) = u by
      show vals.getD ((q : Int)).toNat 0 = u
      rw [Int.toNat_natCast, List.getD_eq_getElem?_getD, hu.out]; rfl)
    have hb3 : b2 < w.heap.size := by omega
    clear h1 h2
    go_enter Try.func95, Try.ntmps95
    go_wp2
    go_ret
    exact ⟨ret_int H.out.symm, HB.out _⟩
theorem applyOne_any (v : Int) (V : Option Addr) (nv cv : Nat) (b o no co : Nat) (a : Int) (w : World) (hc : w.cell? ⟨b, o, none⟩ = some (.int .i64 a)) (hn : 1 ≤ no) :
    Calls Try.prog 95 #[.slice V nv cv, .agg #[.int .i64 3, .int .i64 v], .slice (some ⟨b, o, none⟩) no co] w fun e w' => e = .returned (.int .i64 (tr (a == 0))) ∧ Below w.heap.size w w' := by
  have HB := Lib.hid (fun o : Obj => (Below.refl w.heap.size w).alloc (Nat.le_refl _) o)
  have hb3 := World.block_lt_of_cell? w _ hc
  simp only at hb3
  go_enter Try.func95, Try.ntmps95
  go_wp2_with (go_at_call 109; refine (truthV_any _ _).mono ?_; rintro e w' ⟨rfl, rfl⟩)
  go_ret
  exact ⟨rfl, HB.out _⟩
set_option maxRecDepth 100000 in
theorem applyTwo_any (v : Int) (V : Option Addr) (nv cv : Nat) (b : Nat) (x y : Int) (w : World) (hc : w.cell? ⟨b, 0, none⟩ = some (.int .i64 x)) (hc2 : w.cell? ⟨b, 1, none⟩ = some (.int .i64 y)) (hok : opOk v x y) :
    Calls Try.prog 95 #[.slice V nv cv, .agg #[.int .i64 2, .int .i64 v], .slice (some ⟨b, 0, none⟩) 2 2] w fun e w' => e = .returned (.int .i64 (opV v x y)) ∧ Below w.heap.size w w' := by
  have HB := Lib.hid (fun (o : Obj) (n : Nat) => ((Below.refl w.heap.size w).alloc (Nat.le_refl _) o).trans (below_drewN (w.alloc o) w.heap.size n))
  have hb3 := World.block_lt_of_cell? w _ hc
  simp only at hb3
  have HR := Lib.hid (opR_yes hok)
  have C := Lib.hid (fun W : World => implOperate_any v x y W)
  go_enter Try.func95, Try.ntmps95
  go_wp2
  go_quiet ((go_at_call 110; exact quiet_same (C.out _)))
  go_wp2
  go_ret
  exact ⟨by rw [HR.out]; rfl, HB.out _ _⟩
end Go.Proofs.Ytfoopgnnhgdfaaa
