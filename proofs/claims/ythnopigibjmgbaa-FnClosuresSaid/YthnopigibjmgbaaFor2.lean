/- Forests of parents: a new one, its partition; the model's merging of two classes. -/
import Derived.Test.YthnopigibjmgbaaProg
import Derived.WalkKit
import Derived.ProofKit
import Derived.BigQuiet
import Derived.Outline
import Derived.IntWalk
import Derived.StillTailTactics
import Derived.OneCell
import Derived.Test.YthnopigibjmgbaaMem
import Derived.Test.YthnopigibjmgbaaOwn
import Derived.Test.YthnopigibjmgbaaTurn
import Derived.Test.YthnopigibjmgbaaLawI
import Derived.Test.YthnopigibjmgbaaLawI2
import Derived.Test.YthnopigibjmgbaaPartM
import Derived.Test.YthnopigibjmgbaaPart
import Derived.Test.YthnopigibjmgbaaPart2
import Derived.Test.YthnopigibjmgbaaPart3
import Derived.Test.YthnopigibjmgbaaForM
import Derived.Test.YthnopigibjmgbaaFor
namespace Go.Proofs.Ythnopigibjmgbaa
open Go.RowKit
theorem zeros_of {w' : World} {lo g n : Nat} (h : w'.ownsRow lo 2 1 (.slice (some ⟨g, 0, none⟩) n n) n (madeCells (Value.int .i64 0).cells (n * 1)).toList) (ys : List Int) :
    w'.ownsRow lo 2 1 (.slice (some ⟨g, 0, none⟩) n n) n ((ys.map (Value.int .i64)).take 0 ++ List.replicate (n - 0) (.int .i64 0)) := by
  have e := toList_madeCells_one (.int .i64 0) n
  have e2 : (Value.int .i64 0).cells = #[.int .i64 0] := rfl
  rw [e2, Nat.mul_one, e] at h
  simpa using h
theorem own_old {w : World} {lo g n : Nat} {vs : List Value} (h : w.ownsRow lo 2 1 (.slice (some ⟨g, 0, none⟩) n n) n vs) {k : Nat} (hk : k < n) : (∃ old, w.cell? ⟨g, k, none⟩ = some old) ∧ w.frozen? ⟨g, k, none⟩ = false := own_some h (by omega)
theorem Forest.below_cell {w : World} {lo n fb g b o : Nat} {R d : Nat → Nat} {v : Value} (h : Forest w lo n fb g R d) (h1 : b ≠ g) (h2 : b ≠ fb) : Forest (w.setCell ⟨b, o, none⟩ v) lo n fb g R d := by
  obtain ⟨hne, hcf, ps, hps, hrow⟩ := h
  exact ⟨hne, (World.cell?_setCell_other _ _ _ _ (by intro h; injection h with h; exact h2 (by omega))).trans hcf, ps, hps, ownsRow_setCell_other hrow (a := ⟨b, o, none⟩) (by simp [Value.ownBlock]; omega) v⟩
def RetForest (w : World) (n : Nat) (e : Ending) (w' : World) : Prop := ∃ fb, e = .returned (.pointer (some ⟨fb, 0, none⟩)) ∧ Forest w' w.heap.size n fb w.heap.size (fun i => i) (fun _ => 0) ∧ Below w.heap.size w w'
set_option maxHeartbeats 2000000 in
set_option maxRecDepth 100000 in
theorem newForest_any (n : Nat) (w : World) (hn : n ≤ 2000000) :
    Calls Try.prog 63 #[.int .i64 n] w fun e w' => RetForest w n e w' := by
  obtain ⟨i0, hi, hz0, hz1, hz2⟩ := info_parts info_i64
  go_enter Try.func63, Try.ntmps63
  go_wp2_with (at_make; refine wpList_make_full _ rfl _ _ _ rfl w.heap.size 2 i0 (.int .i64 0) 1 Try.underlying30 hi hz0 hz1 .i64 .i64 _ _ n rfl rfl rfl rfl (by rw [hz2]; omega) (by unfold maxLen; omega) (Nat.le_refl _) ?_; intro w1 hown1 hg1)
  have H0 := Lib.hid (zeros_of hown1 (upN n))
  have hb1 : Below w.heap.size w w1 := (Below.refl _ _).grown hg1 (Nat.le_refl _) (by simp)
  have HNL := Lib.hid (upN_length n)
  clear hown1 hg1 hi hz0 hz1 hz2
  go_loopw [9] (fun i wr => ∃ k : Nat, k ≤ n ∧ i = .int .i64 k ∧ Below w.heap.size w wr ∧ wr.ownsRow w.heap.size 2 1 (.slice (some ⟨w.heap.size, 0, none⟩) n n) n (((upN n).map (Value.int .i64)).take k ++ List.replicate (n - k) (.int .i64 0))) (fun i _ => n - (intOf i).toNat)
  case atStart => exact ⟨0, Nat.zero_le _, rfl, hb1, H0.out⟩
  case round =>
    obtain ⟨k, hk, rfl, hb, hown⟩ := hrel
    clear H0 hb1
    by_cases hlt : k < n
    · obtain ⟨⟨old, hx⟩, hf⟩ := own_old hown hlt
      have HO := Lib.hid hown
      have HB := Lib.hid hb
      have HU := Lib.hid (upN_at hlt)
      clear hown hb
      go_wp2
      go_roundw
      case rel => exact ⟨k + 1, by omega, by go_num, HB.out.setCell (Nat.le_refl _) _, by
        have := (HO.out.stored k (.int .i64 k)).1
        rwa [upd_take _ _ _ _ _ (by rw [List.length_map]; exact HNL.out) (by rw [List.getElem?_map, HU.out]; rfl)] at this⟩
      case measure => simp [intOf]; omega
    · obtain rfl : k = n := by omega
      have HO := Lib.hid (show wr.ownsRow w.heap.size 2 1 (.slice (some ⟨w.heap.size, 0, none⟩) k k) k ((upN k).map (Value.int .i64)) from by simpa [List.take_of_length_le, HNL.out] using hown)
      have HB := Lib.hid hb
      have hlt := (hown.lt w.heap.size rfl).2
      have H : RetForest w k (.returned (.pointer (some ⟨wr.heap.size, 0, none⟩))) (wr.alloc (.cells #[.slice (some ⟨w.heap.size, 0, none⟩) k k] 85)) := by
        refine ⟨_, rfl, ⟨by omega, ?_, upN k, Par.new k, HO.out.alloc _⟩, HB.out.alloc (by omega) _⟩
        rw [cell_of_row _ _ 0 _ _ (0, 0) (heap_alloc_new wr _)]; rfl
      clear hown hb
      go_wp2
      go_ret
      exact H
def rootsL (n : Nat) (R : Nat → Nat) : List Int := (List.range n).map fun (i : Nat) => (R i : Int)
theorem rootsL_length (n : Nat) (R : Nat → Nat) : (rootsL n R).length = n := by simp [rootsL]
theorem rootsL_at {n i : Nat} {R : Nat → Nat} (h : i < n) : (rootsL n R)[i]? = some (R i : Int) := by simp [rootsL, h]
theorem rootsL_wf {n : Nat} {R : Nat → Nat} (h : ∀ i, i < n → R i ≤ 2000000) : ∀ x ∈ rootsL n R, (Lit.int .i64 x).wf = true := by
  intro x hx
  simp only [rootsL, List.mem_map, List.mem_range] at hx
  obtain ⟨i, hi, rfl⟩ := hx
  exact wf_small _ (h i hi)
/-- A row of numbers that the call has made. -/
def RetRow (w : World) (lo n : Nat) (xs : List Int) (e : Ending) (w' : World) : Prop := ∃ A c, e = .returned (.slice A n c) ∧ w'.ownsRow w.heap.size 2 1 (.slice A n c) n (xs.map (Value.int .i64)) ∧ Below lo w w'
theorem own_base' {w : World} {lo lo' : Nat} {T : TypeId} {s n : Nat} {v : Value} {vs : List Value} (h : w.ownsRow lo T s v n vs) (h1 : lo' ≤ lo) : w.ownsRow lo' T s v n vs := by
  refine ⟨h.1, ?_⟩
  rcases h.2 with hn | ⟨g, cap, cur, e, hb, rest⟩
  · exact .inl hn
  · exact .inr ⟨g, cap, cur, e, Nat.le_trans h1 hb, rest⟩
set_option maxHeartbeats 2000000 in
set_option maxRecDepth 100000 in
theorem partition_any (lo n fb g : Nat) (R d : Nat → Nat) (w : World) (h : Forest w lo n fb g R d) (hn : n ≤ 2000000) (hlo : lo ≤ w.heap.size) :
    Calls Try.prog 65 #[.pointer (some ⟨fb, 0, none⟩)] w fun e w' => RetRow w lo n (normL (rootsL n R)) e w' := by
  obtain ⟨i0, hi, hz0, hz1, hz2⟩ := info_parts info_i64
  have hcf := h.2.1
  have F0 := Lib.hid h
  have hgl : lo ≤ g ∧ g < w.heap.size := by obtain ⟨_, _, ps, _, hrow⟩ := h; exact hrow.lt g rfl
  have hfbl : fb < w.heap.size := World.block_lt_of_cell? w _ hcf
  have HRT := Lib.hid (fun (i : Nat) (hi : i < n) => h.root_lt hi)
  clear h
  go_enter Try.func65, Try.ntmps65
  go_wp2_with (at_make; refine wpList_make_full _ rfl _ _ _ rfl w.heap.size 2 i0 (.int .i64 0) 1 Try.underlying30 hi hz0 hz1 .i64 .i64 _ _ n rfl rfl rfl rfl (by rw [hz2]; omega) (by unfold maxLen; omega) (Nat.le_refl _) ?_; intro w1 hown1 hg1)
  have H0 := Lib.hid (zeros_of hown1 (rootsL n R))
  have hb1 : Below w.heap.size w w1 := (Below.refl _ _).grown hg1 (Nat.le_refl _) (by simp)
  have F1 := Lib.hid (F0.out.below hb1)
  have hbl := hb1.mono hlo
  have hsz1 := hb1.size
  have HNL := Lib.hid (rootsL_length n R)
  clear hown1 hg1 hi hz0 hz1 hz2 hb1
  go_loopw [13] (fun i wr => ∃ k : Nat, k ≤ n ∧ i = .int .i64 k ∧ Below lo w wr ∧ w.heap.size ≤ wr.heap.size ∧ Forest wr lo n fb g R d ∧ wr.ownsRow w.heap.size 2 1 (.slice (some ⟨w.heap.size, 0, none⟩) n n) n (((rootsL n R).map (Value.int .i64)).take k ++ List.replicate (n - k) (.int .i64 0))) (fun i _ => n - (intOf i).toNat)
  case atStart => exact ⟨0, Nat.zero_le _, rfl, hbl, hsz1, F1.out, H0.out⟩
  case round =>
    obtain ⟨k, hk, rfl, hb, hsz, hF, hown⟩ := hrel
    clear H0 hbl F1 hsz1
    by_cases hlt : k < n
    · have C := Lib.hid (root_any lo n fb g R d k wr hF hlt hn)
      have HO := Lib.hid hown
      have HB := Lib.hid hb
      have HU := Lib.hid (rootsL_at (R := R) hlt)
      clear hown hb hF
      go_wp2_with (go_at_call 91; refine (C.out).mono ?_; rintro e w2 ⟨rfl, hF, hg⟩; have HO2 := Lib.hid (HO.out.kept hg (.inr (by simp [Value.ownBlock]; omega))); obtain ⟨⟨old, hx⟩, hf⟩ := own_old HO2.out hlt; have HF := Lib.hid hF; have HG := Lib.hid hg; clear hF hg)
      go_roundw
      case rel =>
        have hg2 := HG.out
        have hst := HO2.out.stored k (.int .i64 (R k : Int))
        refine ⟨k + 1, by omega, by go_num, (HB.out.grown hg2 (by omega) fun g' e => by cases e; exact hgl.1).setCell (by simp; omega) _, ?_, HF.out.below_cell (by omega) (by omega), ?_⟩
        · simp; have := hg2.size; omega
        · have := hst.1
          rwa [upd_take _ _ _ _ _ (by rw [List.length_map]; exact HNL.out) (by rw [List.getElem?_map, HU.out]; rfl)] at this
      case measure => simp [intOf]; omega
    · obtain rfl : k = n := by omega
      have HO := Lib.hid (show wr.ownsRow w.heap.size 2 1 (.slice (some ⟨w.heap.size, 0, none⟩) k k) k ((rootsL k R).map (Value.int .i64)) from by simpa [List.take_of_length_le, HNL.out] using hown)
      have C := Lib.hid (numberBlocks_any (some ⟨w.heap.size, 0, none⟩) k k (rootsL k R) wr wr.heap.size (Row.of_own HO.out) (Nat.le_refl _) HNL.out hn (rootsL_wf fun i hi => by have := HRT.out i hi; omega))
      have HB := Lib.hid hb
      clear hown hb hF
      go_wp2_with (go_at_call 69; refine (C.out).mono ?_; rintro e w3 ⟨rfl, ho, hb3⟩)
      have H : RetRow w lo k (normL (rootsL k R)) (.returned (.slice (some ⟨wr.heap.size + 1, 0, none⟩) k k)) w3 := ⟨_, _, rfl, own_base' ho (by omega), HB.out.trans (hb3.mono (by omega))⟩
      clear ho hb3
      go_wp2
      go_ret
      exact H
end Go.Proofs.Ythnopigibjmgbaa
