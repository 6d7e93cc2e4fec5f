/- The model's numbering by first occurrences, found by a search; and the helpers that write into a result and look whether it is held. -/
import Derived.Test.YthnopigibjmgbaaProg
import Derived.WalkKit
import Derived.ProofKit
import Derived.BigQuiet
import Derived.Outline
import Derived.Test.YthnopigibjmgbaaMem
import Derived.Test.YthnopigibjmgbaaLawI
import Derived.Test.YthnopigibjmgbaaPartM
import Derived.Test.YthnopigibjmgbaaPart
namespace Go.Proofs.Ythnopigibjmgbaa
open Go.RowKit
theorem norm_again {xs : List Int} {j k : Nat} {u : Int} (hj : xs[j]? = some u) (hk : xs[k]? = some u) (h : j < k) : (normL xs)[k]? = (normL xs)[j]? := by
  rw [normL_at hj, normL_at hk, seen_idx hj h]
theorem norm_first {xs : List Int} {k : Nat} {u : Int} (hk : xs[k]? = some u) (h : ∀ j, j < k → xs[j]? ≠ some u) : (normL xs)[k]? = some ((seen (xs.take k)).length : Int) ∧ (seen (xs.take (k + 1))).length = (seen (xs.take k)).length + 1 := by
  have hn : u ∉ seen (xs.take k) := by
    rw [mem_seen]
    intro hm
    obtain ⟨j, hj⟩ := List.getElem?_of_mem hm
    rw [List.getElem?_take] at hj
    split at hj
    · exact h j ‹_› hj
    · cases hj
  exact ⟨by rw [normL_at hk, idxOf_miss hn], by rw [seen_succ hk, addNew_length, if_neg hn]⟩
theorem seen_again {xs : List Int} {j k : Nat} {u : Int} (hj : xs[j]? = some u) (hk : xs[k]? = some u) (h : j < k) : (seen (xs.take (k + 1))).length = (seen (xs.take k)).length := by
  have hm : u ∈ seen (xs.take k) := by
    rw [mem_seen]
    exact List.mem_of_getElem? (i := j) (by rw [List.getElem?_take, if_pos h]; exact hj)
  rw [seen_succ hk, addNew_length, if_pos hm]
theorem cell_done {xs : List Int} {k j n : Nat} {v : Int} (hj : j < k) (hv : (normL xs)[j]? = some v) : ((((normL xs).map (Value.int .i64)).take k ++ List.replicate (n - k) (Value.int .i64 0))[j]?) = some (.int .i64 v) := by
  have hlt : j < (normL xs).length := (List.getElem?_eq_some_iff.1 hv).1
  rw [List.getElem?_append_left (by rw [List.length_take, List.length_map]; omega), List.getElem?_take, if_pos hj, List.getElem?_map, hv]; rfl
set_option maxHeartbeats 2000000 in
theorem l02Norm_any (A : Option Addr) (n c : Nat) (xs : List Int) (w : World) (B : Nat) (h : IRow w B A xs) (hB : B ≤ w.heap.size) (l : xs.length = n) (m : n ≤ 2000000) :
    Calls Try.prog 70 #[.slice A n c] w fun e w' => e = .returned (.slice (some ⟨w.heap.size, 0, none⟩) n n) ∧
      w'.ownsRow w.heap.size 2 1 (.slice (some ⟨w.heap.size, 0, none⟩) n n) n ((normL xs).map (Value.int .i64)) ∧ Below w.heap.size w w' := by
  obtain ⟨i0, hi, hz0, hz1, hz2⟩ := info_parts info_i64
  have L := Lib.hid l
  clear l
  go_enter Try.func70, Try.ntmps70
  go_wp2_with (at_make; refine wpList_make_full _ rfl _ _ _ rfl w.heap.size 2 i0 (.int .i64 0) 1 Try.underlying30 hi hz0 hz1 .i64 .i64 _ _ n rfl rfl rfl rfl (by rw [hz2]; omega) (by unfold maxLen; omega) (Nat.le_refl _) ?_; intro w1 hown1 hg1)
  have H0 : w1.ownsRow w.heap.size 2 1 (.slice (some ⟨w.heap.size, 0, none⟩) n n) n (((normL xs).map (Value.int .i64)).take 0 ++ List.replicate (n - 0) (.int .i64 0)) := by
    have e := toList_madeCells_one (.int .i64 0) n
    have e2 : (Value.int .i64 0).cells = #[.int .i64 0] := rfl
    rw [e2, Nat.mul_one, e] at hown1
    simpa using hown1
  have hb1 : Below w.heap.size w w1 := (Below.refl _ _).grown hg1 (Nat.le_refl _) (by simp)
  have h63 : n ≤ 9223372036854775807 := by omega
  have HNL := Lib.hid (normL_length xs)
  clear hown1 hg1 hi hz0 hz1 hz2
  go_loopw [4, 5] (fun x i wr => ∃ k : Nat, k ≤ n ∧ i = .int .i64 k ∧ x = .int .i64 ((seen (xs.take k)).length : Nat) ∧ Below w.heap.size w wr ∧ wr.ownsRow w.heap.size 2 1 (.slice (some ⟨w.heap.size, 0, none⟩) n n) n (((normL xs).map (Value.int .i64)).take k ++ List.replicate (n - k) (.int .i64 0))) (fun _ i _ => n - (intOf i).toNat)
  case atStart => exact ⟨0, Nat.zero_le _, rfl, rfl, hb1, H0⟩
  case round =>
    obtain ⟨k, hk, rfl, rfl, hb, hown⟩ := hrel
    clear H0 hb1
    obtain ⟨wo, rfl⟩ : ∃ wo : World, wo = wr := ⟨_, rfl⟩
    have hsl := seen_length_le (xs.take k)
    have hsl2 : (seen (xs.take k)).length ≤ n := by rw [List.length_take] at hsl; omega
    clear hsl
    by_cases hlt : k < n
    · obtain ⟨b, o, u, rfl, hbB, hc, hu⟩ := (h.below (hb.mono hB)).at_ (k := k) (by rw [L.out]; exact hlt)
      have HB := Lib.hid hb
      have HO := Lib.hid hown
      clear hb hown
      go_wp2
      go_loopw [6, 7] (fun a j wr2 => ∃ jj : Nat, jj ≤ k ∧ j = .int .i64 jj ∧ a = .int .i64 (-1) ∧ Drawn wo wr2 ∧ Hid (∀ q, q < jj → xs[q]? ≠ some u)) (fun _ j _ => k - (intOf j).toNat)
      case atStart => exact ⟨0, Nat.zero_le _, rfl, rfl, Drawn.refl _, fun q hq => by omega⟩
      case round =>
        obtain ⟨jj, hjk, rfl, rfl, hD, HJ⟩ := hrel
        by_cases hlt2 : jj < k
        · obtain ⟨b2, o2, v, hbe, hbB2, hc2, hv⟩ := ((h.below (HB.out.mono hB)).drawn hD).at_ (k := jj) (by rw [L.out]; omega)
          obtain ⟨rfl, rfl⟩ : b2 = b ∧ o2 = o := by simp only [Option.some.injEq, Addr.mk.injEq, and_true] at hbe; exact ⟨hbe.1.symm, hbe.2.symm⟩
          have hc1 := (hD.below (wo.heap.size)).cell (p := ⟨b2, o2 + k, none⟩) (World.block_lt_of_cell? wo _ hc)
          rw [hc] at hc1
          clear hbe
          by_cases he : v = u
          · subst he
            have hbe : (v == v) = true := by simp
            obtain ⟨nv, hnv⟩ : ∃ nv, (normL xs)[jj]? = some nv := ⟨_, normL_at hv.out⟩
            have hO2 := own_drawn HO.out hD
            have hx := hO2.cellAt k (by omega)
            have hlen : k < (((normL xs).map (Value.int .i64)).take k ++ List.replicate (n - k) (Value.int .i64 0)).length := by rw [hO2.1]; omega
            rw [List.getElem?_eq_getElem hlen] at hx
            replace hx : ∃ old, wr.cell? ⟨w.heap.size, k, none⟩ = some old := ⟨_, hx⟩
            obtain ⟨old, hx⟩ := hx
            have hxj := hO2.cellAt jj (by omega)
            rw [cell_done hlt2 hnv] at hxj
            have hf := hO2.frozenAt k
            have HO2 := Lib.hid hO2
            have HNV := Lib.hid ((norm_again hv.out hu.out hlt2).trans hnv)
            have HSL := Lib.hid (seen_again hv.out hu.out hlt2)
            clear hO2 hlen hnv HJ
            go_wp2
            go_quiet (fail)
            go_wp2
            go_roundw
            case rel => exact ⟨k + 1, by omega, by go_num, by rw [HSL.out], ((HB.out.trans (hD.below _)).trans (below_drewN _ _ _)).setCell (Nat.le_refl _) _, own_put HO2.out ((Drawn.refl _).drewN _) (upd_take _ _ _ _ _ (by rw [List.length_map, HNL.out]; exact L.out) (by rw [List.getElem?_map, HNV.out]; rfl))⟩
            case measure => simp [intOf]; omega
          · have hbe : (v == u) = false := by simp [he]
            have HJ2 := Lib.hid (show ∀ q, q < jj + 1 → xs[q]? ≠ some u from fun q hq => by
              by_cases e : q = jj
              · subst e; rw [hv.out]; intro h; injection h with h; exact he h
              · exact HJ.out q (by omega))
            clear he HJ
            go_wp2
            go_quiet (fail)
            go_wp2
            go_roundw
            case rel => exact ⟨jj + 1, by omega, by go_num, rfl, by repeat (first | exact hD | apply Drawn.drewN), HJ2⟩
            case measure => simp [intOf]; omega
        · obtain rfl : jj = k := by omega
          have HF := Lib.hid (norm_first hu.out HJ.out)
          have hO2 := own_drawn HO.out hD
          have hx := hO2.cellAt jj (by omega)
          have hlen : jj < (((normL xs).map (Value.int .i64)).take jj ++ List.replicate (n - jj) (Value.int .i64 0)).length := by rw [hO2.1]; omega
          rw [List.getElem?_eq_getElem hlen] at hx
          replace hx : ∃ old, wr.cell? ⟨w.heap.size, jj, none⟩ = some old := ⟨_, hx⟩
          obtain ⟨old, hx⟩ := hx
          have hf := hO2.frozenAt jj
          have HO2 := Lib.hid hO2
          clear hO2 hlen HJ
          go_wp2
          go_roundw
          case rel => exact ⟨jj + 1, by omega, by go_num, by rw [HF.out.2]; go_num, (HB.out.trans (hD.below _)).setCell (Nat.le_refl _) _, by
            have := (HO2.out.stored jj (.int .i64 ((seen (xs.take jj)).length : Nat))).1
            rwa [upd_take _ _ _ _ _ (by rw [List.length_map, HNL.out]; exact L.out) (by rw [List.getElem?_map, HF.out.1]; rfl)] at this⟩
          case measure => simp [intOf]; omega
    · go_wp2
      go_ret
      obtain rfl : k = n := by omega
      exact ⟨rfl, by simpa [List.take_of_length_le, L.out, HNL.out] using hown, hb⟩
end Go.Proofs.Ythnopigibjmgbaa
