/- Joining lists of terms in new memory. -/
import Derived.Test.YtkcbmblpalmmhaaProg
import Derived.WalkKit
import Derived.ProofKit
import Derived.OwnWalk
import Derived.Lib.AppendZerosOnto
import Derived.Outline
import Derived.Lib.Hide
import Derived.Test.YtkcbmblpalmmhaaMem
import Derived.Test.YtkcbmblpalmmhaaOwn
import Derived.Test.YtkcbmblpalmmhaaTmM
import Derived.Test.YtkcbmblpalmmhaaTmW
import Derived.Test.YtkcbmblpalmmhaaRet
import Derived.Test.YtkcbmblpalmmhaaApp
import Derived.Test.YtkcbmblpalmmhaaBuildT
namespace Go.Proofs.Ytkcbmblpalmmhaa
open Go.RowKit
def RetG (w : World) (e : Ending) (w' : World) : Prop := ∃ A c, e = .returned (.slice A 0 c) ∧ w'.ownsRow w.heap.size 68 2 (.slice A 0 c) 0 (tvs []) ∧ Below w.heap.size w w'
theorem own_zeros (w : World) (n : Nat) (hn : n ≤ 100000) (z : Value) : (w.drew.alloc (.cells (#[] ++ Builtin.zeroCells #[z, z] n ++ Builtin.zeroCells #[z, z] (grownCap w n 0 68 - n)) 68)).ownsRow w.heap.size 68 2 (.slice (some ⟨w.heap.size, 0, none⟩) 0 (grownCap w n 0 68)) 0 (tvs []) := by
  have h1 : n ≤ grownCap w n 0 68 := grownCap_ge w _ _ _
  have h2 := grownCap_le_maxLen w n 0 68 (by unfold maxLen; omega)
  refine ⟨rfl, .inr ⟨w.heap.size, grownCap w n 0 68, _, rfl, Nat.le_refl _, heap_alloc_new w.drew _, Nat.zero_le _, h2, ?_, by simp [tvs]⟩⟩
  simp only [Array.size_append, size_zeroCells, List.size_toArray, List.length_nil, Nat.zero_add]
  show n * 2 + (grownCap w n 0 68 - n) * 2 = grownCap w n 0 68 * 2
  omega
set_option maxRecDepth 100000 in
set_option maxHeartbeats 2000000 in
theorem grow_any (n : Nat) (hn : n ≤ 100000) (w : World) : Calls Try.prog 98 #[.slice none 0 0, .int .i64 (n : Int)] w fun e w' => RetG w e w' := by
  rcases Nat.eq_zero_or_pos n with h0 | h0
  · subst h0
    have H : RetG w (.returned (.slice none 0 0)) w := ⟨none, 0, rfl, World.ownsRow_nil _ _ _ _, Below.refl _ _⟩
    go_enter Try.func98, Try.ntmps98
    go_wp2
    go_ret
    exact H
  · obtain ⟨i0, hi, hz0, hz1, hz2⟩ := info_parts info_tma
    have H0 : RetG w (.returned (.slice (some ⟨w.heap.size, 0, none⟩) 0 (grownCap w n 0 68))) (w.drew.alloc (.cells (#[] ++ Builtin.zeroCells #[.int .i64 0, .int .i64 0] n ++ Builtin.zeroCells #[.int .i64 0, .int .i64 0] (grownCap w n 0 68 - n)) 68)) :=
      ⟨_, _, rfl, own_zeros w n hn _, (Below.refl _ _).drew.alloc (Nat.le_refl _) _⟩
    have H : RetG w (.returned (.slice (some ⟨w.heap.size, 0, none⟩) 0 (grownCap w n 0 68))) (w.alloc (.cells (Builtin.zeroCells #[.int .i64 0, .int .i64 0] n ++ Builtin.zeroCells #[.int .i64 0, .int .i64 0] (grownCap w n 0 68 - n)) 68)).drew := by
      rw [Array.empty_append] at H0
      exact H0
    clear H0
    have hap : ∀ ty, (Builtin.append_ #[24, 3] ty #[.slice none 0 0, .int .i64 (n : Int)]).run Try.prog w = .ok (.slice (some ⟨w.heap.size, 0, none⟩) n (grownCap w n 0 68)) (w.drew.alloc (.cells (#[] ++ Builtin.zeroCells #[.int .i64 0, .int .i64 0] n ++ Builtin.zeroCells #[.int .i64 0, .int .i64 0] (grownCap w n 0 68 - n)) 68)) := fun ty => by
      have h := Lib.run_append_grow_zeros w 24 3 ty 68 i0 (.agg #[.int .i64 0, .int .i64 0]) .i64 .i64 Try.underlying24 Try.underlying3 hi hz0 none 0 0 [] (run_firstCells_none w.drew i0.size 0 0 0) n h0 (by rw [hz1]; omega) (by omega) (by omega) (by rw [hz2]; omega) (growslice_fits (by omega) (by rw [hz2]; omega))
      rw [Nat.zero_add] at h
      exact h
    have hG := grownCap_le_maxLen w n 0 68 (by unfold maxLen; omega)
    unfold maxLen at hG
    obtain ⟨G, hGG⟩ : ∃ G, G = grownCap w n 0 68 := ⟨_, rfl⟩
    rw [← hGG] at H hap hG
    clear hi hz0 hz1 hz2 hGG
    go_enter Try.func98, Try.ntmps98
    go_wp2_with (at_builtin; refine Lib.wpList_append_run _ rfl _ _ _ _ rfl _ _ rfl rfl _ _ (hap _) ?_)
    go_ret
    exact H
theorem flatten_snoc {oss : List (List Tm)} {k : Nat} {xs : List Tm} (h : oss[k]? = some xs) : (oss.take (k + 1)).flatten = (oss.take k).flatten ++ xs := by
  rw [take_one _ _ _ h, List.flatten_append]; simp
theorem flatten_le {oss : List (List Tm)} (k : Nat) : (oss.take k).flatten.length ≤ oss.flatten.length := by
  conv => rhs; rw [← List.take_append_drop k oss, List.flatten_append, List.length_append]
  omega
set_option maxRecDepth 100000 in
set_option maxHeartbeats 2000000 in
theorem concat_any (O : Option Addr) (no co : Nat) (oss : List (List Tm)) (w : World) (B : Nat) (h : TTRow w B O oss) (hB : B ≤ w.heap.size) (l : oss.length = no) (m : no ≤ 2000000) (ht : oss.flatten.length ≤ 100000) :
    Calls Try.prog 94 #[.slice O no co] w fun e w' => RetT1 w oss.flatten e w' := by
  have L := Lib.hid l
  have HLE := Lib.hid (fun k => flatten_le (oss := oss) k)
  clear l
  go_enter Try.func94, Try.ntmps94
  go_wp2
  go_loop [3, 11] (fun s i => ∃ k u : Nat, k ≤ no ∧ i = .int .i64 k ∧ s = .int .i64 (u : Nat) ∧ u = (oss.take k).flatten.length) (fun _ i => no - (intOf i).toNat)
  case atStart => exact ⟨0, 0, Nat.zero_le _, rfl, rfl, by simp⟩
  case round =>
    obtain ⟨k, u, hk, rfl, rfl, hu⟩ := hrel
    have hle := HLE.out k
    have HU := Lib.hid hu
    rw [← hu] at hle
    clear hu
    by_cases hlt : k < no
    · obtain ⟨b, o, A', c', xs, rfl, hb, hc, hr, hx⟩ := h.at_ (k := k) (by rw [L.out]; exact hlt)
      have hle2 := HLE.out (k + 1)
      have HS := Lib.hid (flatten_snoc hx.out)
      have hln : u + xs.length ≤ 100000 := by rw [HS.out, List.length_append, ← HU.out] at hle2; omega
      have hnn : ¬ ((u : Int) + (xs.length : Int) < 0) := by omega
      clear hle2
      go_wp2
      go_round
      case rel => exact ⟨k + 1, u + xs.length, by omega, by go_num, by go_num, by rw [HS.out, List.length_append, ← HU.out]⟩
      case measure => simp [intOf]; omega
    · have CG := Lib.hid (grow_any u (by omega) w)
      go_wp2_with (go_at_call 98; refine (CG.out).mono ?_; rintro e w1 ⟨A1, c1, rfl, ho1, hb1⟩)
      go_loopw [6, 27] (fun v i wr => ∃ (j : Nat) (A : Option Addr) (n c : Nat), j ≤ no ∧ i = .int .i64 j ∧ v = .slice A n c ∧ n ≤ 100000 ∧ wr.ownsRow w.heap.size 68 2 (.slice A n c) n (tvs (oss.take j).flatten) ∧ Below w.heap.size w wr) (fun _ i _ => no - (intOf i).toNat)
      case atStart => exact ⟨0, A1, 0, c1, Nat.zero_le _, rfl, rfl, by omega, by simpa using ho1, hb1⟩
      case round =>
        obtain ⟨j, A, n, c, hj, rfl, rfl, hn, hown, hbel⟩ := hrel
        clear ho1 hb1
        by_cases hlt2 : j < no
        · obtain ⟨b, o, A', c', xs, rfl, hb, hc, hr, hx⟩ := (h.below (hbel.mono hB)).at_ (k := j) (by rw [L.out]; exact hlt2)
          have hle2 := HLE.out (j + 1)
          have HS := Lib.hid (flatten_snoc hx.out)
          have hws := hbel.size
          have hnl : (oss.take j).flatten.length = n := by have := hown.1; rw [tvs_length] at this; omega
          have hln : n + xs.length ≤ 100000 := by rw [HS.out, List.length_append] at hle2; omega
          have HO := Lib.hid hown
          have HB := Lib.hid hbel
          have HR := Lib.hid hr
          clear hown hbel hr hnl
          go_wp2_with (at_builtin; refine wpList_append_tms rfl _ _ rfl _ w.heap.size B (.slice A n c) n (oss.take j).flatten rfl (by exact HO.out) A' xs.length c' xs rfl (by exact HR.out) rfl (by omega) hws ?_; intro A2 c2 w2 ho hg; have HO2 := Lib.hid ho; have HG := Lib.hid hg; clear ho hg)
          go_roundw
          case rel => exact ⟨j + 1, A2, n + xs.length, c2, by omega, by go_num, rfl, hln, by rw [HS.out]; exact HO2.out, HB.out.grown HG.out hws (fun g e => (HO.out.lt g e).1)⟩
          case measure => simp [intOf]; omega
        · have HE := Lib.hid (show oss.take j = oss from List.take_of_length_le (by rw [L.out]; omega))
          go_wp2
          go_ret
          exact ⟨A, n, c, rfl, by rw [← HE.out]; exact hown, hbel⟩
end Go.Proofs.Ytkcbmblpalmmhaa
