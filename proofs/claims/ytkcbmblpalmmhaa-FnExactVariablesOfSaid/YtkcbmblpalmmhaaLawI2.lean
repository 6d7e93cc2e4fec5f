/- The laws' own helpers on lists of 64-bit integers: writing marks into a list, and asking whether it holds them. -/
import Derived.Test.YtkcbmblpalmmhaaProg
import Derived.WalkKit
import Derived.ProofKit
import Derived.BigQuiet
import Derived.Outline
import Derived.Test.YtkcbmblpalmmhaaMem
import Derived.Test.YtkcbmblpalmmhaaLawI
import Derived.Test.YtkcbmblpalmmhaaOwn
namespace Go.Proofs.Ytkcbmblpalmmhaa
open Go.RowKit
def marksI (k : Int) (n : Nat) : List Int := (List.range n).map fun i => k + (i : Nat)
theorem marksI_length (k : Int) (n : Nat) : (marksI k n).length = n := by simp [marksI]
theorem marksI_at {k : Int} {n i : Nat} (h : i < n) : (marksI k n)[i]? = some (k + i) := by simp [marksI, h]
theorem own_addr {w : World} {base : Nat} {T : TypeId} {s n c : Nat} {A : Option Addr} {vs : List Value} (h : w.ownsRow base T s (.slice A n c) n vs) (hn : 0 < n) : ∃ g, A = some ⟨g, 0, none⟩ ∧ base ≤ g ∧ g < w.heap.size := by
  rcases h.2 with ⟨_, h0⟩ | ⟨g, cap, cur, e, hb, hg, _⟩
  · omega
  · injection e with e1 _ _
    exact ⟨g, e1, hb, (Array.getElem?_eq_some_iff.1 hg).1⟩
theorem upd_mid {xs ys : List Int} {n k : Nat} (hx : xs.length = n) (hy : ys.length = n) {u : Int} (hu : ys[k]? = some u) :
    (((ys.take k ++ xs.drop k).map (Value.int .i64)).set k (.int .i64 u)) = (ys.take (k + 1) ++ xs.drop (k + 1)).map (Value.int .i64) := by
  obtain ⟨hk, rfl⟩ := List.getElem?_eq_some_iff.1 hu
  have hl : (ys.take k).length = k := by rw [List.length_take]; omega
  have hd : xs.drop k = xs[k] :: xs.drop (k + 1) := List.drop_eq_getElem_cons (by omega)
  rw [hd, List.map_append, List.map_cons, List.set_append_right _ _ (by rw [List.length_map]; omega), List.length_map, hl, Nat.sub_self, List.set_cons_zero, List.take_succ_eq_append_getElem hk, List.map_append, List.map_append, List.append_assoc]
  rfl
set_option maxHeartbeats 1000000 in
theorem markI_any {T : TypeId} (A : Option Addr) (n c : Nat) (k0 : Int) (xs : List Int) (w : World) (base : Nat) (h : w.ownsRow base T 1 (.slice A n c) n (xs.map (Value.int .i64))) (m : n ≤ 2000000) (k1 : 0 ≤ k0) (k2 : k0 ≤ 9000000000000000) :
    Calls Try.prog 25 #[.slice A n c, .int .i64 k0] w fun e w' => e = .returned (.int .i64 (k0 + n)) ∧
      w'.ownsRow base T 1 (.slice A n c) n ((marksI k0 n).map (Value.int .i64)) ∧ w.grownBy w' (Value.slice A n c).ownBlock := by
  have L := Lib.hid (show xs.length = n by have := h.1; simpa using this)
  have HM := Lib.hid (marksI_length k0 n)
  go_enter Try.func25, Try.ntmps25
  go_wp2
  go_loopw [1, 5] (fun x i wr => ∃ k : Nat, k ≤ n ∧ i = .int .i64 k ∧ x = .int .i64 (k0 + k) ∧ wr.ownsRow base T 1 (.slice A n c) n (((marksI k0 n).take k ++ xs.drop k).map (Value.int .i64)) ∧ w.grownBy wr (Value.slice A n c).ownBlock) (fun _ i _ => n - (intOf i).toNat)
  case atStart => exact ⟨0, Nat.zero_le _, rfl, by simp, by simpa using h, World.grownBy.refl _ _⟩
  case round =>
    obtain ⟨k, hk, rfl, rfl, hown, hg⟩ := hrel
    by_cases hlt : k < n
    · obtain ⟨g, rfl, hbg, hgs⟩ := own_addr hown (by omega)
      obtain ⟨⟨old, hx⟩, hf⟩ := own_some hown (k := k) (by omega)
      have HO := Lib.hid hown
      have HG := Lib.hid hg
      clear hown hg h
      go_wp2
      go_roundw
      case rel => exact ⟨k + 1, by omega, by go_num, congrArg (Value.int .i64) (by omega), by
        have := (HO.out.stored k (.int .i64 (k0 + k))).1
        rwa [upd_mid L.out HM.out (marksI_at hlt)] at this, grown_trans HG.out (HO.out.stored k _).2⟩
      case measure => simp [intOf]; omega
    · go_wp2
      go_ret
      obtain rfl : k = n := by omega
      exact ⟨rfl, by rwa [List.take_of_length_le (by rw [HM.out]; exact Nat.le_refl _), List.drop_eq_nil_of_le (by rw [L.out]; exact Nat.le_refl _), List.append_nil] at hown, hg⟩
set_option maxHeartbeats 1000000 in
theorem heldI_any {T : TypeId} (A : Option Addr) (n c : Nat) (k0 : Int) (w : World) (base : Nat) (h : w.ownsRow base T 1 (.slice A n c) n ((marksI k0 n).map (Value.int .i64))) (m : n ≤ 2000000) (k1 : 0 ≤ k0) (k2 : k0 ≤ 9000000000000000) :
    Calls Try.prog 26 #[.slice A n c, .int .i64 k0] w fun e w' => e = .returned (.int .i64 (k0 + n)) ∧ w = w' := by
  have HM := Lib.hid (marksI_length k0 n)
  go_enter Try.func26, Try.ntmps26
  go_wp2
  go_loop [1, 5] (fun x i => ∃ k : Nat, k ≤ n ∧ i = .int .i64 k ∧ x = .int .i64 (k0 + k)) (fun _ i => n - (intOf i).toNat)
  case atStart => exact ⟨0, Nat.zero_le _, rfl, by simp⟩
  case round =>
    obtain ⟨k, hk, rfl, rfl⟩ := hrel
    by_cases hlt : k < n
    · obtain ⟨g, rfl, hbg, hgs⟩ := own_addr h (by omega)
      have hx := h.cellAt k (by omega)
      rw [List.getElem?_map, marksI_at hlt] at hx
      have hx' : w.cell? ⟨g, k, none⟩ = some (.int .i64 (k0 + k)) := hx
      clear hx
      have hne : ((k0 + (k : Int)) != (k0 + (k : Int))) = false := by simp
      go_wp2
      go_round
      case rel => exact ⟨k + 1, by omega, by go_num, congrArg (Value.int .i64) (by omega)⟩
      case measure => simp [intOf]; omega
    · go_wp2
      go_ret
      obtain rfl : k = n := by omega
      exact ⟨rfl, rfl⟩
theorem toI_own (A : Option Addr) (n c : Nat) (xs : List Int) (w : World) (B : Nat) (h : IRow w B A xs) (hB : B ≤ w.heap.size) (l : xs.length = n) (m : n ≤ 2000000) :
    Calls Try.prog 19 #[.slice A n c] w fun e w' => e = .returned (.slice (some ⟨w.heap.size, 0, none⟩) n n) ∧
      OwnV w' w.heap.size w'.heap.size 2 1 (some ⟨w.heap.size, 0, none⟩) n n (xs.map (Value.int .i64)) ∧ Below w.heap.size w w' :=
  (toI_any A n c xs w B h hB l m).mono fun _ _ ⟨h1, h2, h3⟩ => ⟨h1, OwnV.mk' h2, h3⟩
theorem markI_own {T : TypeId} (A : Option Addr) (n c : Nat) (k0 : Int) (xs : List Int) (w : World) (lo hi : Nat) (h : OwnV w lo hi T 1 A n c (xs.map (Value.int .i64))) (m : n ≤ 2000000) (k1 : 0 ≤ k0) (k2 : k0 ≤ 9000000000000000) :
    Calls Try.prog 25 #[.slice A n c, .int .i64 k0] w fun e w' => e = .returned (.int .i64 (k0 + n)) ∧
      OwnV w' lo hi T 1 A n c ((marksI k0 n).map (Value.int .i64)) ∧ w.grownBy w' (Value.slice A n c).ownBlock :=
  (markI_any A n c k0 xs w lo h.own m k1 k2).mono fun _ _ ⟨h1, h2, h3⟩ => ⟨h1, ⟨h2, h.top⟩, h3⟩
theorem heldI_own {T : TypeId} (A : Option Addr) (n c : Nat) (k0 : Int) (w : World) (lo hi : Nat) (h : OwnV w lo hi T 1 A n c ((marksI k0 n).map (Value.int .i64))) (m : n ≤ 2000000) (k1 : 0 ≤ k0) (k2 : k0 ≤ 9000000000000000) :
    Calls Try.prog 26 #[.slice A n c, .int .i64 k0] w fun e w' => e = .returned (.int .i64 (k0 + n)) ∧ w = w' :=
  heldI_any A n c k0 w lo h.own m k1 k2
theorem eqI_own {T1 T2 : TypeId} (A1 A2 : Option Addr) (n1 n2 c1 c2 : Nat) (xs : List Int) (w : World) (lo1 hi1 lo2 hi2 : Nat) (h1 : OwnV w lo1 hi1 T1 1 A1 n1 c1 (xs.map (Value.int .i64))) (h2 : OwnV w lo2 hi2 T2 1 A2 n2 c2 (xs.map (Value.int .i64))) (m1 : n1 ≤ 2000000) :
    Calls Try.prog 21 #[.slice A1 n1 c1, .slice A2 n2 c2] w fun e w' => e = .returned (.bool true) ∧ Drawn w w' :=
  eqI_yes A1 A2 n1 n2 c1 c2 xs w (max hi1 hi2) (Row.more h1.row (Nat.le_max_left _ _)) (Row.more h2.row (Nat.le_max_right _ _)) (by have := h1.len; simpa using this) (by have := h2.len; simpa using this) m1
end Go.Proofs.Ytkcbmblpalmmhaa
