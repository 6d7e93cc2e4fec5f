/- Searches of the model. -/
import Derived.Test.YtbailpfjgjcbdaaGreatDoorLtO
import Derived.Test.YtbailpfjgjcbdaaGreatDoorIcS
import Derived.Test.YtbailpfjgjcbdaaGreatDoorAfM
namespace Go.Proofs.YtbailpfjgjcbdaaGreatDoor
open Go.RowKit
set_option linter.unusedVariables false
set_option linter.unusedSimpArgs false
set_option maxRecDepth 100000 in
set_option maxHeartbeats 4000000 in
theorem l00HasL_any (A : Option Addr) (n d : Nat) (xs : List Int) (k : Int) (w : World) (S : Nat → Prop) (h : LRow intR w S A xs) (l : xs.length = n) (m : n ≤ 1048576) (hS : ∀ b, S b → b < w.heap.size) :
    Calls Tryz.prog 92 #[.slice A n d, .int .i64 k] w fun e w' => e = .returned (.bool (hasI xs k)) ∧ w' = w := by
  have HR := Lib.hid h
  have L := Lib.hid l
  clear h l hS
  go_enter Tryz.func92, Tryz.ntmps92
  go_wp2
  go_loop [5] (fun i => ∃ j : Nat, j ≤ n ∧ i = .int .i64 (j : Int) ∧ Hid ((xs.take j).all (fun u => !(u == k)) = true)) (fun i => n - (intOf i).toNat)
  case atStart => exact ⟨0, Nat.zero_le _, rfl, Lib.hid rfl⟩
  case round =>
    obtain ⟨j, hj, rfl, HE⟩ := hrel
    by_cases hlt : j < n
    · obtain ⟨b, o, i, rfl, hb, r0, hi⟩ := int_row HR.out (k := j) (by rw [L.out]; exact hlt)
      have lb := World.block_lt_of_cell? w _ r0
      rcases te : (i == k) with _ | _
      · have HN := Lib.hid (all_take_next (p := fun u : Int => !(u == k)) HE.out hi.out (by rw [te]; rfl))
        go_wp2
        go_round
        case rel => exact ⟨j + 1, by omega, by go_num, HN⟩
        case measure => simp [intOf]; omega
      · have HF := Lib.hid (show hasI xs k = true by unfold hasI; rw [all_false (p := fun u : Int => !(u == k)) hi.out (by rw [te]; rfl)]; rfl)
        go_wp2
        go_ret
        exact ⟨by rw [HF.out]; rfl, rfl⟩
    · have HF := Lib.hid (show hasI xs k = false by
        have ht := HE.out
        rw [List.take_of_length_le (by rw [L.out]; omega)] at ht
        unfold hasI
        rw [ht]; rfl)
      go_wp2
      go_ret
      exact ⟨by rw [HF.out]; rfl, rfl⟩
set_option maxRecDepth 100000 in
set_option maxHeartbeats 4000000 in
theorem l11FindQ_any (A : Option Addr) (n c : Nat) (ls : List ByteArray) (u : ByteArray) (w : World) (S : Nat → Prop) (h : LRow txtR w S A ls) (l : ls.length = n) (m : n ≤ 1048576) (hS : ∀ b, S b → b < w.heap.size) :
    Calls Tryz.prog 70 #[.slice A n c, .string u] w fun e w' => e = .returned (.int .i64 (fndI ls u)) ∧ w' = w := by
  have HR := Lib.hid h
  have L := Lib.hid l
  clear h hS l
  go_enter Tryz.func70, Tryz.ntmps70
  go_wp2
  go_loop [5] (fun i => ∃ j : Nat, j ≤ n ∧ i = .int .i64 (j : Int) ∧ Hid ((ls.take j).all (fun s => !(eqB s u)) = true)) (fun i => n - (intOf i).toNat)
  case atStart => exact ⟨0, Nat.zero_le _, rfl, Lib.hid rfl⟩
  case round =>
    obtain ⟨j, hj, rfl, HE⟩ := hrel
    by_cases hlt : j < n
    · obtain ⟨b, o, cs, s, rfl, hb, hR, hs, hc⟩ := HR.out.at_ (k := j) (by rw [L.out]; exact hlt)
      obtain ⟨rfl, _⟩ := hR
      have f0 : w.cell? ⟨b, o + j, none⟩ = some (.string s) := by have h := hc 0 _ rfl; simpa [txtR] using h
      have lb := World.block_lt_of_cell? w _ f0
      clear hc
      rcases te : eqB s u with _ | _
      · have HN := Lib.hid (all_take_next (p := fun s => !(eqB s u)) HE.out hs.out (by rw [te]; rfl))
        have hq : (s.toList == u.toList) = false := te
        clear te
        go_wp2
        go_round
        case rel => exact ⟨j + 1, by omega, by go_num, HN⟩
        case measure => simp [intOf]; omega
      · have HF := Lib.hid (show fndI ls u = (j : Int) by rw [fndI_yes (hasU_hit hs.out te), fndN_hit HE.out hs.out te])
        have hq : (s.toList == u.toList) = true := te
        clear te
        go_wp2
        go_ret
        exact ⟨by rw [HF.out]; rfl, rfl⟩
    · have HF := Lib.hid (show fndI ls u = -1 from fndI_no (hasU_none (by
        have ht := HE.out
        rwa [List.take_of_length_le (by rw [L.out]; omega)] at ht)))
      go_wp2
      go_ret
      exact ⟨by rw [HF.out]; rfl, rfl⟩
end Go.Proofs.YtbailpfjgjcbdaaGreatDoor
