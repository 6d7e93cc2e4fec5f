/- How the laws' own helpers answer on records: how much they hold, a copy, comparing. -/
import Derived.Test.YtjnmndjhlllfkaaProg
import Derived.WalkKit
import Derived.ProofKit
import Derived.BigQuiet
import Derived.StillTailTactics
import Derived.OwnWalk
import Derived.Outline
import Derived.Test.YtjnmndjhlllfkaaMem
import Derived.Test.YtjnmndjhlllfkaaOwn
import Derived.Test.YtjnmndjhlllfkaaTurn
import Derived.Test.YtjnmndjhlllfkaaSRow
import Derived.Test.YtjnmndjhlllfkaaDat
import Derived.Test.YtjnmndjhlllfkaaOwnR
namespace Go.Proofs.Ytjnmndjhlllfkaa
open Go.RowKit
theorem infoDInt64 : (Try.prog.info? 2).map (fun i => (i.zero, i.size, i.bytes)) = some (some (.int .i64 0), 1, 8) := by kernel_rfl
theorem infoDString : (Try.prog.info? 9).map (fun i => (i.zero, i.size, i.bytes)) = some (some (.string ⟨#[]⟩), 1, 16) := by kernel_rfl
set_option maxRecDepth 100000 in
set_option maxHeartbeats 1000000 in
theorem eqDStringS_yes (A1 A2 : Option Addr) (n1 n2 c1 c2 : Nat) (xs : List (ByteArray)) (w : World) (S1 S2 : Nat → Prop) (h1 : LRow txtR w S1 A1 xs) (h2 : LRow txtR w S2 A2 xs) (hS1 : ∀ b, S1 b → b < w.heap.size) (hS2 : ∀ b, S2 b → b < w.heap.size) (l1 : xs.length = n1) (l2 : xs.length = n2) (m : okList okTx xs) :
    Calls Try.prog 6 #[.slice A1 n1 c1, .slice A2 n2 c2] w fun e w' => e = .returned (.bool true) ∧ Below w.heap.size w w' := by
  obtain rfl : n1 = n2 := l1.symm.trans l2
  have hn : n1 ≤ 1048576 := by have := m.1; omega
  have L1 := Lib.hid l1
  have M := Lib.hid m.2
  clear l1 l2 m
  go_enter Try.func6, Try.ntmps6
  go_wp2
  go_loopw [5] (fun i wr => ∃ k : Nat, k ≤ n1 ∧ i = .int .i64 k ∧ Hid (Below w.heap.size w wr)) (fun i _ => n1 - (intOf i).toNat)
  case atStart => exact ⟨0, Nat.zero_le _, rfl, Lib.hid (Below.refl _ _)⟩
  case round =>
    obtain ⟨k, hk1, rfl, HB⟩ := hrel
    by_cases hlt1 : k < n1
    · obtain ⟨b1, o1, cs1, x, rfl, hb1, hR1, hx, hc1⟩ := (h1.keep (SameOn.of_below HB.out hS1)).at_ (k := k) (by rw [L1.out]; exact hlt1)
      obtain ⟨b2, o2, cs2, y, rfl, hb2, hR2, hy, hc2⟩ := (h2.keep (SameOn.of_below HB.out hS2)).at_ (k := k) (by rw [L1.out]; exact hlt1)
      obtain rfl : x = y := by have := hx.out.symm.trans hy.out; injection this
      have hM := M.out x (List.mem_of_getElem? hx.out)
      have hws := HB.out.size
      obtain ⟨rfl, hz10⟩ := hR1
      obtain ⟨rfl, hz20⟩ := hR2
      have p0 : wr.cell? ⟨b1, o1 + k, none⟩ = some (.string x) := (by have := hc1 0 _ rfl; simpa [txtR] using this)
      have q0 : wr.cell? ⟨b2, o2 + k, none⟩ = some (.string x) := (by have := hc2 0 _ rfl; simpa [txtR] using this)
      clear hc1 hc2
      have HD := Lib.hid (fun n => (HB.out).trans (below_drewN wr w.heap.size n))
      clear hz10 hz20 hM
      go_wp2
      go_quiet (fail)
      go_wp2
      go_roundw
      case rel => exact ⟨k + 1, by omega, by go_num, Lib.hid (by first | exact HD.out _ | exact HB.out)⟩
      case measure => simp [intOf]; omega
    · go_wp2
      go_ret
      exact ⟨rfl, HB.out⟩
end Go.Proofs.Ytjnmndjhlllfkaa
