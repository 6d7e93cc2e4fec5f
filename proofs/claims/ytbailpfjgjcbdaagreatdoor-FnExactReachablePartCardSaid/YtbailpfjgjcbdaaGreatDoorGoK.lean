/- What an iterator wants kept between two rounds. -/
import Derived.Test.YtbailpfjgjcbdaaGreatDoorApS
import Derived.Test.YtbailpfjgjcbdaaGreatDoorLow
namespace Go.Proofs.YtbailpfjgjcbdaaGreatDoor
open Go.RowKit Go.Shelf
set_option linter.unusedVariables false
set_option linter.unusedSimpArgs false
/-- What the iterator wants kept between two rounds: its boxes and the system's memory. -/
structure KpOK (Kp : World → World → Prop) (n₀ q : Nat) (S : Nat → Prop) : Prop where
  refl : ∀ A : World, Kp A A
  trans : ∀ {A B C : World}, Kp A B → Kp B C → Kp A C
  size : ∀ {A B : World}, Kp A B → A.heap.size ≤ B.heap.size
  alloc : ∀ (A : World) (o : Obj), n₀ ≤ A.heap.size → Kp A (A.alloc o)
  drewN : ∀ (A : World) (n : Nat), Kp A (A.drewN n)
  drew : ∀ A : World, Kp A A.drew
  same : ∀ {A B : World}, Kp A B → ∀ b, (S b ∨ b = q ∨ b = q + 1 ∨ b = q + 2) → B.heap[b]? = A.heap[b]?
theorem kpOK_below {n₀ q : Nat} {S : Nat → Prop} (hq : q + 2 < n₀) (hS : ∀ b, S b → b < n₀) : KpOK (Below n₀) n₀ q S where
  refl A := Below.refl _ _
  trans h k := h.trans k
  size h := h.size
  alloc A o hn := (Below.refl _ _).alloc hn o
  drewN A n := below_drewN _ _ n
  drew A := (Below.refl _ _).drew
  same h b hb := h.block b (by
    rcases hb with hb | hb | hb | hb
    · exact hS b hb
    · omega
    · omega
    · omega)
/-- Worlds of which the second has kept all blocks of a set. -/
structure KR (R : Nat → Prop) (w w' : World) : Prop where
  os : w'.os = w.os
  tape : w'.tape = w.tape
  output : w'.output = w.output
  size : w.heap.size ≤ w'.heap.size
  block : ∀ k, R k → w'.heap[k]? = w.heap[k]?
theorem KR.refl (R : Nat → Prop) (w : World) : KR R w w := ⟨rfl, rfl, rfl, Nat.le_refl _, fun _ _ => rfl⟩
theorem KR.trans {R : Nat → Prop} {a b c : World} (h : KR R a b) (k : KR R b c) : KR R a c := ⟨k.os.trans h.os, k.tape.trans h.tape, k.output.trans h.output, Nat.le_trans h.size k.size, fun i hi => (k.block i hi).trans (h.block i hi)⟩
theorem KR.of_below {R : Nat → Prop} {n₀ : Nat} {a b : World} (h : Below n₀ a b) (hR : ∀ k, R k → k < n₀) : KR R a b := ⟨h.os, h.tape, h.output, h.size, fun k hk => h.block k (hR k hk)⟩
theorem KR.below {R : Nat → Prop} {lo : Nat} {a b : World} (h : KR R a b) (hR : ∀ k, k < lo → R k) : Below lo a b := ⟨h.os, h.tape, h.output, h.size, fun k hk => h.block k (hR k hk)⟩
theorem KR.grown {R : Nat → Prop} {a b : World} {row : Option Nat} (hg : a.grownBy b row) (hR : ∀ k, R k → k < a.heap.size) (hr : ∀ g, row = some g → ¬ R g) : KR R a b := ⟨hg.os, hg.tape, hg.output, hg.size, fun k hk => hg.block k (hR k hk) (fun e => hr k e.symm hk)⟩
theorem kpOK_KR {R : Nat → Prop} {n₀ q : Nat} {S : Nat → Prop} (hR : ∀ k, R k → k < n₀) (hq : R q ∧ R (q + 1) ∧ R (q + 2)) (hS : ∀ b, S b → R b) : KpOK (KR R) n₀ q S where
  refl A := KR.refl _ _
  trans h k := h.trans k
  size h := h.size
  alloc A o hn := KR.of_below ((Below.refl n₀ A).alloc hn o) hR
  drewN A n := KR.of_below (below_drewN _ _ n : Below n₀ A (A.drewN n)) hR
  drew A := KR.of_below ((Below.refl n₀ A).drew) hR
  same h b hb := h.block b (by
    rcases hb with hb | rfl | rfl | rfl
    · exact hS b hb
    · exact hq.1
    · exact hq.2.1
    · exact hq.2.2)
end Go.Proofs.YtbailpfjgjcbdaaGreatDoor
