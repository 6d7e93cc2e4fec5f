/- The decimal form of a number, as the model writes it: its digits from the back, then turned round. -/
import Derived.Test.YtbailpfjgjcbdaaGreatDoorProg
import Derived.WalkKit
import Derived.ProofKit
import Derived.Outline
import Derived.Laws.IdiomStrings
import Derived.OwnWalk
import Derived.Maps.AppendAt
import Derived.Test.YtbailpfjgjcbdaaGreatDoorMath
import Derived.Test.YtbailpfjgjcbdaaGreatDoorLow
namespace Go.Proofs.YtbailpfjgjcbdaaGreatDoor
open Go.RowKit Go.Lib
theorem info_u8 : (Tryz.prog.info? 5).map (fun i => (i.zero, i.size, i.bytes)) = some (some (.int .u8 0), 1, 1) := by kernel_rfl
theorem dig_neg {m : Int} (hd : m.tmod 10 < 0) : Value.int .u8 (wrap64 (48 + wrap64 (-m.tmod 10)) % 256) = Value.int .u8 ((dig m.natAbs).toNat : Int) := by
  have h2 : (m.tmod 10).natAbs = m.natAbs % 10 := Int.natAbs_tmod m 10
  have h1 : m.tmod 10 = -((m.natAbs % 10 : Nat) : Int) := by generalize m.tmod 10 = d at *; omega
  rw [dig_toNat, h1]
  congr 1
  have h3 : m.natAbs % 10 < 10 := Nat.mod_lt _ (by decide)
  generalize m.natAbs % 10 = d at *
  unfold wrap64
  omega
theorem dig_pos {m : Int} (hd : ¬ m.tmod 10 < 0) : Value.int .u8 (wrap64 (48 + m.tmod 10) % 256) = Value.int .u8 ((dig m.natAbs).toNat : Int) := by
  have h2 : (m.tmod 10).natAbs = m.natAbs % 10 := Int.natAbs_tmod m 10
  have h1 : m.tmod 10 = ((m.natAbs % 10 : Nat) : Int) := by generalize m.tmod 10 = d at *; omega
  rw [dig_toNat, h1]
  congr 1
  have h3 : m.natAbs % 10 < 10 := Nat.mod_lt _ (by decide)
  generalize m.natAbs % 10 = d at *
  unfold wrap64
  omega
theorem add_at (b off i : Nat) : (⟨b, off, none⟩ : Addr).add i = ⟨b, off + i, none⟩ := by unfold Addr.add; split <;> simp_all
theorem own_shape {w : World} {base : Nat} {e : TypeId} {size : Nat} {v : Value} {n : Nat} {xs : List Value} (h : w.ownsRow base e size v n xs) : ∃ A c, v = .slice A n c := by
  rcases h.2 with ⟨rfl, rfl⟩ | ⟨g, cap, cur, rfl, _⟩
  · exact ⟨_, _, rfl⟩
  · exact ⟨_, _, rfl⟩
theorem own_more {w : World} {lo : Nat} {v : Value} {ds es : List UInt8} {b : UInt8} {x : Value} (h : w.ownsRow lo 5 1 v (ds.length + 1) (bv ds ++ [x])) (he : es = ds ++ [b]) (hx : x = Value.int .u8 (b.toNat : Int)) :
    ∃ A c, v = .slice A es.length c ∧ w.ownsRow lo 5 1 v es.length (bv es) := by
  subst hx he
  obtain ⟨A, c, rfl⟩ := own_shape h
  refine ⟨A, c, by simp, ?_⟩
  rw [← bv_app, List.length_append]
  exact h
end Go.Proofs.YtbailpfjgjcbdaaGreatDoor
