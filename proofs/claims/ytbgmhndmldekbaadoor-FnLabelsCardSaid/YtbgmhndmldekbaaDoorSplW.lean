/- The model divides a text at a byte: its pieces, in a slice of its own. -/
import Derived.Test.YtbgmhndmldekbaaDoorProg
import Derived.WalkKit
import Derived.ProofKit
import Derived.Outline
import Derived.Laws.IdiomStrings
import Derived.OwnWalk
import Derived.Maps.AppendAt
import Derived.Test.YtbgmhndmldekbaaDoorLow
import Derived.Test.YtbgmhndmldekbaaDoorMath
namespace Go.Proofs.YtbgmhndmldekbaaDoor
open Go.RowKit Go.Lib
/-- Texts as the memory holds them. -/
def strs (ps : List (List UInt8)) : List Value := ps.map fun l => Value.string ⟨l.toArray⟩
theorem strs_len (ps : List (List UInt8)) : (strs ps).length = ps.length := by simp [strs]
theorem strs_app (a b : List (List UInt8)) : strs (a ++ b) = strs a ++ strs b := by simp [strs]
theorem info_str : (Tryd.prog.info? 9).map (fun i => (i.zero, i.size, i.bytes)) = some (some (.string ByteArray.empty), 1, 16) := by kernel_rfl
theorem own_shape_s {w : World} {base : Nat} {e : TypeId} {size : Nat} {v : Value} {n : Nat} {xs : List Value} (h : w.ownsRow base e size v n xs) : ∃ A c, v = .slice A n c := by
  rcases h.2 with ⟨rfl, rfl⟩ | ⟨g, cap, cur, rfl, _⟩
  · exact ⟨_, _, rfl⟩
  · exact ⟨_, _, rfl⟩
theorem own_more_s {w : World} {lo : Nat} {v : Value} {ps qs : List (List UInt8)} {p : List UInt8} {x : Value} (h : w.ownsRow lo 9 1 v (ps.length + 1) (strs ps ++ [x])) (he : qs = ps ++ [p]) (hx : x = Value.string ⟨p.toArray⟩) :
    ∃ A c, v = .slice A qs.length c ∧ w.ownsRow lo 9 1 v qs.length (strs qs) := by
  subst hx he
  obtain ⟨A, c, rfl⟩ := own_shape_s h
  refine ⟨A, c, by simp, ?_⟩
  rw [strs_app, List.length_append]
  exact h
theorem extract_str (s : ByteArray) (a b : Nat) : Value.string (s.extract a b) = Value.string ⟨((s.data.toList.drop a).take (b - a)).toArray⟩ := by
  congr 1
  apply ByteArray.ext
  apply Array.ext'
  rw [extract_data]
theorem byte_ne {s : ByteArray} {k : Nat} {b : UInt8} (h : k < s.size) (hn : (s[k]).toNat ≠ b.toNat) : s[k] ≠ b := fun e => hn (by rw [e])
theorem drop_hit {s : ByteArray} {f k : Nat} {b : UInt8} (hfk : f ≤ k) (h : k < s.size) (e : s[k] = b) : s.data.toList.drop f = (s.data.toList.drop f).take (k - f) ++ b :: s.data.toList.drop (k + 1) := by
  have h1 : s.data.toList.drop k = b :: s.data.toList.drop (k + 1) := drop_one _ _ _ (by rw [byte_at s k h, e])
  have h2 : (s.data.toList.drop f).drop (k - f) = s.data.toList.drop k := by rw [List.drop_drop]; congr 1; omega
  rw [← h1, ← h2, List.take_append_drop]
theorem take_miss {s : ByteArray} {f k : Nat} {b : UInt8} (hfk : f ≤ k) (h : k < s.size) (e : s[k] ≠ b) (hb : b ∉ (s.data.toList.drop f).take (k - f)) : b ∉ (s.data.toList.drop f).take (k + 1 - f) := by
  rw [show k + 1 - f = k - f + 1 by omega, take_one _ (k - f) s[k] (by rw [List.getElem?_drop, show f + (k - f) = k by omega]; exact byte_at s k h)]
  simp only [List.mem_append, List.mem_singleton, not_or]
  exact ⟨hb, Ne.symm e⟩
end Go.Proofs.YtbgmhndmldekbaaDoor
