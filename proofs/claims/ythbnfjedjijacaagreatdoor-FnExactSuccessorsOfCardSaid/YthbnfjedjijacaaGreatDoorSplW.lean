/- The model divides a text at a byte: its pieces, in a slice of its own. -/
import Derived.Test.YthbnfjedjijacaaGreatDoorProg
import Derived.WalkKit
import Derived.ProofKit
import Derived.Outline
import Derived.Laws.IdiomStrings
import Derived.OwnWalk
import Derived.Maps.AppendAt
import Derived.Test.YthbnfjedjijacaaGreatDoorLow
import Derived.Test.YthbnfjedjijacaaGreatDoorMath
namespace Go.Proofs.YthbnfjedjijacaaGreatDoor
open Go.RowKit Go.Lib
/-- Texts as the memory holds them. -/
def strs (ps : List (List UInt8)) : List Value := ps.map fun l => Value.string ⟨l.toArray⟩
theorem strs_len (ps : List (List UInt8)) : (strs ps).length = ps.length := by simp [strs]
theorem strs_app (a b : List (List UInt8)) : strs (a ++ b) = strs a ++ strs b := by simp [strs]
theorem info_str : (Tryz.prog.info? 9).map (fun i => (i.zero, i.size, i.bytes)) = some (some (.string ByteArray.empty), 1, 16) := by kernel_rfl
theorem own_shape_s {w : World} {base : Nat} {e : TypeId} {size : Nat} {v : Value} {n : Nat} {xs : List Value} (h : w.ownsRow base e size v n xs) : ∃ A c, v = .slice A n c := by
  rcases h.2 with ⟨rfl, rfl⟩ | ⟨g, cap, cur, rfl, _⟩
  · exact ⟨_, _, rfl⟩
  · exact ⟨_, _, rfl⟩
theorem own_more_s {w : World} {lo : Nat} {v : Value} {ps qs : List (List UInt8)} {p : List UInt8} {x : Value} (h : w.ownsRow lo 9 1 v (ps.length + 1) (strs ps ++ [x])) (he : qs = ps ++ [p]) (hx : x = Value.string ⟨p.toArray⟩) :
    ∃ A c, v = .slice A qs.length c ∧ w.ownsRow lo 9 1 v qs.length (strs qs) := by
  subst hx he
  obtain ⟨A, c, rfl⟩ := own_shape_s h
  refine ⟨A, c, by simp, ?_⟩
  rw [strs_app, List.length_append]
  exact h
theorem extract_str (s : ByteArray) (a b : Nat) : Value.string (s.extract a b) = Value.string ⟨((s.data.toList.drop a).take (b - a)).toArray⟩ := by
  congr 1
  apply ByteArray.ext
  apply Array.ext'
  rw [extract_data]
theorem byte_ne {s : ByteArray} {k : Nat} {b : UInt8} (h : k < s.size) (hn : (s[k]).toNat ≠ b.toNat) : s[k] ≠ b := fun e => hn (by rw [e])
theorem drop_hit {s : ByteArray} {f k : Nat} {b : UInt8} (hfk : f ≤ k) (h : k < s.size) (e : s[k] = b) : s.data.toList.drop f = (s.data.toList.drop f).take (k - f) ++ b :: s.data.toList.drop (k + 1) := by
  have h1 : s.data.toList.drop k = b :: s.data.toList.drop (k + 1) := drop_one _ _ _ (by rw [byte_at s k h, e])
  have h2 : (s.data.toList.drop f).drop (k - f) = s.data.toList.drop k := by rw [List.drop_drop]; congr 1; omega
  rw [← h1, ← h2, List.take_append_drop]
theorem take_miss {s : ByteArray} {f k : Nat} {b : UInt8} (hfk : f ≤ k) (h : k < s.size) (e : s[k] ≠ b) (hb : b ∉ (s.data.toList.drop f).take (k - f)) : b ∉ (s.data.toList.drop f).take (k + 1 - f) := by
  rw [show k + 1 - f = k - f + 1 by omega, take_one _ (k - f) s[k] (by rw [List.getElem?_drop, show f + (k - f) = k by omega]; exact byte_at s k h)]
  simp only [List.mem_append, List.mem_singleton, not_or]
  exact ⟨hb, Ne.symm e⟩
set_option maxHeartbeats 1600000 in
theorem split_any (s : ByteArray) (b : UInt8) (w : World) (hsz : s.size ≤ 1048576) :
    Calls Tryz.prog 118 #[.string s, .int .u8 (b.toNat : Int)] w fun e w' => ∃ A c, e = .returned (.slice A (pcs b s.data.toList).length c) ∧
      OwnV w' w.heap.size w'.heap.size 9 1 A (pcs b s.data.toList).length c (strs (pcs b s.data.toList)) ∧ Below w.heap.size w w' := by
  obtain ⟨i0, hi, hz0, hz1, hz2⟩ := info_parts info_str
  have HO := Lib.hid (World.ownsRow_made (e := 9) (size := 1) w #[] 0 (Nat.le_refl _) (Nat.zero_le _) rfl)
  have HBL := Lib.hid (show Below w.heap.size w (w.alloc (.cells #[] 9)) from (Below.refl _ _).alloc (Nat.le_refl _) _)
  have hb8 := b.toNat_lt
  go_enter Tryz.func118, Tryz.ntmps118
  go_wp2
  go_loopw [5, 6, 7] (fun v fv iv wr => ∃ (k f : Nat) (ps : List (List UInt8)) (A : Option Addr) (c : Nat), f ≤ k ∧ k ≤ s.size ∧ iv = .int .i64 k ∧ fv = .int .i64 f ∧ v = .slice A ps.length c ∧ ps.length ≤ k ∧ wr.ownsRow w.heap.size 9 1 v ps.length (strs ps) ∧ Below w.heap.size w wr ∧ Hid (pcs b s.data.toList = ps ++ pcs b (s.data.toList.drop f) ∧ b ∉ (s.data.toList.drop f).take (k - f))) (fun _ _ i _ => s.size - (intOf i).toNat)
  case atStart => exact ⟨0, 0, [], _, _, Nat.le_refl _, Nat.zero_le _, rfl, rfl, rfl, Nat.zero_le _, HO.out, HBL.out, by simp, by simp⟩
  case round =>
    obtain ⟨k, f, ps, A, c, hfk, hk, rfl, rfl, rfl, hpl, ho, hb, HI⟩ := hrel
    obtain ⟨wo, rfl⟩ : ∃ wo : World, wo = wr := ⟨_, rfl⟩
    have hsz2 := hb.size
    have HOW := Lib.hid ho
    have HB := Lib.hid hb
    clear HO HBL ho hb
    by_cases hlt : k < s.size
    · have hbk := (s[k]).toNat_lt
      by_cases he : (s[k]).toNat = b.toNat
      · have HE := Lib.hid (UInt8.toNat_inj.1 he)
        have HX := Lib.hid (extract_str s f k)
        have HN := Lib.hid (show pcs b s.data.toList = (ps ++ [(s.data.toList.drop f).take (k - f)]) ++ pcs b (s.data.toList.drop (k + 1)) by
          rw [HI.out.1, drop_hit hfk hlt HE.out, pcs_hit b _ _ HI.out.2]
          rw [← drop_hit hfk hlt HE.out]
          simp)
        go_wp2_with (at_builtin; refine wpList_append_own _ rfl _ _ 22 rfl w.heap.size 9 i0 (.string ByteArray.empty) 1 16 Tryz.underlying22 hi hz0 hz1 hz2 rfl (by decide) (.slice A ps.length c) ps.length (strs ps) rfl (by exact HOW.out.alloc _) ⟨wo.heap.size, 0, none⟩ 1 1 [.string (s.extract f k)] rfl rfl (cell_one_new _ _ _) (by intro u hu; simp at hu; subst hu; rfl) (by unfold maxLen; omega) (by omega) (by simp; omega) ?_; intro v2 w2 ho hg _; have HG := Lib.hid hg; have HO2 := Lib.hid ho; clear ho hg)
        obtain ⟨A4, c4, rfl, ho4⟩ := own_more_s HO2.out rfl HX.out
        go_roundw
        case rel => exact ⟨k + 1, k + 1, _, A4, c4, Nat.le_refl _, by omega, by go_num, by go_num, rfl, by simp; omega, ho4, (HB.out.alloc hsz2 _).grown HG.out (by simp; omega) (fun q hq => (HOW.out.lt q hq).1), HN.out, by simp⟩
        case measure => simp [intOf]; try omega
      · have HM := Lib.hid (take_miss hfk hlt (byte_ne hlt he) HI.out.2)
        have he' : (((s[k]).toNat : Int) == (b.toNat : Int)) = false := ib_ne (by omega)
        clear he
        go_wp2
        go_roundw
        case rel => exact ⟨k + 1, f, ps, A, c, by omega, by omega, by go_num, rfl, rfl, by omega, HOW.out, HB.out, HI.out.1, HM.out⟩
        case measure => simp [intOf]; try omega
    · have hke : k = s.size := by omega
      subst hke
      have HX := Lib.hid (extract_str s f s.size)
      have HN := Lib.hid (show pcs b s.data.toList = ps ++ [(s.data.toList.drop f).take (s.size - f)] by
        have hful : (s.data.toList.drop f).take (s.size - f) = s.data.toList.drop f := List.take_of_length_le (by rw [List.length_drop, byte_len]; exact Nat.le_refl _)
        rw [HI.out.1, pcs_none b _ (by have := HI.out.2; rw [hful] at this; exact this), hful])
      go_wp2_with (at_builtin; refine wpList_append_own _ rfl _ _ 22 rfl w.heap.size 9 i0 (.string ByteArray.empty) 1 16 Tryz.underlying22 hi hz0 hz1 hz2 rfl (by decide) (.slice A ps.length c) ps.length (strs ps) rfl (by exact HOW.out.alloc _) ⟨wo.heap.size, 0, none⟩ 1 1 [.string (s.extract f s.size)] rfl rfl (cell_one_new _ _ _) (by intro u hu; simp at hu; subst hu; rfl) (by unfold maxLen; omega) (by omega) (by simp; omega) ?_; intro v2 w2 ho hg _; have HG := Lib.hid hg; have HO2 := Lib.hid ho; clear ho hg)
      obtain ⟨A4, c4, rfl, ho4⟩ := own_more_s HO2.out HN.out HX.out
      go_ret
      exact ⟨A4, c4, rfl, OwnV.mk' ho4, (HB.out.alloc hsz2 _).grown HG.out (by simp; omega) (fun q hq => (HOW.out.lt q hq).1)⟩
end Go.Proofs.YthbnfjedjijacaaGreatDoor
