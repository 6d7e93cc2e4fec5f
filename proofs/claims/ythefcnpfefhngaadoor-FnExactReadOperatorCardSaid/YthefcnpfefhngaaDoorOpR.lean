/- Reading an operator from its text: the model's and the program's functions by one contract each. -/
import Derived.Test.YthefcnpfefhngaaDoorProg
import Derived.WalkKit
import Derived.ProofKit
import Derived.Outline
import Derived.LoopN
import Derived.Deep.MidRow
import Derived.Lib.Hide
import Derived.ChangeOld
import Derived.Below
import Derived.Test.YthefcnpfefhngaaDoorOpW
namespace Go.Proofs.YthefcnpfefhngaaDoor
open Go.RowKit
/-- The texts, as lists of bytes. -/
def formsL : List (List UInt8) := [[43], [45], [42], [61], [35], [60], [60, 61], [38], [124]]
/-- The place of a text among some, from a number on; -1 if it is none of them. -/
def placeL (l : List UInt8) : List (List UInt8) → Int → Int
  | [], _ => -1
  | x :: r, i => if (x == l) = true then i else placeL l r (i + 1)
def opOf (s : ByteArray) : Int := placeL s.toList formsL 0
def rdR (s : ByteArray) : Int × Bool := if opOf s < 0 then (0, false) else (opOf s, true)
theorem rdR_no {s : ByteArray} (h : opOf s = -1) : rdR s = (0, false) := by unfold rdR; rw [if_pos (by omega)]
theorem rdR_yes {s : ByteArray} {k : Nat} (h : opOf s = (k : Int)) : rdR s = ((k : Int), true) := by unfold rdR; rw [if_neg (by omega), h]
theorem place_step {l x : List UInt8} {r : List (List UInt8)} {i : Int} (h : (x == l) = false) : placeL l (x :: r) i = placeL l r (i + 1) := by
  show (if (x == l) = true then i else placeL l r (i + 1)) = _
  rw [h]; rfl
theorem place_here {l x : List UInt8} {r : List (List UInt8)} {i : Int} (h : (x == l) = true) : placeL l (x :: r) i = i := by
  show (if (x == l) = true then i else placeL l r (i + 1)) = _
  rw [h]; rfl
/-- Where the texts before place k are others, the place of the text is as from there on. -/
theorem place_drop {l : List UInt8} : ∀ (k : Nat), k ≤ 9 → (∀ j x, j < k → formsL[j]? = some x → (x == l) = false) → placeL l formsL 0 = placeL l (formsL.drop k) (k : Int) := by
  intro k
  induction k with
  | zero => intro _ _; rfl
  | succ k ih =>
    intro hk h
    rw [ih (by omega) (fun j x hj hx => h j x (by omega) hx)]
    have hlt : k < formsL.length := by show k < 9; omega
    have hx : formsL[k]? = some formsL[k] := List.getElem?_eq_getElem hlt
    rw [List.drop_eq_getElem_cons hlt, place_step (h k _ (by omega) hx)]
    rfl
theorem op_here {s : ByteArray} {k : Nat} {x : List UInt8} (hk : k < 9) (h : ∀ j y, j < k → formsL[j]? = some y → (y == s.toList) = false) (hx : formsL[k]? = some x) (e : (x == s.toList) = true) : opOf s = (k : Int) := by
  unfold opOf
  rw [place_drop k (by omega) h]
  obtain ⟨hlt, rfl⟩ := List.getElem?_eq_some_iff.1 hx
  rw [List.drop_eq_getElem_cons hlt, place_here e]
theorem op_none {s : ByteArray} (h : ∀ j y, j < 9 → formsL[j]? = some y → (y == s.toList) = false) : opOf s = -1 := by
  unfold opOf
  rw [place_drop 9 (by omega) h]
  rfl
theorem none_snoc {l x : List UInt8} {k : Nat} (hx : formsL[k]? = some x) (e : (x == l) = false) (h : ∀ j y, j < k → formsL[j]? = some y → (y == l) = false) : ∀ j y, j < k + 1 → formsL[j]? = some y → (y == l) = false := by
  intro j y hj hy
  by_cases e2 : j = k
  · subst e2
    rw [hx] at hy
    injection hy with hy
    subst hy
    exact e
  · exact h j y (by omega) hy
set_option maxRecDepth 100000 in
theorem opsL_any (w : World) : Calls Tryd.prog 23 #[] w fun e w' => e = .returned (.slice (some ⟨w.heap.size, 0, none⟩) 9 9) ∧ w.alloc (.cells #[.string ⟨#[43]⟩, .string ⟨#[45]⟩, .string ⟨#[42]⟩, .string ⟨#[61]⟩, .string ⟨#[35]⟩, .string ⟨#[60]⟩, .string ⟨#[60, 61]⟩, .string ⟨#[38]⟩, .string ⟨#[124]⟩] 9) = w' := by
  go_enter Tryd.func23, Tryd.ntmps23
  go_wp2
  go_ret
  exact ⟨rfl, rfl⟩
set_option maxHeartbeats 2000000 in
set_option maxRecDepth 100000 in
theorem specOp_any (s : ByteArray) (w : World) : Calls Tryd.prog 24 #[.string s] w fun e w' => e = .returned (.int .i64 (opOf s)) ∧ Below w.heap.size w w' := by
  have HB := Lib.hid (fun o : Obj => (Below.refl w.heap.size w).alloc (Nat.le_refl _) o)
  go_enter Tryd.func24, Tryd.ntmps24
  go_wp2_with (go_at_call 23; refine (opsL_any _).mono ?_; rintro e w' ⟨rfl, rfl⟩)
  go_loop [4] (fun i => ∃ k : Nat, k ≤ 9 ∧ i = .int .i64 k ∧ Hid (∀ j y, j < k → formsL[j]? = some y → (y == s.toList) = false)) (fun i => 9 - (intOf i).toNat)
  case atStart => exact ⟨0, by omega, rfl, fun j y hj => by omega⟩
  case round =>
    obtain ⟨k, hk, rfl, HN⟩ := hrel
    have h10 : k = 0 ∨ k = 1 ∨ k = 2 ∨ k = 3 ∨ k = 4 ∨ k = 5 ∨ k = 6 ∨ k = 7 ∨ k = 8 ∨ 9 ≤ k := by omega
    rcases h10 with rfl | rfl | rfl | rfl | rfl | rfl | rfl | rfl | rfl | h9
    · rcases e : ([43] == s.toList) with _ | _
      · have HE := Lib.hid (none_snoc (k := 0) rfl e HN.out)
        go_wp2
        go_round
        case rel => exact ⟨1, by omega, by go_num, HE⟩
        case measure => simp [intOf]
      · have H := Lib.hid (op_here (k := 0) (by omega) HN.out rfl e)
        go_wp2
        go_ret
        exact ⟨by rw [H.out]; rfl, HB.out _⟩
    · rcases e : ([45] == s.toList) with _ | _
      · have HE := Lib.hid (none_snoc (k := 1) rfl e HN.out)
        go_wp2
        go_round
        case rel => exact ⟨2, by omega, by go_num, HE⟩
        case measure => simp [intOf]
      · have H := Lib.hid (op_here (k := 1) (by omega) HN.out rfl e)
        go_wp2
        go_ret
        exact ⟨by rw [H.out]; rfl, HB.out _⟩
    · rcases e : ([42] == s.toList) with _ | _
      · have HE := Lib.hid (none_snoc (k := 2) rfl e HN.out)
        go_wp2
        go_round
        case rel => exact ⟨3, by omega, by go_num, HE⟩
        case measure => simp [intOf]
      · have H := Lib.hid (op_here (k := 2) (by omega) HN.out rfl e)
        go_wp2
        go_ret
        exact ⟨by rw [H.out]; rfl, HB.out _⟩
    · rcases e : ([61] == s.toList) with _ | _
      · have HE := Lib.hid (none_snoc (k := 3) rfl e HN.out)
        go_wp2
        go_round
        case rel => exact ⟨4, by omega, by go_num, HE⟩
        case measure => simp [intOf]
      · have H := Lib.hid (op_here (k := 3) (by omega) HN.out rfl e)
        go_wp2
        go_ret
        exact ⟨by rw [H.out]; rfl, HB.out _⟩
    · rcases e : ([35] == s.toList) with _ | _
      · have HE := Lib.hid (none_snoc (k := 4) rfl e HN.out)
        go_wp2
        go_round
        case rel => exact ⟨5, by omega, by go_num, HE⟩
        case measure => simp [intOf]
      · have H := Lib.hid (op_here (k := 4) (by omega) HN.out rfl e)
        go_wp2
        go_ret
        exact ⟨by rw [H.out]; rfl, HB.out _⟩
    · rcases e : ([60] == s.toList) with _ | _
      · have HE := Lib.hid (none_snoc (k := 5) rfl e HN.out)
        go_wp2
        go_round
        case rel => exact ⟨6, by omega, by go_num, HE⟩
        case measure => simp [intOf]
      · have H := Lib.hid (op_here (k := 5) (by omega) HN.out rfl e)
        go_wp2
        go_ret
        exact ⟨by rw [H.out]; rfl, HB.out _⟩
    · rcases e : ([60, 61] == s.toList) with _ | _
      · have HE := Lib.hid (none_snoc (k := 6) rfl e HN.out)
        go_wp2
        go_round
        case rel => exact ⟨7, by omega, by go_num, HE⟩
        case measure => simp [intOf]
      · have H := Lib.hid (op_here (k := 6) (by omega) HN.out rfl e)
        go_wp2
        go_ret
        exact ⟨by rw [H.out]; rfl, HB.out _⟩
    · rcases e : ([38] == s.toList) with _ | _
      · have HE := Lib.hid (none_snoc (k := 7) rfl e HN.out)
        go_wp2
        go_round
        case rel => exact ⟨8, by omega, by go_num, HE⟩
        case measure => simp [intOf]
      · have H := Lib.hid (op_here (k := 7) (by omega) HN.out rfl e)
        go_wp2
        go_ret
        exact ⟨by rw [H.out]; rfl, HB.out _⟩
    · rcases e : ([124] == s.toList) with _ | _
      · have HE := Lib.hid (none_snoc (k := 8) rfl e HN.out)
        go_wp2
        go_round
        case rel => exact ⟨9, by omega, by go_num, HE⟩
        case measure => simp [intOf]
      · have H := Lib.hid (op_here (k := 8) (by omega) HN.out rfl e)
        go_wp2
        go_ret
        exact ⟨by rw [H.out]; rfl, HB.out _⟩
    · have H := Lib.hid (op_none (fun j y hj hy => HN.out j y (by omega) hy))
      have hge : ¬ k < 9 := by omega
      go_wp2
      go_ret
      exact ⟨by rw [H.out]; rfl, HB.out _⟩
theorem opOf_cases (s : ByteArray) : opOf s = -1 ∨ ∃ k : Nat, k < 9 ∧ opOf s = (k : Int) := by
  have h : ∀ k : Nat, k ≤ 9 → (∀ j y, j < k → formsL[j]? = some y → (y == s.toList) = false) ∨ ∃ i : Nat, i < 9 ∧ opOf s = (i : Int) := by
    intro k
    induction k with
    | zero => intro _; exact .inl (fun j y hj => by omega)
    | succ k ih =>
      intro hk
      rcases ih (by omega) with h | h
      · have hlt : k < formsL.length := by show k < 9; omega
        have hx : formsL[k]? = some formsL[k] := List.getElem?_eq_getElem hlt
        rcases e : (formsL[k] == s.toList) with _ | _
        · exact .inl (none_snoc hx e h)
        · exact .inr ⟨k, by omega, op_here (by omega) h hx e⟩
      · exact .inr h
  rcases h 9 (by omega) with h | h
  · exact .inl (op_none h)
  · exact .inr h
set_option maxRecDepth 100000 in
theorem specRead_any (s : ByteArray) (w : World) : Calls Tryd.prog 11 #[.string s] w fun e w' => e = .returned (.tuple #[.int .i64 (rdR s).1, .bool (rdR s).2]) ∧ Below w.heap.size w w' := by
  have C := Lib.hid (specOp_any s w)
  rcases opOf_cases s with h | ⟨k, hk, h⟩
  · have H := Lib.hid (rdR_no h)
    have HO := Lib.hid h
    clear h
    go_enter Tryd.func11, Tryd.ntmps11
    go_wp2_with (go_at_call 24; refine (C.out).mono ?_; rw [HO.out]; rintro e w1 ⟨rfl, hb⟩)
    go_ret2
    exact ⟨by rw [H.out]; rfl, hb⟩
  · have H := Lib.hid (rdR_yes h)
    have HO := Lib.hid h
    clear h
    go_enter Tryd.func11, Tryd.ntmps11
    go_wp2_with (go_at_call 24; refine (C.out).mono ?_; rw [HO.out]; rintro e w1 ⟨rfl, hb⟩)
    go_ret2
    exact ⟨by rw [H.out]; rfl, hb⟩
theorem idx_i0 : ∀ w : World, (Instr.index 42 (.agg #[.string ⟨#[43]⟩, .int .i64 4, .bool true, .string ⟨#[45]⟩, .int .i64 4, .bool false, .string ⟨#[42]⟩, .int .i64 5, .bool true, .string ⟨#[61]⟩, .int .i64 3, .bool true, .string ⟨#[35]⟩, .int .i64 3, .bool true, .string ⟨#[60]⟩, .int .i64 3, .bool false, .string ⟨#[60, 61]⟩, .int .i64 3, .bool false, .string ⟨#[38]⟩, .int .i64 2, .bool true, .string ⟨#[124]⟩, .int .i64 1, .bool true]) (.int .i64 0)).run Tryd.prog w = .ok (.agg #[.string ⟨#[43]⟩, .int .i64 4, .bool true]) w := fun _ => by kernel_rfl
theorem idx_i1 : ∀ w : World, (Instr.index 42 (.agg #[.string ⟨#[43]⟩, .int .i64 4, .bool true, .string ⟨#[45]⟩, .int .i64 4, .bool false, .string ⟨#[42]⟩, .int .i64 5, .bool true, .string ⟨#[61]⟩, .int .i64 3, .bool true, .string ⟨#[35]⟩, .int .i64 3, .bool true, .string ⟨#[60]⟩, .int .i64 3, .bool false, .string ⟨#[60, 61]⟩, .int .i64 3, .bool false, .string ⟨#[38]⟩, .int .i64 2, .bool true, .string ⟨#[124]⟩, .int .i64 1, .bool true]) (.int .i64 1)).run Tryd.prog w = .ok (.agg #[.string ⟨#[45]⟩, .int .i64 4, .bool false]) w := fun _ => by kernel_rfl
theorem idx_i2 : ∀ w : World, (Instr.index 42 (.agg #[.string ⟨#[43]⟩, .int .i64 4, .bool true, .string ⟨#[45]⟩, .int .i64 4, .bool false, .string ⟨#[42]⟩, .int .i64 5, .bool true, .string ⟨#[61]⟩, .int .i64 3, .bool true, .string ⟨#[35]⟩, .int .i64 3, .bool true, .string ⟨#[60]⟩, .int .i64 3, .bool false, .string ⟨#[60, 61]⟩, .int .i64 3, .bool false, .string ⟨#[38]⟩, .int .i64 2, .bool true, .string ⟨#[124]⟩, .int .i64 1, .bool true]) (.int .i64 2)).run Tryd.prog w = .ok (.agg #[.string ⟨#[42]⟩, .int .i64 5, .bool true]) w := fun _ => by kernel_rfl
theorem idx_i3 : ∀ w : World, (Instr.index 42 (.agg #[.string ⟨#[43]⟩, .int .i64 4, .bool true, .string ⟨#[45]⟩, .int .i64 4, .bool false, .string ⟨#[42]⟩, .int .i64 5, .bool true, .string ⟨#[61]⟩, .int .i64 3, .bool true, .string ⟨#[35]⟩, .int .i64 3, .bool true, .string ⟨#[60]⟩, .int .i64 3, .bool false, .string ⟨#[60, 61]⟩, .int .i64 3, .bool false, .string ⟨#[38]⟩, .int .i64 2, .bool true, .string ⟨#[124]⟩, .int .i64 1, .bool true]) (.int .i64 3)).run Tryd.prog w = .ok (.agg #[.string ⟨#[61]⟩, .int .i64 3, .bool true]) w := fun _ => by kernel_rfl
theorem idx_i4 : ∀ w : World, (Instr.index 42 (.agg #[.string ⟨#[43]⟩, .int .i64 4, .bool true, .string ⟨#[45]⟩, .int .i64 4, .bool false, .string ⟨#[42]⟩, .int .i64 5, .bool true, .string ⟨#[61]⟩, .int .i64 3, .bool true, .string ⟨#[35]⟩, .int .i64 3, .bool true, .string ⟨#[60]⟩, .int .i64 3, .bool false, .string ⟨#[60, 61]⟩, .int .i64 3, .bool false, .string ⟨#[38]⟩, .int .i64 2, .bool true, .string ⟨#[124]⟩, .int .i64 1, .bool true]) (.int .i64 4)).run Tryd.prog w = .ok (.agg #[.string ⟨#[35]⟩, .int .i64 3, .bool true]) w := fun _ => by kernel_rfl
theorem idx_i5 : ∀ w : World, (Instr.index 42 (.agg #[.string ⟨#[43]⟩, .int .i64 4, .bool true, .string ⟨#[45]⟩, .int .i64 4, .bool false, .string ⟨#[42]⟩, .int .i64 5, .bool true, .string ⟨#[61]⟩, .int .i64 3, .bool true, .string ⟨#[35]⟩, .int .i64 3, .bool true, .string ⟨#[60]⟩, .int .i64 3, .bool false, .string ⟨#[60, 61]⟩, .int .i64 3, .bool false, .string ⟨#[38]⟩, .int .i64 2, .bool true, .string ⟨#[124]⟩, .int .i64 1, .bool true]) (.int .i64 5)).run Tryd.prog w = .ok (.agg #[.string ⟨#[60]⟩, .int .i64 3, .bool false]) w := fun _ => by kernel_rfl
theorem idx_i6 : ∀ w : World, (Instr.index 42 (.agg #[.string ⟨#[43]⟩, .int .i64 4, .bool true, .string ⟨#[45]⟩, .int .i64 4, .bool false, .string ⟨#[42]⟩, .int .i64 5, .bool true, .string ⟨#[61]⟩, .int .i64 3, .bool true, .string ⟨#[35]⟩, .int .i64 3, .bool true, .string ⟨#[60]⟩, .int .i64 3, .bool false, .string ⟨#[60, 61]⟩, .int .i64 3, .bool false, .string ⟨#[38]⟩, .int .i64 2, .bool true, .string ⟨#[124]⟩, .int .i64 1, .bool true]) (.int .i64 6)).run Tryd.prog w = .ok (.agg #[.string ⟨#[60, 61]⟩, .int .i64 3, .bool false]) w := fun _ => by kernel_rfl
theorem idx_i7 : ∀ w : World, (Instr.index 42 (.agg #[.string ⟨#[43]⟩, .int .i64 4, .bool true, .string ⟨#[45]⟩, .int .i64 4, .bool false, .string ⟨#[42]⟩, .int .i64 5, .bool true, .string ⟨#[61]⟩, .int .i64 3, .bool true, .string ⟨#[35]⟩, .int .i64 3, .bool true, .string ⟨#[60]⟩, .int .i64 3, .bool false, .string ⟨#[60, 61]⟩, .int .i64 3, .bool false, .string ⟨#[38]⟩, .int .i64 2, .bool true, .string ⟨#[124]⟩, .int .i64 1, .bool true]) (.int .i64 7)).run Tryd.prog w = .ok (.agg #[.string ⟨#[38]⟩, .int .i64 2, .bool true]) w := fun _ => by kernel_rfl
theorem idx_i8 : ∀ w : World, (Instr.index 42 (.agg #[.string ⟨#[43]⟩, .int .i64 4, .bool true, .string ⟨#[45]⟩, .int .i64 4, .bool false, .string ⟨#[42]⟩, .int .i64 5, .bool true, .string ⟨#[61]⟩, .int .i64 3, .bool true, .string ⟨#[35]⟩, .int .i64 3, .bool true, .string ⟨#[60]⟩, .int .i64 3, .bool false, .string ⟨#[60, 61]⟩, .int .i64 3, .bool false, .string ⟨#[38]⟩, .int .i64 2, .bool true, .string ⟨#[124]⟩, .int .i64 1, .bool true]) (.int .i64 8)).run Tryd.prog w = .ok (.agg #[.string ⟨#[124]⟩, .int .i64 1, .bool true]) w := fun _ => by kernel_rfl
theorem opTab_range {w : World} (h : OpTab w) : w.rangeAt 0 0 [.string ⟨#[43]⟩, .int .i64 4, .bool true, .string ⟨#[45]⟩, .int .i64 4, .bool false, .string ⟨#[42]⟩, .int .i64 5, .bool true, .string ⟨#[61]⟩, .int .i64 3, .bool true, .string ⟨#[35]⟩, .int .i64 3, .bool true, .string ⟨#[60]⟩, .int .i64 3, .bool false, .string ⟨#[60, 61]⟩, .int .i64 3, .bool false, .string ⟨#[38]⟩, .int .i64 2, .bool true, .string ⟨#[124]⟩, .int .i64 1, .bool true] := by
  intro j v hv
  have hj : j < 27 := (List.getElem?_eq_some_iff.1 hv).1
  have hk : j / 3 < 9 := by omega
  obtain ⟨h1, h2, h3⟩ := h (j / 3) (formT[j / 3]'hk) (formL[j / 3]'hk) (formB[j / 3]'hk) (List.getElem?_eq_getElem hk) (List.getElem?_eq_getElem hk) (List.getElem?_eq_getElem hk)
  have hc : j = 0 ∨ j = 1 ∨ j = 2 ∨ j = 3 ∨ j = 4 ∨ j = 5 ∨ j = 6 ∨ j = 7 ∨ j = 8 ∨ j = 9 ∨ j = 10 ∨ j = 11 ∨ j = 12 ∨ j = 13 ∨ j = 14 ∨ j = 15 ∨ j = 16 ∨ j = 17 ∨ j = 18 ∨ j = 19 ∨ j = 20 ∨ j = 21 ∨ j = 22 ∨ j = 23 ∨ j = 24 ∨ j = 25 ∨ j = 26 := by omega
  rcases hc with rfl | rfl | rfl | rfl | rfl | rfl | rfl | rfl | rfl | rfl | rfl | rfl | rfl | rfl | rfl | rfl | rfl | rfl | rfl | rfl | rfl | rfl | rfl | rfl | rfl | rfl | rfl <;> (injection hv with hv; subst hv; first | exact h1 | exact h2 | exact h3)
set_option maxHeartbeats 4000000 in
set_option maxRecDepth 100000 in
theorem implRead_any (s : ByteArray) (w : World) (ht : OpTab w) : Calls Tryd.prog 12 #[.string s] w fun e w' => e = .returned (.tuple #[.int .i64 (rdR s).1, .bool (rdR s).2]) ∧ Below w.heap.size w w' := by
  obtain ⟨cs, hcs⟩ : ∃ cs : List Value, cs = [.string ⟨#[43]⟩, .int .i64 4, .bool true, .string ⟨#[45]⟩, .int .i64 4, .bool false, .string ⟨#[42]⟩, .int .i64 5, .bool true, .string ⟨#[61]⟩, .int .i64 3, .bool true, .string ⟨#[35]⟩, .int .i64 3, .bool true, .string ⟨#[60]⟩, .int .i64 3, .bool false, .string ⟨#[60, 61]⟩, .int .i64 3, .bool false, .string ⟨#[38]⟩, .int .i64 2, .bool true, .string ⟨#[124]⟩, .int .i64 1, .bool true] := ⟨_, rfl⟩
  have HR := Lib.hid (show w.rangeAt 0 0 cs from by rw [hcs]; exact opTab_range ht)
  have HI : (Tryd.prog.info? 42).map (·.size) = some cs.length := by rw [hcs]; kernel_rfl
  have HI := Lib.hid HI
  have i0 : ∀ w : World, (Instr.index 42 (.agg cs.toArray) (.int .i64 0)).run Tryd.prog w = .ok (.agg #[.string ⟨#[43]⟩, .int .i64 4, .bool true]) w := by rw [hcs]; exact idx_i0
  have i1 : ∀ w : World, (Instr.index 42 (.agg cs.toArray) (.int .i64 1)).run Tryd.prog w = .ok (.agg #[.string ⟨#[45]⟩, .int .i64 4, .bool false]) w := by rw [hcs]; exact idx_i1
  have i2 : ∀ w : World, (Instr.index 42 (.agg cs.toArray) (.int .i64 2)).run Tryd.prog w = .ok (.agg #[.string ⟨#[42]⟩, .int .i64 5, .bool true]) w := by rw [hcs]; exact idx_i2
  have i3 : ∀ w : World, (Instr.index 42 (.agg cs.toArray) (.int .i64 3)).run Tryd.prog w = .ok (.agg #[.string ⟨#[61]⟩, .int .i64 3, .bool true]) w := by rw [hcs]; exact idx_i3
  have i4 : ∀ w : World, (Instr.index 42 (.agg cs.toArray) (.int .i64 4)).run Tryd.prog w = .ok (.agg #[.string ⟨#[35]⟩, .int .i64 3, .bool true]) w := by rw [hcs]; exact idx_i4
  have i5 : ∀ w : World, (Instr.index 42 (.agg cs.toArray) (.int .i64 5)).run Tryd.prog w = .ok (.agg #[.string ⟨#[60]⟩, .int .i64 3, .bool false]) w := by rw [hcs]; exact idx_i5
  have i6 : ∀ w : World, (Instr.index 42 (.agg cs.toArray) (.int .i64 6)).run Tryd.prog w = .ok (.agg #[.string ⟨#[60, 61]⟩, .int .i64 3, .bool false]) w := by rw [hcs]; exact idx_i6
  have i7 : ∀ w : World, (Instr.index 42 (.agg cs.toArray) (.int .i64 7)).run Tryd.prog w = .ok (.agg #[.string ⟨#[38]⟩, .int .i64 2, .bool true]) w := by rw [hcs]; exact idx_i7
  have i8 : ∀ w : World, (Instr.index 42 (.agg cs.toArray) (.int .i64 8)).run Tryd.prog w = .ok (.agg #[.string ⟨#[124]⟩, .int .i64 1, .bool true]) w := by rw [hcs]; exact idx_i8
  clear hcs ht
  go_enter Tryd.func12, Tryd.ntmps12
  go_wp2_with (refine wpList_load_mid rfl 42 _ rfl 0 0 rfl cs _ HR.out Tryd.underlying42 rfl HI.out ?_)
  go_loopw [7] (fun i wr => ∃ k : Nat, k ≤ 9 ∧ i = .int .i64 k ∧ Below w.heap.size w wr ∧ Hid (∀ j y, j < k → formsL[j]? = some y → (y == s.toList) = false)) (fun i _ => 9 - (intOf i).toNat)
  case atStart => exact ⟨0, by omega, rfl, Below.refl _ _, fun j y hj => by omega⟩
  case round =>
    obtain ⟨k, hk, rfl, hb, HN⟩ := hrel
    have hws := hb.size
    have HB := Lib.hid hb
    clear hb
    have h10 : k = 0 ∨ k = 1 ∨ k = 2 ∨ k = 3 ∨ k = 4 ∨ k = 5 ∨ k = 6 ∨ k = 7 ∨ k = 8 ∨ 9 ≤ k := by omega
    rcases h10 with rfl | rfl | rfl | rfl | rfl | rfl | rfl | rfl | rfl | h9
    · rcases e : ([43] == s.toList) with _ | _
      · have HE := Lib.hid (none_snoc (k := 0) rfl e HN.out)
        go_wp2
        go_roundw
        case rel => exact ⟨1, by omega, by go_num, HB.out.alloc hws _, HE⟩
        case measure => simp [intOf]
      · have H := Lib.hid (rdR_yes (op_here (k := 0) (by omega) HN.out rfl e))
        go_wp2
        go_ret2
        exact ⟨by rw [H.out]; rfl, HB.out.alloc hws _⟩
    · rcases e : ([45] == s.toList) with _ | _
      · have HE := Lib.hid (none_snoc (k := 1) rfl e HN.out)
        go_wp2
        go_roundw
        case rel => exact ⟨2, by omega, by go_num, HB.out.alloc hws _, HE⟩
        case measure => simp [intOf]
      · have H := Lib.hid (rdR_yes (op_here (k := 1) (by omega) HN.out rfl e))
        go_wp2
        go_ret2
        exact ⟨by rw [H.out]; rfl, HB.out.alloc hws _⟩
    · rcases e : ([42] == s.toList) with _ | _
      · have HE := Lib.hid (none_snoc (k := 2) rfl e HN.out)
        go_wp2
        go_roundw
        case rel => exact ⟨3, by omega, by go_num, HB.out.alloc hws _, HE⟩
        case measure => simp [intOf]
      · have H := Lib.hid (rdR_yes (op_here (k := 2) (by omega) HN.out rfl e))
        go_wp2
        go_ret2
        exact ⟨by rw [H.out]; rfl, HB.out.alloc hws _⟩
    · rcases e : ([61] == s.toList) with _ | _
      · have HE := Lib.hid (none_snoc (k := 3) rfl e HN.out)
        go_wp2
        go_roundw
        case rel => exact ⟨4, by omega, by go_num, HB.out.alloc hws _, HE⟩
        case measure => simp [intOf]
      · have H := Lib.hid (rdR_yes (op_here (k := 3) (by omega) HN.out rfl e))
        go_wp2
        go_ret2
        exact ⟨by rw [H.out]; rfl, HB.out.alloc hws _⟩
    · rcases e : ([35] == s.toList) with _ | _
      · have HE := Lib.hid (none_snoc (k := 4) rfl e HN.out)
        go_wp2
        go_roundw
        case rel => exact ⟨5, by omega, by go_num, HB.out.alloc hws _, HE⟩
        case measure => simp [intOf]
      · have H := Lib.hid (rdR_yes (op_here (k := 4) (by omega) HN.out rfl e))
        go_wp2
        go_ret2
        exact ⟨by rw [H.out]; rfl, HB.out.alloc hws _⟩
    · rcases e : ([60] == s.toList) with _ | _
      · have HE := Lib.hid (none_snoc (k := 5) rfl e HN.out)
        go_wp2
        go_roundw
        case rel => exact ⟨6, by omega, by go_num, HB.out.alloc hws _, HE⟩
        case measure => simp [intOf]
      · have H := Lib.hid (rdR_yes (op_here (k := 5) (by omega) HN.out rfl e))
        go_wp2
        go_ret2
        exact ⟨by rw [H.out]; rfl, HB.out.alloc hws _⟩
    · rcases e : ([60, 61] == s.toList) with _ | _
      · have HE := Lib.hid (none_snoc (k := 6) rfl e HN.out)
        go_wp2
        go_roundw
        case rel => exact ⟨7, by omega, by go_num, HB.out.alloc hws _, HE⟩
        case measure => simp [intOf]
      · have H := Lib.hid (rdR_yes (op_here (k := 6) (by omega) HN.out rfl e))
        go_wp2
        go_ret2
        exact ⟨by rw [H.out]; rfl, HB.out.alloc hws _⟩
    · rcases e : ([38] == s.toList) with _ | _
      · have HE := Lib.hid (none_snoc (k := 7) rfl e HN.out)
        go_wp2
        go_roundw
        case rel => exact ⟨8, by omega, by go_num, HB.out.alloc hws _, HE⟩
        case measure => simp [intOf]
      · have H := Lib.hid (rdR_yes (op_here (k := 7) (by omega) HN.out rfl e))
        go_wp2
        go_ret2
        exact ⟨by rw [H.out]; rfl, HB.out.alloc hws _⟩
    · rcases e : ([124] == s.toList) with _ | _
      · have HE := Lib.hid (none_snoc (k := 8) rfl e HN.out)
        go_wp2
        go_roundw
        case rel => exact ⟨9, by omega, by go_num, HB.out.alloc hws _, HE⟩
        case measure => simp [intOf]
      · have H := Lib.hid (rdR_yes (op_here (k := 8) (by omega) HN.out rfl e))
        go_wp2
        go_ret2
        exact ⟨by rw [H.out]; rfl, HB.out.alloc hws _⟩
    · have H := Lib.hid (rdR_no (op_none (fun j y hj hy => HN.out j y (by omega) hy)))
      have hge : ¬ k < 9 := by omega
      go_wp2
      go_ret2
      exact ⟨by rw [H.out]; rfl, HB.out⟩
set_option maxRecDepth 100000 in
theorem lawRead_any (s : ByteArray) (w : World) (_hs : s.size ≤ maxLen) (ht : OpTab w) : Calls Tryd.prog 5 #[.string s] w fun e w' => e = .returned (.bool true) ∧ Below w.heap.size w w' := by
  have HT := Lib.hid ht
  clear ht
  by_cases hl : 1048576 < s.size
  · have hlp : (1048576 : Int) < (s.size : Int) := by omega
    go_enter Tryd.func5, Tryd.ntmps5
    go_wp2
    go_ret
    exact ⟨rfl, Below.refl _ _⟩
  have hn : ¬ (1048576 : Int) < (s.size : Int) := by omega
  have h1 : ((rdR s).1 != (rdR s).1) = false := by simp
  have h2 : ((rdR s).2 != (rdR s).2) = false := by simp
  go_enter Tryd.func5, Tryd.ntmps5
  go_wp2_with fail
  refine (specRead_any s w).mono ?_; rintro e w1 ⟨rfl, hb1⟩
  have HB1 := Lib.hid hb1
  clear hb1
  go_wp2_with fail
  refine (implRead_any s w1 (HT.out.below HB1.out)).mono ?_; rintro e w2 ⟨rfl, hb2⟩
  have HB2 := Lib.hid hb2
  clear hb2
  go_wp2
  go_ret
  exact ⟨rfl, HB1.out.trans (HB2.out.mono HB1.out.size)⟩
end Go.Proofs.YthefcnpfefhngaaDoor
