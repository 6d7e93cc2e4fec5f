/- The text of a list of numbers, the program's way: a test of each number, the decimal forms in a slice, strings.Join. -/
import Derived.Test.YtbgmhndmldekbaaDoorLisW
import Derived.Test.YtbgmhndmldekbaaDoorLawI
import Derived.Test.YtbgmhndmldekbaaDoorSplW
import Derived.Shelf.Strings.OnBuilder
namespace Go.Proofs
open Go.Shelf
end Go.Proofs
namespace Go.Proofs.YtbgmhndmldekbaaDoor
open Go.RowKit Go.Lib
theorem inMod_yes {u : Int} (h : 0 ≤ u ∧ u ≤ 63) : inMod u = true := by unfold inMod; exact decide_eq_true h
theorem inMod_no {u : Int} (h : u < 0 ∨ 63 < u) : inMod u = false := by unfold inMod; exact decide_eq_false (by omega)
theorem outMod_any (u : Int) (w : World) : Calls Tryd.prog 18 #[.int .i64 u] w fun e w' => e = .returned (.bool (!inMod u)) ∧ w = w' := by
  by_cases h1 : u < 0
  · have H := Lib.hid (inMod_no (.inl h1))
    go_enter Tryd.func18, Tryd.ntmps18
    go_wp2
    go_ret
    exact ⟨ret_bool (by rw [H.out]; rfl), rfl⟩
  · by_cases h2 : 64 ≤ u
    · have H := Lib.hid (inMod_no (u := u) (.inr (by omega)))
      go_enter Tryd.func18, Tryd.ntmps18
      go_wp2
      go_ret
      exact ⟨ret_bool (by rw [H.out]; rfl), rfl⟩
    · have H := Lib.hid (inMod_yes (u := u) (by omega))
      go_enter Tryd.func18, Tryd.ntmps18
      go_wp2
      go_ret
      exact ⟨ret_bool (by rw [H.out]; rfl), rfl⟩
/-- The place of the first number that a test takes; -1 if it takes none. -/
def idxP (p : Int → Bool) : List Int → Int → Int
  | [], _ => -1
  | x :: r, i => if p x = true then i else idxP p r (i + 1)
theorem idxP_drop (p : Int → Bool) : ∀ (k : Nat) (xs : List Int) (i : Int), (xs.take k).all (fun x => !p x) = true → k ≤ xs.length → idxP p xs i = idxP p (xs.drop k) (i + k)
  | 0, xs, i, _, _ => by simp
  | k + 1, [], i, _, h => by simp at h
  | k + 1, x :: r, i, h, hl => by
    simp only [List.take_succ_cons, List.all_cons, Bool.and_eq_true, Bool.not_eq_true'] at h
    simp only [idxP, List.drop_succ_cons]
    rw [if_neg (by rw [h.1]; exact Bool.false_ne_true), idxP_drop p k r (i + 1) h.2 (by simpa using hl)]
    congr 1
    omega
theorem idxP_hit {p : Int → Bool} {xs : List Int} {k : Nat} {u : Int} (h : (xs.take k).all (fun x => !p x) = true) (hk : xs[k]? = some u) (hp : p u = true) : idxP p xs 0 = k := by
  obtain ⟨hlt, he⟩ := List.getElem?_eq_some_iff.1 hk
  rw [idxP_drop p k xs 0 h (Nat.le_of_lt hlt), List.drop_eq_getElem_cons hlt, he]
  simp only [idxP, hp, if_true]
  omega
theorem idxP_none {p : Int → Bool} {xs : List Int} (h : xs.all (fun x => !p x) = true) : idxP p xs 0 = -1 := by
  rw [idxP_drop p xs.length xs 0 (by rw [List.take_length]; exact h) (Nat.le_refl _), List.drop_length]
  rfl
set_option maxHeartbeats 1600000 in
theorem indexF_any (g : Nat) (eg : ∀ args w, (callFunc g args).run Tryd.prog w = .ok (.enter g args) w) (p : Int → Bool) (hp : ∀ u W, Calls Tryd.prog g #[.int .i64 u] W fun e w' => e = .returned (.bool (p u)) ∧ W = w')
    (A : Option Addr) (n c : Nat) (xs : List Int) (w : World) (hr : IRow w w.heap.size A xs) (hn : xs.length = n) (hm : n ≤ 1048576) :
    Calls Tryd.prog 28 #[.slice A n c, .func (.func g) #[] #[]] w fun e w' => e = .returned (.int .i64 (idxP p xs 0)) ∧ Drawn w w' := by
  subst hn
  have HR := Lib.hid hr
  have HP := Lib.hid hp
  clear hr hp
  go_enter Tryd.func28, Tryd.ntmps28
  go_wp2
  go_loopw [5, 8] (fun _ iv wr => ∃ k : Nat, k ≤ xs.length ∧ iv = .int .i64 k ∧ Drawn w wr ∧ Hid ((xs.take k).all (fun x => !p x) = true)) (fun _ i _ => xs.length - (intOf i).toNat)
  case atStart => exact ⟨0, Nat.zero_le _, rfl, Drawn.refl _, Lib.hid (by simp)⟩
  case round =>
    obtain ⟨k, hk, rfl, hd, HI⟩ := hrel
    obtain ⟨wo, rfl⟩ : ∃ wo : World, wo = wr := ⟨_, rfl⟩
    have HD := Lib.hid hd
    clear hd
    by_cases hlt : k < xs.length
    · obtain ⟨b, off, u, rfl, hbb, hc, HU⟩ := (HR.out.drawn HD.out).at_ hlt
      rcases hpu : p u with _ | _
      · have HS := Lib.hid (show (xs.take (k + 1)).all (fun x => !p x) = true by rw [take_one xs k u HU.out, List.all_append, HI.out]; simp [hpu])
        go_wp2_with (go_at_fn g; refine (HP.out u _).mono ?_; rw [hpu]; rintro e w' ⟨rfl, rfl⟩)
        go_roundw
        case rel => exact ⟨k + 1, by omega, by go_num, by first | exact HD.out.drew | exact HD.out.drew.drew | exact HD.out, HS.out⟩
        case measure => simp [intOf]; omega
      · have H := Lib.hid (idxP_hit HI.out HU.out hpu)
        go_wp2_with (go_at_fn g; refine (HP.out u _).mono ?_; rw [hpu]; rintro e w' ⟨rfl, rfl⟩)
        go_ret
        exact ⟨ret_int H.out.symm, by first | exact HD.out.drew | exact HD.out.drew.drew | exact HD.out⟩
    · have H := Lib.hid (idxP_none (p := p) (xs := xs) (by have := HI.out; rwa [List.take_of_length_le (by omega)] at this))
      go_wp2
      go_ret
      exact ⟨ret_int H.out.symm, by first | exact HD.out.drew | exact HD.out⟩
theorem idxP_ge (p : Int → Bool) (xs : List Int) : ∀ i : Nat, idxP p xs i = -1 ∨ ∃ k : Nat, idxP p xs i = k := by
  induction xs with
  | nil => intro i; exact .inl rfl
  | cons x r ih =>
    intro i
    simp only [idxP]
    by_cases h : p x = true
    · rw [if_pos h]; exact .inr ⟨i, rfl⟩
    · rw [if_neg h]; have := ih (i + 1); simpa using this
theorem idxP_all (p : Int → Bool) : ∀ (xs : List Int) (i : Nat), xs.any p = decide (0 ≤ idxP p xs i)
  | [], _ => by simp [idxP]
  | x :: r, i => by
    by_cases h : p x = true
    · have e : idxP p (x :: r) (i : Int) = (i : Int) := by simp only [idxP]; rw [if_pos h]
      rw [e, List.any_cons, h]
      simp
    · have e : idxP p (x :: r) (i : Int) = idxP p r ((i + 1 : Nat) : Int) := by simp only [idxP]; rw [if_neg h]; rfl
      rw [e, List.any_cons, ← idxP_all p r (i + 1)]
      simp [h]
theorem containsF_any (g : Nat) (eg : ∀ args w, (callFunc g args).run Tryd.prog w = .ok (.enter g args) w) (p : Int → Bool) (hp : ∀ u W, Calls Tryd.prog g #[.int .i64 u] W fun e w' => e = .returned (.bool (p u)) ∧ W = w')
    (A : Option Addr) (n c : Nat) (xs : List Int) (w : World) (hr : IRow w w.heap.size A xs) (hn : xs.length = n) (hm : n ≤ 1048576) :
    Calls Tryd.prog 17 #[.slice A n c, .func (.func g) #[] #[]] w fun e w' => e = .returned (.bool (xs.any p)) ∧ Drawn w w' := by
  have HC := Lib.hid (indexF_any g eg p hp A n c xs w hr hn hm)
  have HA := Lib.hid (idxP_all p xs 0)
  clear hr hp
  rcases idxP_ge p xs 0 with h | ⟨k, h⟩
  · have h' : idxP p xs 0 = -1 := h
    rw [h'] at HC
    have H := Lib.hid (show xs.any p = false by rw [HA.out]; show decide (0 ≤ idxP p xs 0) = false; rw [h']; rfl)
    go_enter Tryd.func17, Tryd.ntmps17
    go_wp2_with fail
    refine HC.out.mono ?_; rintro e w1 ⟨rfl, hd⟩
    have HD := Lib.hid hd
    clear hd
    go_wp2
    go_ret
    exact ⟨ret_bool H.out.symm, HD.out⟩
  · have h' : idxP p xs 0 = (k : Int) := h
    rw [h'] at HC
    have H := Lib.hid (show xs.any p = true by rw [HA.out]; show decide (0 ≤ idxP p xs 0) = true; rw [h']; exact decide_eq_true (by omega))
    go_enter Tryd.func17, Tryd.ntmps17
    go_wp2_with fail
    refine HC.out.mono ?_; rintro e w1 ⟨rfl, hd⟩
    have HD := Lib.hid hd
    clear hd
    go_wp2
    go_ret
    exact ⟨ret_bool H.out.symm, HD.out⟩
end Go.Proofs.YtbgmhndmldekbaaDoor
