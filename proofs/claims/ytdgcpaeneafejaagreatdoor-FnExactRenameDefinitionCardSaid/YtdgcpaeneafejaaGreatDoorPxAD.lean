/- Parts by the program: how many follow; where a body ends. -/
/- The fields of a part: the program's functions. -/
/- The fields of a part: the program's functions, numbers, counts, terms. -/
/- A part in its place: the program's checks. -/
/- Boxes of several words, and records, kept by later worlds. -/
import Derived.Test.YtdgcpaeneafejaaGreatDoorProg
import Derived.WalkKit
import Derived.ProofKit
import Derived.BigQuiet
import Derived.Outline
import Derived.StillTailTactics
import Derived.Conc.MuLone
import Derived.Test.YtdgcpaeneafejaaGreatDoorLow
import Derived.Test.YtdgcpaeneafejaaGreatDoorPxLow
import Derived.Test.YtdgcpaeneafejaaGreatDoorPxWX
import Derived.Test.YtdgcpaeneafejaaGreatDoorTmLow
import Derived.Test.YtdgcpaeneafejaaGreatDoorPxV
namespace Go.Proofs.YtdgcpaeneafejaaGreatDoor
open Go.RowKit
def fmN (k : Nat) : Bool := k == 4 || k == 5
def fmM (k : Nat) : Bool := k == 1
def fmA (k : Nat) : Bool := k == 1 || (k == 3 || k == 5)
def fmF (k : Nat) : Int := if k = 1 ∨ k = 3 ∨ k = 4 then 1 else if k = 2 then 2 else 0
/-- The table of the forms of parts, as it lies. -/
def FormTab (w : World) : Prop := ∀ k : Nat, k < 6 →
  w.cell? ⟨0, k * 4, none⟩ = some (.bool (fmN k)) ∧ w.cell? ⟨0, k * 4 + 1, none⟩ = some (.bool (fmM k)) ∧
  w.cell? ⟨0, k * 4 + 2, none⟩ = some (.bool (fmA k)) ∧ w.cell? ⟨0, k * 4 + 3, none⟩ = some (.int .i64 (fmF k))
theorem FormTab.below {w w' : World} (h : FormTab w) (hb : Below w.heap.size w w') : FormTab w' := fun k hk => by
  obtain ⟨c1, c2, c3, c4⟩ := h k hk
  exact ⟨(hb.cell (p := ⟨_, _, none⟩) (World.block_lt_of_cell? w _ c1)).trans c1, (hb.cell (p := ⟨_, _, none⟩) (World.block_lt_of_cell? w _ c2)).trans c2, (hb.cell (p := ⟨_, _, none⟩) (World.block_lt_of_cell? w _ c3)).trans c3, (hb.cell (p := ⟨_, _, none⟩) (World.block_lt_of_cell? w _ c4)).trans c4⟩
theorem fol_fm {p : Pt} {k : Nat} (h : p.k = k) : fol p = fmF k := by
  unfold fol fmF
  rw [h]
  by_cases h1 : k = 1 ∨ k = 3 ∨ k = 4
  · rw [if_pos (by omega), if_pos h1]
  · rw [if_neg (by omega), if_neg h1]
    by_cases h2 : k = 2
    · rw [if_pos (by omega), if_pos h2]
    · rw [if_neg (by omega), if_neg h2]
theorem fol_far {p : Pt} (h : p.k < 0 ∨ 5 < p.k) : fol p = 0 := by unfold fol; rw [if_neg (by omega), if_neg (by omega)]
set_option maxRecDepth 100000 in
set_option maxHeartbeats 1600000 in
theorem implFollow_any (x : Pt) (E : Option Addr) (ce : Nat) (w : World) (ht : FormTab w) :
    Calls Tryz.prog 153 #[.agg #[.int .i64 x.k, .int .i64 x.n, .string x.nm, .slice E x.args.length ce]] w fun e w' => e = .returned (.int .i64 (fol x)) ∧ Below w.heap.size w w' := by
  have HW := Lib.hid (fun o : Obj => show Below w.heap.size w (w.alloc o) from (Below.refl _ _).alloc (Nat.le_refl _) o)
  by_cases hk : x.k < 0 ∨ 5 < x.k
  · have HF := Lib.hid (fol_far hk)
    clear ht
    by_cases hk0 : (0 : Int) ≤ x.k
    · have h2 : ¬ x.k ≤ 5 := by omega
      clear hk
      go_enter Tryz.func153, Tryz.ntmps153
      go_wp2
      go_ret
      exact ⟨by rw [HF.out]; rfl, by repeat (first | exact Below.refl _ _ | refine Below.alloc ?_ (by simp <;> omega) _)⟩
    · clear hk
      go_enter Tryz.func153, Tryz.ntmps153
      go_wp2
      go_ret
      exact ⟨by rw [HF.out]; rfl, by repeat (first | exact Below.refl _ _ | refine Below.alloc ?_ (by simp <;> omega) _)⟩
  · obtain ⟨k, hkk⟩ : ∃ k : Nat, x.k = k := ⟨x.k.toNat, by omega⟩
    have hk6 : k < 6 := by omega
    obtain ⟨t1, t2, t3, t4⟩ := ht k hk6
    have hG : 0 < w.heap.size := World.block_lt_of_cell? w _ t4
    have hk5 : (k : Int) ≤ 5 := by omega
    have HF := Lib.hid (fol_fm hkk)
    clear ht hk t1 t2 t3
    go_enter Tryz.func153, Tryz.ntmps153
    go_wp2
    go_ret
    exact ⟨by rw [HF.out]; rfl, by repeat (first | exact Below.refl _ _ | refine Below.alloc ?_ (by simp <;> omega) _)⟩
set_option maxRecDepth 100000 in
set_option maxHeartbeats 1600000 in
/-- Where the program finds that a body's first part ends. -/
theorem implEnd_any (A : Option Addr) (n c : Nat) (xs : List Pt) (w : World) (S : Nat → Prop) (h : LRow ptR w S A xs) (l : xs.length = n) (hS : ∀ b, S b → b < w.heap.size) (h20 : n ≤ 20) (ht : FormTab w) :
    Calls Tryz.prog 171 #[.slice A n c, .func (.func 153) #[] #[]] w fun e w' => e = .returned (.int .i64 (pf xs 1 0)) ∧ Below w.heap.size w w' := by
  have L := Lib.hid l
  have HT := Lib.hid ht
  have HS := Lib.hid hS
  clear l ht
  go_enter Tryz.func171, Tryz.ntmps171
  go_wp2
  go_loopw [5, 10] (fun m i wr => ∃ (k : Nat) (q : Int), k ≤ n ∧ i = .int .i64 k ∧ m = .int .i64 q ∧ 1 ≤ q ∧ q ≤ 1 + k ∧ Hid (Below w.heap.size w wr) ∧ Hid (pf xs 1 0 = pf (xs.drop k) q k)) (fun _ i _ => n - (intOf i).toNat)
  case atStart => exact ⟨0, 1, Nat.zero_le _, rfl, rfl, by omega, by omega, Lib.hid (by first | exact Below.refl _ _ | exact (Below.refl _ _).drew), Lib.hid (by rw [List.drop_zero]; rfl)⟩
  case round =>
    obtain ⟨k, q, hk, rfl, rfl, hq0, hq1, HB, HE⟩ := hrel
    by_cases hlt : k < n
    · obtain ⟨b1, o1, cs1, x, rfl, hb1, hR1, hx, hc1⟩ := (h.keep (SameOn.of_below HB.out HS.out)).at_ (k := k) (by rw [L.out]; exact hlt)
      obtain ⟨B1, d1, rfl, hz1, hlc1, hcm1, hr1⟩ := hR1
      have p0 : wr.cell? ⟨b1, o1 + k * 4, none⟩ = some (.int .i64 x.k) := hc1 0 _ rfl
      have p1 : wr.cell? ⟨b1, o1 + k * 4 + 1, none⟩ = some (.int .i64 x.n) := hc1 1 _ rfl
      have p2 : wr.cell? ⟨b1, o1 + k * 4 + 2, none⟩ = some (.string x.nm) := hc1 2 _ rfl
      have p3 : wr.cell? ⟨b1, o1 + k * 4 + 3, none⟩ = some (.slice B1 x.args.length d1) := hc1 3 _ rfl
      have hst := HE.out
      rw [pf_step hx.out] at hst
      have hfb := fol_bd x
      have hws := HB.out.size
      have CF := fun (W : World) (hW : Below w.heap.size w W) => (Calls.mono (implFollow_any x B1 d1 W (FormTab.below HT.out hW)) (fun e w' ⟨he, hb⟩ => (⟨he, hW.trans (Below.mono hb hW.size)⟩ : e = Ending.returned (.int .i64 (fol x)) ∧ Below w.heap.size w w')))
      obtain ⟨f, hf⟩ : ∃ f, f = fol x := ⟨_, rfl⟩
      rw [← hf] at hfb hst CF
      have C := Lib.hid CF
      have hf0 : 0 ≤ f := by omega
      have hf2 : f ≤ 2 := by omega
      clear hc1 hr1 hz1 hlc1 hcm1 hf CF hfb
      by_cases hz : q + (f - 1) = 0
      · rw [if_pos hz] at hst
        have HF := Lib.hid hst
        have hzb : (q + (f - 1) == 0) = true := ib_eq hz
        clear hst hz
        go_wp2_with (go_at_call 153; refine (C.out _ (by repeat (first | exact HB.out | refine Below.setCell ?_ (by first | omega | (simp <;> omega)) _ | refine Below.alloc ?_ (by first | omega | (simp <;> omega)) _))).mono ?_; rintro e w2 ⟨rfl, hb⟩; have HB2 := Lib.hid hb; clear hb)
        go_ret
        exact ⟨by rw [HF.out]; rfl, HB2.out⟩
      · rw [if_neg hz] at hst
        have HN := Lib.hid hst
        have hzb : (q + (f - 1) == 0) = false := ib_ne hz
        have hz1 : 1 ≤ q + (f - 1) := by omega
        clear hst hz
        go_wp2_with (go_at_call 153; refine (C.out _ (by repeat (first | exact HB.out | refine Below.setCell ?_ (by first | omega | (simp <;> omega)) _ | refine Below.alloc ?_ (by first | omega | (simp <;> omega)) _))).mono ?_; rintro e w2 ⟨rfl, hb⟩; have HB2 := Lib.hid hb; clear hb)
        go_roundw
        case rel => exact ⟨k + 1, q + (f - 1), by omega, by go_num, rfl, by omega, by omega, HB2, HN⟩
        case measure => simp [intOf]; omega
    · obtain rfl : k = n := by omega
      have HF := Lib.hid (show pf xs 1 0 = -1 by rw [HE.out]; exact pf_none (by rw [L.out]; exact Nat.le_refl _))
      go_wp2
      go_ret
      exact ⟨by rw [HF.out]; rfl, HB.out⟩
end Go.Proofs.YtdgcpaeneafejaaGreatDoor

namespace Go.Proofs.YtdgcpaeneafejaaGreatDoor
open Go.RowKit
set_option maxRecDepth 100000 in
set_option maxHeartbeats 4000000 in
theorem implLeaves_any (x : Pt) (E : Option Addr) (ce : Nat) (w : World) (ht : FormTab w) (hkn : 0 ≤ x.k ∧ x.k ≤ 5) :
    Calls Tryz.prog 172 #[.agg #[.int .i64 x.k, .int .i64 x.n, .string x.nm, .slice E x.args.length ce]] w fun e w' => e = .returned (.bool (kindB x)) ∧ Below w.heap.size w w' := by
  obtain ⟨k, hk⟩ : ∃ k : Nat, x.k = k := ⟨x.k.toNat, by omega⟩
  have hem := em_list x.nm
  have hln : ((x.args.length : Int) == 0) = (x.args.length == 0) := by
    rcases Nat.eq_zero_or_pos x.args.length with e | e
    · rw [e]; rfl
    · have h1 : ((x.args.length : Int) == 0) = false := ib_ne (by omega)
      have h2 : (x.args.length == 0) = false := by simp; intro h; rw [h] at e; simp at e
      rw [h1, h2]
  obtain ⟨t1, t2, t3, t4⟩ := ht k (by omega)
  have hG : 0 < w.heap.size := World.block_lt_of_cell? w _ t4
  have hc : k = 0 ∨ k = 1 ∨ k = 2 ∨ k = 3 ∨ k = 4 ∨ k = 5 := by omega
  clear ht hkn
  rcases hc with rfl | rfl | rfl | rfl | rfl | rfl
  · have u1 : w.cell? ⟨0, 0, none⟩ = some (.bool false) := t1
    have u2 : w.cell? ⟨0, 1, none⟩ = some (.bool false) := t2
    have u3 : w.cell? ⟨0, 2, none⟩ = some (.bool false) := t3
    have u4 : w.cell? ⟨0, 3, none⟩ = some (.int .i64 0) := t4
    clear t1 t2 t3 t4
    have hk' : x.k = 0 := hk
    clear hk
    rcases tn : (x.n == 0) with _ | _
    · have HF := Lib.hid (show kindB x = false by unfold kindB; rw [hk']; simp [tn])
      go_enter Tryz.func172, Tryz.ntmps172
      go_wp2
      go_ret
      exact ⟨ret_bool HF.out.symm, by repeat (first | exact Below.refl _ _ | refine Below.setCell ?_ (by simp) _ | refine Below.alloc ?_ (by simp <;> omega) _)⟩
    rcases tm : (emB x.nm) with _ | _
    · have HF := Lib.hid (show kindB x = false by unfold kindB; rw [hk']; simp [tn, tm])
      rw [tm] at hem
      clear tm
      go_enter Tryz.func172, Tryz.ntmps172
      go_wp2
      go_ret
      exact ⟨ret_bool HF.out.symm, by repeat (first | exact Below.refl _ _ | refine Below.setCell ?_ (by simp) _ | refine Below.alloc ?_ (by simp <;> omega) _)⟩
    rw [tm] at hem
    rcases ta : (x.args.length == 0) with _ | _
    · have HF := Lib.hid (show kindB x = false by unfold kindB; rw [hk']; simp [tn, tm, ta])
      rw [ta] at hln
      clear ta
      go_enter Tryz.func172, Tryz.ntmps172
      go_wp2
      go_ret
      exact ⟨ret_bool HF.out.symm, by repeat (first | exact Below.refl _ _ | refine Below.setCell ?_ (by simp) _ | refine Below.alloc ?_ (by simp <;> omega) _)⟩
    rw [ta] at hln
    have HF := Lib.hid (show kindB x = true by unfold kindB; rw [hk']; simp [tn, tm, ta])
    clear tm ta
    go_enter Tryz.func172, Tryz.ntmps172
    go_wp2
    go_ret
    exact ⟨ret_bool HF.out.symm, by repeat (first | exact Below.refl _ _ | refine Below.setCell ?_ (by simp) _ | refine Below.alloc ?_ (by simp <;> omega) _)⟩
  · have u1 : w.cell? ⟨0, 4, none⟩ = some (.bool false) := t1
    have u2 : w.cell? ⟨0, 5, none⟩ = some (.bool true) := t2
    have u3 : w.cell? ⟨0, 6, none⟩ = some (.bool true) := t3
    have u4 : w.cell? ⟨0, 7, none⟩ = some (.int .i64 1) := t4
    clear t1 t2 t3 t4
    have hk' : x.k = 1 := hk
    clear hk
    rcases tn : (x.n == 0) with _ | _
    · have HF := Lib.hid (show kindB x = false by unfold kindB; rw [hk']; simp [tn])
      go_enter Tryz.func172, Tryz.ntmps172
      go_wp2
      go_ret
      exact ⟨ret_bool HF.out.symm, by repeat (first | exact Below.refl _ _ | refine Below.setCell ?_ (by simp) _ | refine Below.alloc ?_ (by simp <;> omega) _)⟩
    have HF := Lib.hid (show kindB x = true by unfold kindB; rw [hk']; simp [tn])
    go_enter Tryz.func172, Tryz.ntmps172
    go_wp2
    go_ret
    exact ⟨ret_bool HF.out.symm, by repeat (first | exact Below.refl _ _ | refine Below.setCell ?_ (by simp) _ | refine Below.alloc ?_ (by simp <;> omega) _)⟩
  · have u1 : w.cell? ⟨0, 8, none⟩ = some (.bool false) := t1
    have u2 : w.cell? ⟨0, 9, none⟩ = some (.bool false) := t2
    have u3 : w.cell? ⟨0, 10, none⟩ = some (.bool false) := t3
    have u4 : w.cell? ⟨0, 11, none⟩ = some (.int .i64 2) := t4
    clear t1 t2 t3 t4
    have hk' : x.k = 2 := hk
    clear hk
    rcases tn : (x.n == 0) with _ | _
    · have HF := Lib.hid (show kindB x = false by unfold kindB; rw [hk']; simp [tn])
      go_enter Tryz.func172, Tryz.ntmps172
      go_wp2
      go_ret
      exact ⟨ret_bool HF.out.symm, by repeat (first | exact Below.refl _ _ | refine Below.setCell ?_ (by simp) _ | refine Below.alloc ?_ (by simp <;> omega) _)⟩
    rcases tm : (emB x.nm) with _ | _
    · have HF := Lib.hid (show kindB x = false by unfold kindB; rw [hk']; simp [tn, tm])
      rw [tm] at hem
      clear tm
      go_enter Tryz.func172, Tryz.ntmps172
      go_wp2
      go_ret
      exact ⟨ret_bool HF.out.symm, by repeat (first | exact Below.refl _ _ | refine Below.setCell ?_ (by simp) _ | refine Below.alloc ?_ (by simp <;> omega) _)⟩
    rw [tm] at hem
    rcases ta : (x.args.length == 0) with _ | _
    · have HF := Lib.hid (show kindB x = false by unfold kindB; rw [hk']; simp [tn, tm, ta])
      rw [ta] at hln
      clear ta
      go_enter Tryz.func172, Tryz.ntmps172
      go_wp2
      go_ret
      exact ⟨ret_bool HF.out.symm, by repeat (first | exact Below.refl _ _ | refine Below.setCell ?_ (by simp) _ | refine Below.alloc ?_ (by simp <;> omega) _)⟩
    rw [ta] at hln
    have HF := Lib.hid (show kindB x = true by unfold kindB; rw [hk']; simp [tn, tm, ta])
    clear tm ta
    go_enter Tryz.func172, Tryz.ntmps172
    go_wp2
    go_ret
    exact ⟨ret_bool HF.out.symm, by repeat (first | exact Below.refl _ _ | refine Below.setCell ?_ (by simp) _ | refine Below.alloc ?_ (by simp <;> omega) _)⟩
  · have u1 : w.cell? ⟨0, 12, none⟩ = some (.bool false) := t1
    have u2 : w.cell? ⟨0, 13, none⟩ = some (.bool false) := t2
    have u3 : w.cell? ⟨0, 14, none⟩ = some (.bool true) := t3
    have u4 : w.cell? ⟨0, 15, none⟩ = some (.int .i64 1) := t4
    clear t1 t2 t3 t4
    have hk' : x.k = 3 := hk
    clear hk
    rcases tn : (x.n == 0) with _ | _
    · have HF := Lib.hid (show kindB x = false by unfold kindB; rw [hk']; simp [tn])
      go_enter Tryz.func172, Tryz.ntmps172
      go_wp2
      go_ret
      exact ⟨ret_bool HF.out.symm, by repeat (first | exact Below.refl _ _ | refine Below.setCell ?_ (by simp) _ | refine Below.alloc ?_ (by simp <;> omega) _)⟩
    rcases tm : (emB x.nm) with _ | _
    · have HF := Lib.hid (show kindB x = false by unfold kindB; rw [hk']; simp [tn, tm])
      rw [tm] at hem
      clear tm
      go_enter Tryz.func172, Tryz.ntmps172
      go_wp2
      go_ret
      exact ⟨ret_bool HF.out.symm, by repeat (first | exact Below.refl _ _ | refine Below.setCell ?_ (by simp) _ | refine Below.alloc ?_ (by simp <;> omega) _)⟩
    rw [tm] at hem
    have HF := Lib.hid (show kindB x = true by unfold kindB; rw [hk']; simp [tn, tm])
    clear tm
    go_enter Tryz.func172, Tryz.ntmps172
    go_wp2
    go_ret
    exact ⟨ret_bool HF.out.symm, by repeat (first | exact Below.refl _ _ | refine Below.setCell ?_ (by simp) _ | refine Below.alloc ?_ (by simp <;> omega) _)⟩
  · have u1 : w.cell? ⟨0, 16, none⟩ = some (.bool true) := t1
    have u2 : w.cell? ⟨0, 17, none⟩ = some (.bool false) := t2
    have u3 : w.cell? ⟨0, 18, none⟩ = some (.bool false) := t3
    have u4 : w.cell? ⟨0, 19, none⟩ = some (.int .i64 1) := t4
    clear t1 t2 t3 t4
    have hk' : x.k = 4 := hk
    clear hk
    rcases tm : (emB x.nm) with _ | _
    · have HF := Lib.hid (show kindB x = false by unfold kindB; rw [hk']; simp [tm])
      rw [tm] at hem
      clear tm
      go_enter Tryz.func172, Tryz.ntmps172
      go_wp2
      go_ret
      exact ⟨ret_bool HF.out.symm, by repeat (first | exact Below.refl _ _ | refine Below.setCell ?_ (by simp) _ | refine Below.alloc ?_ (by simp <;> omega) _)⟩
    rw [tm] at hem
    rcases ta : (x.args.length == 0) with _ | _
    · have HF := Lib.hid (show kindB x = false by unfold kindB; rw [hk']; simp [tm, ta])
      rw [ta] at hln
      clear ta
      go_enter Tryz.func172, Tryz.ntmps172
      go_wp2
      go_ret
      exact ⟨ret_bool HF.out.symm, by repeat (first | exact Below.refl _ _ | refine Below.setCell ?_ (by simp) _ | refine Below.alloc ?_ (by simp <;> omega) _)⟩
    rw [ta] at hln
    have HF := Lib.hid (show kindB x = true by unfold kindB; rw [hk']; simp [tm, ta])
    clear tm ta
    go_enter Tryz.func172, Tryz.ntmps172
    go_wp2
    go_ret
    exact ⟨ret_bool HF.out.symm, by repeat (first | exact Below.refl _ _ | refine Below.setCell ?_ (by simp) _ | refine Below.alloc ?_ (by simp <;> omega) _)⟩
  · have u1 : w.cell? ⟨0, 20, none⟩ = some (.bool true) := t1
    have u2 : w.cell? ⟨0, 21, none⟩ = some (.bool false) := t2
    have u3 : w.cell? ⟨0, 22, none⟩ = some (.bool true) := t3
    have u4 : w.cell? ⟨0, 23, none⟩ = some (.int .i64 0) := t4
    clear t1 t2 t3 t4
    have hk' : x.k = 5 := hk
    clear hk
    rcases tm : (emB x.nm) with _ | _
    · have HF := Lib.hid (show kindB x = false by unfold kindB; rw [hk']; simp [tm])
      rw [tm] at hem
      clear tm
      go_enter Tryz.func172, Tryz.ntmps172
      go_wp2
      go_ret
      exact ⟨ret_bool HF.out.symm, by repeat (first | exact Below.refl _ _ | refine Below.setCell ?_ (by simp) _ | refine Below.alloc ?_ (by simp <;> omega) _)⟩
    rw [tm] at hem
    have HF := Lib.hid (show kindB x = true by unfold kindB; rw [hk']; simp [tm])
    clear tm
    go_enter Tryz.func172, Tryz.ntmps172
    go_wp2
    go_ret
    exact ⟨ret_bool HF.out.symm, by repeat (first | exact Below.refl _ _ | refine Below.setCell ?_ (by simp) _ | refine Below.alloc ?_ (by simp <;> omega) _)⟩
set_option maxHeartbeats 1600000 in
theorem implHasName_any (x : Pt) (E : Option Addr) (ce : Nat) (w : World) :
    Calls Tryz.prog 173 #[.agg #[.int .i64 x.k, .int .i64 x.n, .string x.nm, .slice E x.args.length ce]] w fun e w' => e = .returned (.bool (nmB x)) ∧ Below w.heap.size w w' := by
  have CN := Lib.hid (fun (W : World) (hW : Below w.heap.size w W) => (Calls.mono (implName_any x.nm W) (fun e w' ⟨he, hb⟩ => (⟨he, hW.trans (Below.mono hb hW.size)⟩ : e = Ending.returned (.bool (nameB x.nm.data.toList)) ∧ Below w.heap.size w w'))))
  by_cases hk : x.k = 1
  · have HF := Lib.hid (show nmB x = nameB x.nm.data.toList by unfold nmB; rw [if_pos hk])
    have e1 : (x.k != 1) = false := by rw [hk]; rfl
    obtain ⟨v, hv⟩ : ∃ v, v = nameB x.nm.data.toList := ⟨_, rfl⟩
    rw [← hv] at CN HF
    clear hk hv
    go_enter Tryz.func173, Tryz.ntmps173
    go_wp2_with (go_at_call 74; refine (CN.out _ (by repeat (first | exact Below.refl _ _ | refine Below.setCell ?_ (by simp) _ | refine Below.alloc ?_ (by simp <;> omega) _))).mono ?_; rintro e w2 ⟨rfl, hb⟩; have HB := Lib.hid hb; clear hb)
    go_ret
    exact ⟨ret_bool HF.out.symm, HB.out⟩
  · have HF := Lib.hid (show nmB x = true by unfold nmB; rw [if_neg hk])
    have e1 : (x.k != 1) = true := by simp [bne, ib_ne hk]
    clear hk
    go_enter Tryz.func173, Tryz.ntmps173
    go_wp2
    go_ret
    exact ⟨ret_bool HF.out.symm, by repeat (first | exact Below.refl _ _ | refine Below.setCell ?_ (by simp) _ | refine Below.alloc ?_ (by simp <;> omega) _)⟩
end Go.Proofs.YtdgcpaeneafejaaGreatDoor

namespace Go.Proofs.YtdgcpaeneafejaaGreatDoor
open Go.RowKit
set_option maxRecDepth 100000 in
set_option maxHeartbeats 1600000 in
theorem implHasNumber_any (x : Pt) (E : Option Addr) (ce : Nat) (A : Option Addr) (c : Nat) (ls : List Df) (w : World) (_ : ls.length ≤ 4) :
    Calls Tryz.prog 174 #[.agg #[.int .i64 x.k, .int .i64 x.n, .string x.nm, .slice E x.args.length ce], .slice A ls.length c] w fun e w' => e = .returned (.bool (numB ls x)) ∧ Below w.heap.size w w' := by
  by_cases h4 : x.k = 4
  · by_cases h1 : 1 ≤ x.n
    · by_cases h7 : x.n ≤ 7
      · have HF := Lib.hid (show numB ls x = true by unfold numB; rw [if_pos h4]; exact decide_eq_true ⟨h1, h7⟩)
        go_enter Tryz.func174, Tryz.ntmps174
        go_wp2
        go_ret
        exact ⟨ret_bool HF.out.symm, by repeat (first | exact Below.refl _ _ | refine Below.setCell ?_ (by simp) _ | refine Below.alloc ?_ (by simp <;> omega) _)⟩
      · have HF := Lib.hid (show numB ls x = false by unfold numB; rw [if_pos h4]; exact decide_eq_false (fun h => h7 h.2))
        go_enter Tryz.func174, Tryz.ntmps174
        go_wp2
        go_ret
        exact ⟨ret_bool HF.out.symm, by repeat (first | exact Below.refl _ _ | refine Below.setCell ?_ (by simp) _ | refine Below.alloc ?_ (by simp <;> omega) _)⟩
    · have HF := Lib.hid (show numB ls x = false by unfold numB; rw [if_pos h4]; exact decide_eq_false (fun h => h1 h.1))
      go_enter Tryz.func174, Tryz.ntmps174
      go_wp2
      go_ret
      exact ⟨ret_bool HF.out.symm, by repeat (first | exact Below.refl _ _ | refine Below.setCell ?_ (by simp) _ | refine Below.alloc ?_ (by simp <;> omega) _)⟩
  by_cases h5 : x.k = 5
  · by_cases h1 : 0 ≤ x.n
    · by_cases h7 : x.n < ls.length
      · have HF := Lib.hid (show numB ls x = true by unfold numB; rw [if_neg h4, if_pos h5]; exact decide_eq_true ⟨h1, h7⟩)
        clear h4
        go_enter Tryz.func174, Tryz.ntmps174
        go_wp2
        go_ret
        exact ⟨ret_bool HF.out.symm, by repeat (first | exact Below.refl _ _ | refine Below.setCell ?_ (by simp) _ | refine Below.alloc ?_ (by simp <;> omega) _)⟩
      · have HF := Lib.hid (show numB ls x = false by unfold numB; rw [if_neg h4, if_pos h5]; exact decide_eq_false (fun h => h7 h.2))
        clear h4
        go_enter Tryz.func174, Tryz.ntmps174
        go_wp2
        go_ret
        exact ⟨ret_bool HF.out.symm, by repeat (first | exact Below.refl _ _ | refine Below.setCell ?_ (by simp) _ | refine Below.alloc ?_ (by simp <;> omega) _)⟩
    · have HF := Lib.hid (show numB ls x = false by unfold numB; rw [if_neg h4, if_pos h5]; exact decide_eq_false (fun h => h1 h.1))
      clear h4
      go_enter Tryz.func174, Tryz.ntmps174
      go_wp2
      go_ret
      exact ⟨ret_bool HF.out.symm, by repeat (first | exact Below.refl _ _ | refine Below.setCell ?_ (by simp) _ | refine Below.alloc ?_ (by simp <;> omega) _)⟩
  have HF := Lib.hid (show numB ls x = true by unfold numB; rw [if_neg h4, if_neg h5])
  have e4 : (x.k == 4) = false := ib_ne h4
  have e5 : (x.k == 5) = false := ib_ne h5
  clear h4 h5
  go_enter Tryz.func174, Tryz.ntmps174
  go_wp2
  go_ret
  exact ⟨ret_bool HF.out.symm, by repeat (first | exact Below.refl _ _ | refine Below.setCell ?_ (by simp) _ | refine Below.alloc ?_ (by simp <;> omega) _)⟩
set_option maxRecDepth 100000 in
set_option maxHeartbeats 1600000 in
theorem implHasCount_any (x : Pt) (E : Option Addr) (ce : Nat) (A : Option Addr) (c : Nat) (ls : List Df) (w : World) (S : Nat → Prop) (_ : ls.length ≤ 4) (h : LRow dfR w S A ls) (hS : ∀ b, S b → b < w.heap.size) (hnum : numB ls x = true) :
    Calls Tryz.prog 175 #[.agg #[.int .i64 x.k, .int .i64 x.n, .string x.nm, .slice E x.args.length ce], .slice A ls.length c] w fun e w' => e = .returned (.bool (cntB ls x)) ∧ Below w.heap.size w w' := by
  have hln : ((x.args.length : Int) == 0) = (x.args.length == 0) := by
    rcases Nat.eq_zero_or_pos x.args.length with e | e
    · rw [e]; rfl
    · have h1 : ((x.args.length : Int) == 0) = false := ib_ne (by omega)
      have h2 : (x.args.length == 0) = false := by simp; intro h; rw [h] at e; simp at e
      rw [h1, h2]
  by_cases h1 : x.k = 1
  · rcases ta : (x.args.length == 0) with _ | _
    · rw [ta] at hln
      rcases tt : (x.nm.toList == [116, 97, 117]) with _ | _
      · have tt' : (!(x.nm.toList == [116, 97, 117])) = true := by rw [tt]; rfl
        by_cases h2 : (x.args.length : Int) ≤ 2
        · have HF := Lib.hid (show cntB ls x = true by unfold cntB; rw [if_pos h1, ta, tt, decide_eq_true (by omega)]; rfl)
          clear h hnum ta
          go_enter Tryz.func175, Tryz.ntmps175
          go_wp2
          go_ret
          exact ⟨ret_bool HF.out.symm, by repeat (first | exact Below.refl _ _ | refine Below.setCell ?_ (by simp) _ | refine Below.alloc ?_ (by simp <;> omega) _)⟩
        · have HF := Lib.hid (show cntB ls x = false by unfold cntB; rw [if_pos h1, ta, tt, decide_eq_false (by omega)]; rfl)
          clear h hnum ta
          go_enter Tryz.func175, Tryz.ntmps175
          go_wp2
          go_ret
          exact ⟨ret_bool HF.out.symm, by repeat (first | exact Below.refl _ _ | refine Below.setCell ?_ (by simp) _ | refine Below.alloc ?_ (by simp <;> omega) _)⟩
      · have HF := Lib.hid (show cntB ls x = false by unfold cntB; rw [if_pos h1, ta, tt]; rfl)
        clear h hnum ta
        go_enter Tryz.func175, Tryz.ntmps175
        go_wp2
        go_ret
        exact ⟨ret_bool HF.out.symm, by repeat (first | exact Below.refl _ _ | refine Below.setCell ?_ (by simp) _ | refine Below.alloc ?_ (by simp <;> omega) _)⟩
    · rw [ta] at hln
      have HF := Lib.hid (show cntB ls x = true by unfold cntB; rw [if_pos h1, ta]; rfl)
      clear h hnum ta
      go_enter Tryz.func175, Tryz.ntmps175
      go_wp2
      go_ret
      exact ⟨ret_bool HF.out.symm, by repeat (first | exact Below.refl _ _ | refine Below.setCell ?_ (by simp) _ | refine Below.alloc ?_ (by simp <;> omega) _)⟩
  by_cases h3 : x.k = 3
  · rcases ta : (x.args.length == 1) with _ | _
    · have g1 : ((x.args.length : Int) == 1) = false := ib_ne (by
          intro e
          have e2 : x.args.length = 1 := by omega
          have e3 : (x.args.length == 1) = true := by rw [e2]; rfl
          rw [ta] at e3; cases e3)
      have HF := Lib.hid (show cntB ls x = false by unfold cntB; rw [if_neg h1, if_pos h3, ta])
      clear h hnum ta hln h1
      go_enter Tryz.func175, Tryz.ntmps175
      go_wp2
      go_ret
      exact ⟨ret_bool HF.out.symm, by repeat (first | exact Below.refl _ _ | refine Below.setCell ?_ (by simp) _ | refine Below.alloc ?_ (by simp <;> omega) _)⟩
    · have g1 : ((x.args.length : Int) == 1) = true := ib_eq (by have := eq_of_beq ta; omega)
      have HF := Lib.hid (show cntB ls x = true by unfold cntB; rw [if_neg h1, if_pos h3, ta])
      clear h hnum ta hln h1
      go_enter Tryz.func175, Tryz.ntmps175
      go_wp2
      go_ret
      exact ⟨ret_bool HF.out.symm, by repeat (first | exact Below.refl _ _ | refine Below.setCell ?_ (by simp) _ | refine Below.alloc ?_ (by simp <;> omega) _)⟩
  by_cases h5 : x.k = 5
  · have hb : 0 ≤ x.n ∧ x.n < ls.length := by unfold numB at hnum; rw [if_neg (by omega), if_pos h5] at hnum; exact of_decide_eq_true hnum
    obtain ⟨kn, hkn⟩ : ∃ kn : Nat, x.n = kn := ⟨x.n.toNat, by omega⟩
    obtain ⟨b2, o2, cs2, x2, rfl, hb2, hR2, hx2, hc2⟩ := h.at_ (k := kn) (by omega)
    obtain ⟨E2, ce2, rfl, hz2, hlc2, hcm2, hr2⟩ := hR2
    have l1 : w.cell? ⟨b2, o2 + kn * 3 + 1, none⟩ = some (.int .i64 x2.ps) := hc2 1 _ rfl
    have hb2w := hS b2 hb2
    have hgd : ls.getD x.n.toNat default = x2 := by rw [hkn, Int.toNat_natCast, List.getD_eq_getElem?_getD, hx2.out]; rfl
    have hkl : kn < ls.length := (List.getElem?_eq_some_iff.1 hx2.out).1
    rcases tc : ((x.args.length : Int) == x2.ps) with _ | _
    · have HF := Lib.hid (show cntB ls x = false by unfold cntB; rw [if_neg h1, if_neg h3, if_pos h5, hgd]; exact decide_eq_false (by simpa using tc))
      clear h hnum hln h1 h3 hc2 hr2 hlc2 hcm2 hz2 hgd hb
      go_enter Tryz.func175, Tryz.ntmps175
      go_wp2
      go_ret
      exact ⟨ret_bool HF.out.symm, by repeat (first | exact Below.refl _ _ | refine Below.setCell ?_ (by simp) _ | refine Below.alloc ?_ (by simp <;> omega) _)⟩
    · have HF := Lib.hid (show cntB ls x = true by unfold cntB; rw [if_neg h1, if_neg h3, if_pos h5, hgd]; exact decide_eq_true (by simpa using tc))
      clear h hnum hln h1 h3 hc2 hr2 hlc2 hcm2 hz2 hgd hb
      go_enter Tryz.func175, Tryz.ntmps175
      go_wp2
      go_ret
      exact ⟨ret_bool HF.out.symm, by repeat (first | exact Below.refl _ _ | refine Below.setCell ?_ (by simp) _ | refine Below.alloc ?_ (by simp <;> omega) _)⟩
  have HF := Lib.hid (show cntB ls x = true by unfold cntB; rw [if_neg h1, if_neg h3, if_neg h5])
  have e1 : (x.k == 1) = false := ib_ne h1
  have e3 : (x.k == 3) = false := ib_ne h3
  have e5 : (x.k == 5) = false := ib_ne h5
  clear h1 h3 h5 h hnum hln
  go_enter Tryz.func175, Tryz.ntmps175
  go_wp2
  go_ret
  exact ⟨ret_bool HF.out.symm, by repeat (first | exact Below.refl _ _ | refine Below.setCell ?_ (by simp) _ | refine Below.alloc ?_ (by simp <;> omega) _)⟩
end Go.Proofs.YtdgcpaeneafejaaGreatDoor

namespace Go.Proofs.YtdgcpaeneafejaaGreatDoor
open Go.RowKit
set_option maxRecDepth 100000 in
set_option maxHeartbeats 4000000 in
theorem implTerms_any (a : An) (E : Option Addr) (ce : Nat) (en : Int) (w : World) (S : Nat → Prop) (g : LRow (listR tmR) w S E a.p.args) (hS : ∀ b, S b → b < w.heap.size) (hs : 0 ≤ a.s ∧ a.s ≤ 23) (hok : okList (okList okAny) a.p.args) :
    Calls Tryz.prog 176 #[.agg #[.int .i64 a.p.k, .int .i64 a.p.n, .string a.p.nm, .slice E a.p.args.length ce, .int .i64 en, .int .i64 a.s, .bool a.c]] w fun e w' => e = .returned (.bool (trmB a.s a.p.args)) ∧ Below w.heap.size w w' := by
  have HR := Lib.hid g
  have HS := Lib.hid hS
  have HOK := Lib.hid hok.2
  have hal := hok.1
  clear g hS hok
  go_enter Tryz.func176, Tryz.ntmps176
  go_wp2
  go_loopw [9] (fun iv wr => ∃ k : Nat, k ≤ a.p.args.length ∧ iv = .int .i64 k ∧ Hid (Below w.heap.size w wr) ∧ Hid (wr.cell? ⟨w.heap.size, 5, none⟩ = some (.int .i64 a.s)) ∧ Hid (trmB a.s (a.p.args.take k) = true)) (fun iv _ => a.p.args.length - (intOf iv).toNat)
  case atStart => exact ⟨0, Nat.zero_le _, rfl, Lib.hid (by repeat (first | exact Below.refl _ _ | refine Below.setCell ?_ (by simp) _ | refine Below.alloc ?_ (by simp <;> omega) _)), Lib.hid (by simp [go_sem]), Lib.hid (by simp [trmB])⟩
  case round =>
    obtain ⟨k, hk, rfl, HB, HQ, HT⟩ := hrel
    have q5 := HQ.out
    by_cases hlt : k < a.p.args.length
    · obtain ⟨b5, o5, cs5, e5, rfl, hb5, hR5, hx5, hc5⟩ := (HR.out.keep (SameOn.of_below HB.out HS.out)).at_ (k := k) hlt
      obtain ⟨A5, c5, rfl, hl5, hm5, hr5⟩ := hR5
      have r5 : wr.cell? ⟨b5, o5 + k, none⟩ = some (.slice A5 e5.length c5) := by have := hc5 0 _ rfl; simpa [listR] using this
      have CI := implValid_any A5 e5.length c5 e5 a.s 15 wr wr.heap.size (hr5.trow fun b hb => Nat.lt_of_lt_of_le (HS.out b hb) HB.out.size) (Nat.le_refl _) rfl (by have := (HOK.out e5 (List.mem_of_getElem? hx5.out)).1; omega)
      rw [vtB_yes (by omega)] at CI
      have hws := HB.out.size
      have hcw : w.heap.size < wr.heap.size := World.block_lt_of_cell? wr _ q5
      clear hc5 hr5 hl5 hm5
      rcases t : exB a.s 15 e5 with _ | _
      · have HF := Lib.hid (show trmB a.s a.p.args = false from trm_bad hx5.out t)
        rw [t] at CI
        have C := Lib.hid CI
        clear CI t
        go_wp2_with (go_at_call 181; refine C.out.mono ?_; rintro e w3 ⟨rfl, hb⟩; have HB2 := Lib.hid (HB.out.trans (hb.mono hws)); clear hb)
        go_ret
        exact ⟨ret_bool HF.out.symm, HB2.out⟩
      · have HN := Lib.hid (trm_next HT.out hx5.out t)
        rw [t] at CI
        have C := Lib.hid CI
        clear CI t
        go_wp2_with (go_at_call 181; refine C.out.mono ?_; rintro e w3 ⟨rfl, hb⟩; have HB2 := Lib.hid (HB.out.trans (hb.mono hws)); have HQ2 := Lib.hid ((hb.cell (p := ⟨w.heap.size, 5, none⟩) hcw).trans q5); clear hb)
        go_roundw
        case rel => exact ⟨k + 1, by omega, by go_num, HB2, HQ2, HN⟩
        case measure => simp [intOf]; omega
    · have HF := Lib.hid (show trmB a.s a.p.args = true by
        have ht := HT.out
        rwa [List.take_of_length_le (by omega)] at ht)
      go_wp2
      go_ret
      exact ⟨ret_bool HF.out.symm, HB.out⟩
end Go.Proofs.YtdgcpaeneafejaaGreatDoor

namespace Go.Proofs.YtdgcpaeneafejaaGreatDoor
open Go.RowKit
/-- A box of several words. -/
def Bx (b : Nat) (vs : List Value) (W : World) : Prop := b < W.heap.size ∧ ∀ j v, vs[j]? = some v → W.cell? ⟨b, j, none⟩ = some v
theorem Bx.next {b : Nat} {vs : List Value} {W W' : World} (h : Bx b vs W) (hb : Below W.heap.size W W') : Bx b vs W' :=
  ⟨Nat.lt_of_lt_of_le h.1 hb.size, fun j v hj => (hb.cell (p := ⟨b, j, none⟩) h.1).trans (h.2 j v hj)⟩
theorem Bx.five {b : Nat} {v0 v1 v2 v3 v4 : Value} {W : World} (h : Bx b [v0, v1, v2, v3, v4] W) : W.cell? ⟨b, 0, none⟩ = some v0 ∧ W.cell? ⟨b, 1, none⟩ = some v1 ∧ W.cell? ⟨b, 2, none⟩ = some v2 ∧ W.cell? ⟨b, 3, none⟩ = some v3 ∧ W.cell? ⟨b, 4, none⟩ = some v4 :=
  ⟨h.2 0 _ rfl, h.2 1 _ rfl, h.2 2 _ rfl, h.2 3 _ rfl, h.2 4 _ rfl⟩
theorem Bx.of {b : Nat} {v0 v1 v2 v3 v4 : Value} {W : World} (hb : b < W.heap.size) (h0 : W.cell? ⟨b, 0, none⟩ = some v0) (h1 : W.cell? ⟨b, 1, none⟩ = some v1) (h2 : W.cell? ⟨b, 2, none⟩ = some v2) (h3 : W.cell? ⟨b, 3, none⟩ = some v3) (h4 : W.cell? ⟨b, 4, none⟩ = some v4) : Bx b [v0, v1, v2, v3, v4] W := by
  refine ⟨hb, fun j v hj => ?_⟩
  match j, hj with
  | 0, hj => injection hj with hj; subst hj; exact h0
  | 1, hj => injection hj with hj; subst hj; exact h1
  | 2, hj => injection hj with hj; subst hj; exact h2
  | 3, hj => injection hj with hj; subst hj; exact h3
  | 4, hj => injection hj with hj; subst hj; exact h4
/-- A reading kept by a later world. -/
theorem Rec.next {α : Type} {F : Rec α} {w w2 : World} {lo : Nat} {x : α} {cs : List Value} (h : F.R w (In lo w.heap.size) x cs) (hb : Below w.heap.size w w2) : F.R w2 (In lo w2.heap.size) x cs :=
  F.more (F.keep h (SameOn.of_below hb fun _ h => h.2)) fun _ h => ⟨h.1, Nat.lt_of_lt_of_le h.2 hb.size⟩
theorem Rec.wide {α : Type} {F : Rec α} {w : World} {lo lo2 : Nat} {x : α} {cs : List Value} (h : F.R w (In lo w.heap.size) x cs) (hl : lo2 ≤ lo) : F.R w (In lo2 w.heap.size) x cs :=
  F.more h fun _ h => ⟨Nat.le_trans hl h.1, h.2⟩
theorem Bx.seven {b : Nat} {v0 v1 v2 v3 v4 v5 v6 : Value} {W : World} (h : Bx b [v0, v1, v2, v3, v4, v5, v6] W) : W.cell? ⟨b, 0, none⟩ = some v0 ∧ W.cell? ⟨b, 1, none⟩ = some v1 ∧ W.cell? ⟨b, 2, none⟩ = some v2 ∧ W.cell? ⟨b, 3, none⟩ = some v3 ∧ W.cell? ⟨b, 4, none⟩ = some v4 ∧ W.cell? ⟨b, 5, none⟩ = some v5 ∧ W.cell? ⟨b, 6, none⟩ = some v6 :=
  ⟨h.2 0 _ rfl, h.2 1 _ rfl, h.2 2 _ rfl, h.2 3 _ rfl, h.2 4 _ rfl, h.2 5 _ rfl, h.2 6 _ rfl⟩
theorem Bx.of7 {b : Nat} {v0 v1 v2 v3 v4 v5 v6 : Value} {W : World} (hb : b < W.heap.size) (h0 : W.cell? ⟨b, 0, none⟩ = some v0) (h1 : W.cell? ⟨b, 1, none⟩ = some v1) (h2 : W.cell? ⟨b, 2, none⟩ = some v2) (h3 : W.cell? ⟨b, 3, none⟩ = some v3) (h4 : W.cell? ⟨b, 4, none⟩ = some v4) (h5 : W.cell? ⟨b, 5, none⟩ = some v5) (h6 : W.cell? ⟨b, 6, none⟩ = some v6) : Bx b [v0, v1, v2, v3, v4, v5, v6] W := by
  refine ⟨hb, fun j v hj => ?_⟩
  match j, hj with
  | 0, hj => injection hj with hj; subst hj; exact h0
  | 1, hj => injection hj with hj; subst hj; exact h1
  | 2, hj => injection hj with hj; subst hj; exact h2
  | 3, hj => injection hj with hj; subst hj; exact h3
  | 4, hj => injection hj with hj; subst hj; exact h4
  | 5, hj => injection hj with hj; subst hj; exact h5
  | 6, hj => injection hj with hj; subst hj; exact h6
end Go.Proofs.YtdgcpaeneafejaaGreatDoor
