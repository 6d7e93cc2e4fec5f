/- Parts by the program: how many follow; where a body ends. -/
import Derived.Test.YthinoagdgbnphaaDoorProg
import Derived.WalkKit
import Derived.ProofKit
import Derived.BigQuiet
import Derived.Outline
import Derived.StillTailTactics
import Derived.Conc.MuLone
import Derived.Test.YthinoagdgbnphaaDoorMem
import Derived.Test.YthinoagdgbnphaaDoorOwn
import Derived.Test.YthinoagdgbnphaaDoorSRow
import Derived.Test.YthinoagdgbnphaaDoorDat
import Derived.Test.YthinoagdgbnphaaDoorPxS
namespace Go.Proofs.YthinoagdgbnphaaDoor
open Go.RowKit
def fmN (k : Nat) : Bool := k == 4 || k == 5
def fmM (k : Nat) : Bool := k == 1
def fmA (k : Nat) : Bool := k == 1 || (k == 3 || k == 5)
def fmF (k : Nat) : Int := if k = 1 ∨ k = 3 ∨ k = 4 then 1 else if k = 2 then 2 else 0
/-- The table of the forms of parts, as it lies. -/
def FormTab (w : World) : Prop := ∀ k : Nat, k < 6 →
  w.cell? ⟨0, k * 4, none⟩ = some (.bool (fmN k)) ∧ w.cell? ⟨0, k * 4 + 1, none⟩ = some (.bool (fmM k)) ∧
  w.cell? ⟨0, k * 4 + 2, none⟩ = some (.bool (fmA k)) ∧ w.cell? ⟨0, k * 4 + 3, none⟩ = some (.int .i64 (fmF k))
theorem FormTab.below {w w' : World} (h : FormTab w) (hb : Below w.heap.size w w') : FormTab w' := fun k hk => by
  obtain ⟨c1, c2, c3, c4⟩ := h k hk
  exact ⟨(hb.cell (p := ⟨_, _, none⟩) (World.block_lt_of_cell? w _ c1)).trans c1, (hb.cell (p := ⟨_, _, none⟩) (World.block_lt_of_cell? w _ c2)).trans c2, (hb.cell (p := ⟨_, _, none⟩) (World.block_lt_of_cell? w _ c3)).trans c3, (hb.cell (p := ⟨_, _, none⟩) (World.block_lt_of_cell? w _ c4)).trans c4⟩
theorem fol_fm {p : Pt} {k : Nat} (h : p.k = k) : fol p = fmF k := by
  unfold fol fmF
  rw [h]
  by_cases h1 : k = 1 ∨ k = 3 ∨ k = 4
  · rw [if_pos (by omega), if_pos h1]
  · rw [if_neg (by omega), if_neg h1]
    by_cases h2 : k = 2
    · rw [if_pos (by omega), if_pos h2]
    · rw [if_neg (by omega), if_neg h2]
theorem fol_far {p : Pt} (h : p.k < 0 ∨ 5 < p.k) : fol p = 0 := by unfold fol; rw [if_neg (by omega), if_neg (by omega)]
set_option maxRecDepth 100000 in
set_option maxHeartbeats 1600000 in
theorem implFollow_any (x : Pt) (E : Option Addr) (ce : Nat) (w : World) (ht : FormTab w) :
    Calls Tryd.prog 49 #[.agg #[.int .i64 x.k, .int .i64 x.n, .string x.nm, .slice E x.args.length ce]] w fun e w' => e = .returned (.int .i64 (fol x)) ∧ Below w.heap.size w w' := by
  have HW := Lib.hid (fun o : Obj => show Below w.heap.size w (w.alloc o) from (Below.refl _ _).alloc (Nat.le_refl _) o)
  by_cases hk : x.k < 0 ∨ 5 < x.k
  · have HF := Lib.hid (fol_far hk)
    clear ht
    by_cases hk0 : (0 : Int) ≤ x.k
    · have h2 : ¬ x.k ≤ 5 := by omega
      clear hk
      go_enter Tryd.func49, Tryd.ntmps49
      go_wp2
      go_ret
      exact ⟨by rw [HF.out]; rfl, by repeat (first | exact Below.refl _ _ | refine Below.alloc ?_ (by simp <;> omega) _)⟩
    · clear hk
      go_enter Tryd.func49, Tryd.ntmps49
      go_wp2
      go_ret
      exact ⟨by rw [HF.out]; rfl, by repeat (first | exact Below.refl _ _ | refine Below.alloc ?_ (by simp <;> omega) _)⟩
  · obtain ⟨k, hkk⟩ : ∃ k : Nat, x.k = k := ⟨x.k.toNat, by omega⟩
    have hk6 : k < 6 := by omega
    obtain ⟨t1, t2, t3, t4⟩ := ht k hk6
    have hG : 0 < w.heap.size := World.block_lt_of_cell? w _ t4
    have hk5 : (k : Int) ≤ 5 := by omega
    have HF := Lib.hid (fol_fm hkk)
    clear ht hk t1 t2 t3
    go_enter Tryd.func49, Tryd.ntmps49
    go_wp2
    go_ret
    exact ⟨by rw [HF.out]; rfl, by repeat (first | exact Below.refl _ _ | refine Below.alloc ?_ (by simp <;> omega) _)⟩
set_option maxRecDepth 100000 in
set_option maxHeartbeats 1600000 in
/-- Where the program finds that a body's first part ends. -/
theorem implEnd_any (A : Option Addr) (n c : Nat) (xs : List Pt) (w : World) (S : Nat → Prop) (h : LRow ptR w S A xs) (l : xs.length = n) (hS : ∀ b, S b → b < w.heap.size) (h20 : n ≤ 20) (ht : FormTab w) :
    Calls Tryd.prog 57 #[.slice A n c, .func (.func 49) #[] #[]] w fun e w' => e = .returned (.int .i64 (pf xs 1 0)) ∧ Below w.heap.size w w' := by
  have L := Lib.hid l
  have HT := Lib.hid ht
  have HS := Lib.hid hS
  clear l ht
  go_enter Tryd.func57, Tryd.ntmps57
  go_wp2
  go_loopw [5, 10] (fun m i wr => ∃ (k : Nat) (q : Int), k ≤ n ∧ i = .int .i64 k ∧ m = .int .i64 q ∧ 1 ≤ q ∧ q ≤ 1 + k ∧ Hid (Below w.heap.size w wr) ∧ Hid (pf xs 1 0 = pf (xs.drop k) q k)) (fun _ i _ => n - (intOf i).toNat)
  case atStart => exact ⟨0, 1, Nat.zero_le _, rfl, rfl, by omega, by omega, Lib.hid (by first | exact Below.refl _ _ | exact (Below.refl _ _).drew), Lib.hid (by rw [List.drop_zero]; rfl)⟩
  case round =>
    obtain ⟨k, q, hk, rfl, rfl, hq0, hq1, HB, HE⟩ := hrel
    by_cases hlt : k < n
    · obtain ⟨b1, o1, cs1, x, rfl, hb1, hR1, hx, hc1⟩ := (h.keep (SameOn.of_below HB.out HS.out)).at_ (k := k) (by rw [L.out]; exact hlt)
      obtain ⟨B1, d1, rfl, hz1, hlc1, hcm1, hr1⟩ := hR1
      have p0 : wr.cell? ⟨b1, o1 + k * 4, none⟩ = some (.int .i64 x.k) := hc1 0 _ rfl
      have p1 : wr.cell? ⟨b1, o1 + k * 4 + 1, none⟩ = some (.int .i64 x.n) := hc1 1 _ rfl
      have p2 : wr.cell? ⟨b1, o1 + k * 4 + 2, none⟩ = some (.string x.nm) := hc1 2 _ rfl
      have p3 : wr.cell? ⟨b1, o1 + k * 4 + 3, none⟩ = some (.slice B1 x.args.length d1) := hc1 3 _ rfl
      have hst := HE.out
      rw [pf_step hx.out] at hst
      have hfb := fol_bd x
      have hws := HB.out.size
      have CF := fun (W : World) (hW : Below w.heap.size w W) => (Calls.mono (implFollow_any x B1 d1 W (FormTab.below HT.out hW)) (fun e w' ⟨he, hb⟩ => (⟨he, hW.trans (Below.mono hb hW.size)⟩ : e = Ending.returned (.int .i64 (fol x)) ∧ Below w.heap.size w w')))
      obtain ⟨f, hf⟩ : ∃ f, f = fol x := ⟨_, rfl⟩
      rw [← hf] at hfb hst CF
      have C := Lib.hid CF
      have hf0 : 0 ≤ f := by omega
      have hf2 : f ≤ 2 := by omega
      clear hc1 hr1 hz1 hlc1 hcm1 hf CF hfb
      by_cases hz : q + (f - 1) = 0
      · rw [if_pos hz] at hst
        have HF := Lib.hid hst
        have hzb : (q + (f - 1) == 0) = true := ib_eq hz
        clear hst hz
        go_wp2_with (go_at_call 49; refine (C.out _ (by repeat (first | exact HB.out | refine Below.setCell ?_ (by first | omega | (simp <;> omega)) _ | refine Below.alloc ?_ (by first | omega | (simp <;> omega)) _))).mono ?_; rintro e w2 ⟨rfl, hb⟩; have HB2 := Lib.hid hb; clear hb)
        go_ret
        exact ⟨by rw [HF.out]; rfl, HB2.out⟩
      · rw [if_neg hz] at hst
        have HN := Lib.hid hst
        have hzb : (q + (f - 1) == 0) = false := ib_ne hz
        have hz1 : 1 ≤ q + (f - 1) := by omega
        clear hst hz
        go_wp2_with (go_at_call 49; refine (C.out _ (by repeat (first | exact HB.out | refine Below.setCell ?_ (by first | omega | (simp <;> omega)) _ | refine Below.alloc ?_ (by first | omega | (simp <;> omega)) _))).mono ?_; rintro e w2 ⟨rfl, hb⟩; have HB2 := Lib.hid hb; clear hb)
        go_roundw
        case rel => exact ⟨k + 1, q + (f - 1), by omega, by go_num, rfl, by omega, by omega, HB2, HN⟩
        case measure => simp [intOf]; omega
    · obtain rfl : k = n := by omega
      have HF := Lib.hid (show pf xs 1 0 = -1 by rw [HE.out]; exact pf_none (by rw [L.out]; exact Nat.le_refl _))
      go_wp2
      go_ret
      exact ⟨by rw [HF.out]; rfl, HB.out⟩
end Go.Proofs.YthinoagdgbnphaaDoor
