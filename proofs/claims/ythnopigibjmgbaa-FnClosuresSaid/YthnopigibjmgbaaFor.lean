/- Forests of parents: the root of an item, and two classes made one. -/
import Derived.Test.YthnopigibjmgbaaProg
import Derived.WalkKit
import Derived.ProofKit
import Derived.BigQuiet
import Derived.Outline
import Derived.IntWalk
import Derived.StillTailTactics
import Derived.Deep.RegionWith
import Derived.Test.YthnopigibjmgbaaMem
import Derived.Test.YthnopigibjmgbaaOwn
import Derived.Test.YthnopigibjmgbaaTurn
import Derived.Test.YthnopigibjmgbaaLawI
import Derived.Test.YthnopigibjmgbaaPartM
import Derived.Test.YthnopigibjmgbaaForM
namespace Go.Proofs.Ythnopigibjmgbaa
open Go.RowKit
/-- The forest at block fb with its parents at block g. -/
def Forest (w : World) (lo n fb g : Nat) (R d : Nat → Nat) : Prop :=
  fb ≠ g ∧ w.cell? ⟨fb, 0, none⟩ = some (.slice (some ⟨g, 0, none⟩) n n) ∧ ∃ ps, Par ps n R d ∧ w.ownsRow lo 2 1 (.slice (some ⟨g, 0, none⟩) n n) n (ps.map (Value.int .i64))
theorem Forest.below {w w' : World} {lo n fb g : Nat} {R d : Nat → Nat} (h : Forest w lo n fb g R d) (hb : Below w.heap.size w w') : Forest w' lo n fb g R d := by
  obtain ⟨h1, h2, ps, h3, h4⟩ := h
  exact ⟨h1, (hb.cell (p := ⟨fb, 0, none⟩) (World.block_lt_of_cell? w _ h2)).trans h2, ps, h3, own_below' h4 hb⟩
theorem Forest.drawn {w w' : World} {lo n fb g : Nat} {R d : Nat → Nat} (h : Forest w lo n fb g R d) (hd : Drawn w w') : Forest w' lo n fb g R d := h.below (hd.below _)
theorem own_cell {w : World} {lo g n c : Nat} {ps : List Int} (h : w.ownsRow lo 2 1 (.slice (some ⟨g, 0, none⟩) n c) n (ps.map (Value.int .i64))) {k : Nat} {x : Int} (hx : ps[k]? = some x) : w.cell? ⟨g, k, none⟩ = some (.int .i64 x) := by
  have hl := h.1
  rw [List.length_map] at hl
  rw [h.cellAt k (by have := (List.getElem?_eq_some_iff.1 hx).1; omega), List.getElem?_map, hx]; rfl
theorem own_set {w : World} {lo g n c : Nat} {ps : List Int} (h : w.ownsRow lo 2 1 (.slice (some ⟨g, 0, none⟩) n c) n (ps.map (Value.int .i64))) (k : Nat) (x : Int) : (w.setCell ⟨g, k, none⟩ (.int .i64 x)).ownsRow lo 2 1 (.slice (some ⟨g, 0, none⟩) n c) n ((ps.set k x).map (Value.int .i64)) := by
  have := (h.stored k (.int .i64 x)).1
  rwa [← List.map_set] at this
theorem cell_grown {w w' : World} {g b o : Nat} {v : Value} (hg : w.grownBy w' (some g)) (h : w.cell? ⟨b, o, none⟩ = some v) (hne : b ≠ g) : w'.cell? ⟨b, o, none⟩ = some v :=
  hg.cell h (by simpa using hne)
set_option maxHeartbeats 2000000 in
set_option maxRecDepth 100000 in
theorem root_any (lo n fb g : Nat) (R d : Nat → Nat) (i : Nat) (w : World) (h : Forest w lo n fb g R d) (hi : i < n) (hn : n ≤ 2000000) :
    Calls Try.prog 91 #[.pointer (some ⟨fb, 0, none⟩), .int .i64 i] w fun e w' => e = .returned (.int .i64 (R i)) ∧ Forest w' lo n fb g R d ∧ w.grownBy w' (some g) := by
  have H := Lib.hid h
  clear h
  go_enter Try.func91, Try.ntmps91
  go_wp2
  go_loopw [1] (fun t wr => ∃ j : Nat, j < n ∧ t = .int .i64 j ∧ Hid (R j = R i) ∧ Forest wr lo n fb g R d ∧ w.grownBy wr (some g)) (fun t _ => d (intOf t).toNat)
  case atStart => exact ⟨i, hi, rfl, rfl, H.out, World.grownBy.refl _ _⟩
  case round =>
    obtain ⟨j, hj, rfl, HR, ⟨hne, hcf, ps, hps, hrow⟩, hg⟩ := hrel
    obtain ⟨p, hp, hpn, hRp, hs⟩ := hps.step j hj
    have hcp := own_cell hrow hp
    have HG := Lib.hid hg
    have hj' : (j : Int) < (n : Int) := by omega
    by_cases e : p = j
    · subst e
      have hRR : R p = p := hs.elim (fun h => h.2) (fun h => absurd rfl h.1)
      have HRR := Lib.hid (hRR.symm.trans HR.out)
      have HF := Lib.hid (show Forest wr lo n fb g R d from ⟨hne, hcf, ps, hps, hrow⟩)
      have hb : ((p : Int) != (p : Int)) = false := by simp
      clear hg hRR hRp hs hps hp hrow hne
      go_wp2
      go_ret
      exact ⟨by rw [HRR.out]; rfl, HF.out, HG.out⟩
    · obtain ⟨q, hq, hqn, hRq, hs'⟩ := hps.step p hpn
      have hcq := own_cell hrow hq
      have hfz := hrow.frozenAt j
      have hp' : (p : Int) < (n : Int) := by omega
      have hb : ((p : Int) != (j : Int)) = true := by simp; omega
      have HP := Lib.hid (hps.halve hj hp hq)
      have HD := Lib.hid (show d q < d j from hs.elim (fun h => absurd h.1 e) (fun h => hs'.elim (fun h' => by rw [h'.1]; exact h.2) (fun h' => Nat.lt_trans h'.2 h.2)))
      have HRR := Lib.hid (hRq.trans (hRp.trans HR.out))
      have HO := Lib.hid hrow
      have HNE := Lib.hid hne
      have HC := Lib.hid hcf
      have hcf2 : wr.drew.cell? ⟨fb, 0, none⟩ = some (.slice (some ⟨g, 0, none⟩) n n) := hcf
      have hcp2 : wr.drew.cell? ⟨g, j, none⟩ = some (.int .i64 (p : Int)) := hcp
      have hcq2 : wr.drew.cell? ⟨g, p, none⟩ = some (.int .i64 (q : Int)) := hcq
      have hfz2 : wr.drew.frozen? ⟨g, j, none⟩ = false := hfz
      clear hg hRp hRq hs hs' hps hp hq hrow e hne
      go_wp2
      go_still_tail 19, (by kernel_rfl)
      change wpList _ _ _ _ _ wr.drew
      have hne : fb ≠ g := HNE.out
      go_wp2
      go_roundw
      case rel => exact ⟨q, hqn, rfl, HRR, ⟨HNE.out, cell_grown (grown_trans (HO.out.stored j (.int .i64 q)).2 (grown_drawn (Drawn.refl _).drew)) HC.out HNE.out, _, HP.out, own_drawn (own_set HO.out j q) (Drawn.refl _).drew⟩, grown_trans HG.out (grown_trans (HO.out.stored j _).2 (grown_drawn (Drawn.refl _).drew))⟩
      case measure => simp [intOf]; exact HD.out
theorem Forest.facts {w : World} {lo n fb g : Nat} {R d : Nat → Nat} (h : Forest w lo n fb g R d) {a : Nat} (ha : a < n) :
    w.cell? ⟨fb, 0, none⟩ = some (.slice (some ⟨g, 0, none⟩) n n) ∧ w.cell? ⟨g, R a, none⟩ = some (.int .i64 (R a : Int)) ∧ w.frozen? ⟨g, R a, none⟩ = false := by
  obtain ⟨hne, hcf, ps, hps, hrow⟩ := h
  exact ⟨hcf, own_cell hrow (hps.root' ha).2.2, hrow.frozenAt _⟩
theorem Forest.root_lt {w : World} {lo n fb g : Nat} {R d : Nat → Nat} (h : Forest w lo n fb g R d) {a : Nat} (ha : a < n) : R a < n := by
  obtain ⟨hne, hcf, ps, hps, hrow⟩ := h
  exact (hps.root' ha).1
theorem Forest.unite {w : World} {lo n fb g : Nat} {R d : Nat → Nat} (h : Forest w lo n fb g R d) {a b : Nat} (ha : a < n) (hb : b < n) :
    (∃ d', Forest (w.setCell ⟨g, R a, none⟩ (.int .i64 (R b : Int))) lo n fb g (uniR R a b) d') ∧ w.grownBy (w.setCell ⟨g, R a, none⟩ (.int .i64 (R b : Int))) (some g) := by
  obtain ⟨hne, hcf, ps, hps, hrow⟩ := h
  obtain ⟨d', hd⟩ := hps.unite ha hb
  have hg := (hrow.stored (R a) (.int .i64 (R b : Int))).2
  exact ⟨⟨d', hne, cell_grown hg hcf hne, _, hd, own_set hrow _ _⟩, hg⟩
set_option maxHeartbeats 2000000 in
set_option maxRecDepth 100000 in
theorem unite_any (lo n fb g : Nat) (R d : Nat → Nat) (a b : Nat) (w : World) (h : Forest w lo n fb g R d) (ha : a < n) (hb : b < n) (hn : n ≤ 2000000) :
    Calls Try.prog 64 #[.pointer (some ⟨fb, 0, none⟩), .int .i64 a, .int .i64 b] w fun e w' => e = .returned (.tuple #[]) ∧ (∃ d', Forest w' lo n fb g (uniR R a b) d') ∧ w.grownBy w' (some g) := by
  have F0 := Lib.hid (h.drawn (Drawn.refl _).drew)
  have G0 := Lib.hid (show w.grownBy w.drew (some g) from grown_drawn (Drawn.refl _).drew)
  have hra := h.root_lt ha
  have hra' : (R a : Int) < (n : Int) := by omega
  have hc0 : w.drew.cell? ⟨fb, 0, none⟩ = some (.slice (some ⟨g, 0, none⟩) n n) := h.2.1
  clear h
  go_enter Try.func64, Try.ntmps64
  go_wp2
  go_region_with (go_at_call 91; (first | with_reducible refine (root_any lo n fb g R d a _ F0.out ha hn).mono ?_ | with_reducible refine (root_any lo n fb g R d b _ F0.out hb hn).mono ?_); rintro e wq ⟨rfl, f1, g1⟩; have F0 := Lib.hid f1; have G0 := Lib.hid (grown_trans G0.out g1); obtain ⟨k1, k2, k3⟩ := f1.facts ha; clear f1 g1)
  all_goals
    go_wp2
    exact bodyPost_end (results_none rfl _ _ _) rfl ⟨rfl, (F0.out.unite ha hb).1, grown_trans G0.out (F0.out.unite ha hb).2⟩
end Go.Proofs.Ythnopigibjmgbaa
