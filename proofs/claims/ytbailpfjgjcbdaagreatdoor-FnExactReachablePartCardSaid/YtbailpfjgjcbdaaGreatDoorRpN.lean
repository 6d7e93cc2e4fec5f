/- The reachable part: the program's map of where a number stands. -/
import Derived.Test.YtbailpfjgjcbdaaGreatDoorIcI
import Derived.Test.YtbailpfjgjcbdaaGreatDoorRpA
namespace Go.Proofs.YtbailpfjgjcbdaaGreatDoor
open Go.RowKit Go.Maps
set_option linter.unusedVariables false
set_option linter.unusedSimpArgs false
/-- A map of numbers to where they stand in the first j of a list. -/
structure IdxIs (D : DataW Unit) (xs : List Int) (j : Nat) : Prop where
  val : ∀ k ∈ xs.take j, D.atKey (.int .i64 k) (.lit (.int .i64 0)) = .lit (.int .i64 (plI xs k))
theorem IdxIs.nil (xs : List Int) : IdxIs (.map []) xs 0 := ⟨fun k h => by simp at h⟩
theorem IdxIs.put {D : DataW Unit} {xs : List Int} {j : Nat} {k : Int} (h : IdxIs D xs j) (ht : Maps.Tidy D) (hu : xs.Pairwise (· < ·)) (hj : xs[j]? = some k) : IdxIs (D.put (.int .i64 k) (.lit (.int .i64 (j : Int)))) xs (j + 1) := by
  refine ⟨fun u hm => ?_⟩
  by_cases e : u = k
  · subst e
    rw [Maps.atKey_put_same ht.isMap (show WideAt.IsKeyLit (.int .i64 u) from trivial), plI_at hu hj]
  · rw [Maps.atKey_put_other (lit_ne e)]
    refine h.val u ?_
    rw [take_one _ _ _ hj, List.mem_append, List.mem_singleton] at hm
    exact hm.resolve_right e
theorem zeroIn (w : World) : (zeroValue 2).run Tryz.prog w = .ok (.int .i64 0) w := by kernel_rfl
theorem key_small {k : Int} (h : 0 ≤ k ∧ k < 1000000) : keyOf Tryz.prog 2 (.int .i64 k) = some (.int .i64 k) := keyOf_int_mk Tryz.underlying2 (WalkArith.wf_i64 (by omega))
theorem look_idx {w : World} {b n : Nat} {D : DataW Unit} {xs : List Int} (h : w.ownsMap Tryz.prog 2 (plainElem (H := Unit) Tryz.prog 2) b n D) (hi : IdxIs D xs xs.length) {k : Int} (hk : k ∈ xs) (hb : 0 ≤ k ∧ k < 1000000) :
    (Instr.lookup 75 (.map (some b)) (.int .i64 k) false).run Tryz.prog w = .ok (.int .i64 (plI xs k)) w := by
  obtain ⟨c, hrun, hat, _⟩ := h.lookup_int (int_keyed Tryz.underlying2) Tryz.underlying75 Tryz.underlying2 (zeroIn w) (key_small hb)
  rw [hi.val k (by rw [List.take_of_length_le (Nat.le_refl _)]; exact hk)] at hat
  simp only [DataW.lit.injEq, Lit.int.injEq, true_and] at hat
  rw [hat]; exact hrun
set_option maxRecDepth 100000 in
set_option maxHeartbeats 4000000 in
theorem idxOf_any (B : Option Addr) (n d : Nat) (xs : List Int) (w : World) (S2 : Nat → Prop) (hp : LRow intR w S2 B xs) (hS2 : ∀ b, S2 b → b < w.heap.size) (l : xs.length = n) (m : n ≤ 1000000) (hu : xs.Pairwise (· < ·)) (hb : ∀ k ∈ xs, 0 ≤ k ∧ k < 1000000) :
    Calls Tryz.prog 52 #[.slice B n d] w fun e w' => ∃ D, e = .returned (.map (some w.heap.size)) ∧ w'.ownsMap Tryz.prog 2 (plainElem (H := Unit) Tryz.prog 2) w.heap.size xs.length D ∧ IdxIs D xs xs.length ∧ Below w.heap.size w w' := by
  have hmm := @run_makeMap Tryz.prog
  have law := int_keyed Tryz.underlying2
  have HR := Lib.hid hp
  have HS2 := Lib.hid hS2
  have L := Lib.hid l
  have HU := Lib.hid hu
  have HBD := Lib.hid hb
  have hm0 := Lib.hid (World.ownsMap_made w Tryz.prog 2 (plainElem (H := Unit) Tryz.prog 2))
  have hb0 := Lib.hid ((Below.refl w.heap.size w).alloc (Nat.le_refl _) (.map #[] 0))
  clear hp hS2 l hu hb
  go_enter Tryz.func52, Tryz.ntmps52
  go_wp2
  clear hmm
  go_loopw [9] (fun i wr => ∃ (j : Nat) (Dm : DataW Unit), j ≤ n ∧ i = .int .i64 (j : Int) ∧ Hid (IdxIs Dm xs j) ∧ Hid (wr.ownsMap Tryz.prog 2 (plainElem (H := Unit) Tryz.prog 2) w.heap.size j Dm) ∧ Hid (Below w.heap.size w wr)) (fun i _ => n - (intOf i).toNat)
  case atStart => exact ⟨0, _, Nat.zero_le _, rfl, Lib.hid (IdxIs.nil xs), hm0, hb0⟩
  case round =>
    clear hm0 hb0
    obtain ⟨j, Dm, hj, rfl, HI, HM, HB⟩ := hrel
    have hsz := HB.out.size
    by_cases hlt : j < n
    · obtain ⟨b, o, k, rfl, hb, r0, hi⟩ := int_row (HR.out.keep (SameOn.of_below HB.out HS2.out)) (k := j) (by rw [L.out]; exact hlt)
      have lb := World.block_lt_of_cell? wr _ r0
      have HKEY := Lib.hid (key_small (HBD.out k (List.mem_of_getElem? hi.out)))
      have HI2 := Lib.hid (HI.out.put (HM.out.tidy law) HU.out hi.out)
      go_wp2_with (at_mapUpdate; go_loud (refine wpList_mapUpdate_own _ rfl _ _ _ 75 rfl 2 2 law Tryz.underlying75 _ w.heap.size j Dm rfl HM.out (by unfold maxLen; omega) _ _ (.int .i64 k) rfl rfl HKEY.out _ [] (plainElem_int Tryz.underlying2 (WalkArith.wf_i64 (by omega))) ?_; intro w2 hmap2 hg2; have HM2 := Lib.hid hmap2; have HB2 := Lib.hid (HB.out.grown hg2 hsz (fun j hj => by cases hj; exact Nat.le_refl _)); clear hmap2 hg2))
      go_roundw
      case rel => exact ⟨j + 1, _, by omega, by go_num, HI2, HM2, HB2⟩
      case measure => simp [intOf]; omega
    · have hjn : j = n := by omega
      subst hjn
      go_wp2
      go_ret
      exact ⟨Dm, rfl, by rw [L.out]; exact HM.out, by rw [L.out]; exact HI.out, HB.out⟩
/-- The part's box is laid, its labels copied, before or behind one another. -/
def Rel5 (x : Lt) (xs : List Int) (w3 : World) (s8 : Value) (wx : World) : Prop := ∃ (q : Nat) (A4 : Option Addr) (c4 : Nat), s8 = .pointer (some ⟨q, 0, none⟩) ∧ BoxO wx q q [.int .i64 xs.length, .int .i64 (plI xs x.ini), .slice A4 x.ls.length c4, .slice none 0 0] ∧ OL txtO 9 wx (In w3.heap.size wx.heap.size) A4 x.ls.length c4 x.ls ∧ (Value.slice A4 x.ls.length c4).ownBlock ≠ some q ∧ w3.heap.size ≤ q ∧ Below w3.heap.size w3 wx
theorem rel5_first {x : Lt} {xs : List Int} {w3 w4 : World} {o : Obj} {A4 : Option Addr} {c4 : Nat} (hb : Below (w3.alloc o).drew.heap.size (w3.alloc o).drew w4) (hO : OL txtO 9 w4 (In (w3.alloc o).drew.heap.size w4.heap.size) A4 x.ls.length c4 x.ls) (hbx : BoxO w4 w3.heap.size w3.heap.size [.int .i64 0, .int .i64 0, .slice none 0 0, .slice none 0 0]) :
    Rel5 x xs w3 (.pointer (some ⟨w3.heap.size, 0, none⟩)) ((((w4.setCell ⟨w3.heap.size, 0, none⟩ (.int .i64 xs.length)).setCell ⟨w3.heap.size, 1, none⟩ (.int .i64 (plI xs x.ini))).setCell ⟨w3.heap.size, 2, none⟩ (.slice A4 x.ls.length c4)).setCell ⟨w3.heap.size, 3, none⟩ (.slice none 0 0)) := by
  have hF := hbx.fill (.int .i64 xs.length) (.int .i64 (plI xs x.ini)) (.slice A4 x.ls.length c4) (.slice none 0 0)
  have hs : (w3.alloc o).drew.heap.size = w3.heap.size + 1 := by simp
  have hb3 : Below w3.heap.size w3 w4 := ((Below.refl w3.heap.size w3).alloc (Nat.le_refl _) o).drew.trans (hb.mono (by rw [hs]; omega))
  have h4 := hF.2.size
  rw [hs] at hO
  refine ⟨w3.heap.size, A4, c4, rfl, hF.1, (hO.keep (sameB_grown hF.2 (fun h => by have := h.1; omega))).more (fun b h => ⟨by have := h.1; omega, Nat.lt_of_lt_of_le h.2 h4⟩), fun e => by have := (hO.top _ e).1; omega, Nat.le_refl _, hb3.grown hF.2 hb3.size (fun g e => by cases e; exact Nat.le_refl _)⟩
theorem rel5_last {x : Lt} {xs : List Int} {w3 w4 : World} {A4 : Option Addr} {c4 : Nat} (hb : Below w3.drew.heap.size w3.drew w4) (hO : OL txtO 9 w4 (In w3.drew.heap.size w4.heap.size) A4 x.ls.length c4 x.ls) :
    Rel5 x xs w3 (.pointer (some ⟨w4.heap.size, 0, none⟩)) (w4.alloc (.cells #[.int .i64 xs.length, .int .i64 (plI xs x.ini), .slice A4 x.ls.length c4, .slice none 0 0] 32)) := by
  have hs : w3.drew.heap.size = w3.heap.size := by simp
  have hb3 : Below w3.heap.size w3 w4 := (Below.refl w3.heap.size w3).drew.trans (hb.mono (by rw [hs]; exact Nat.le_refl _))
  rw [hs] at hO
  refine ⟨w4.heap.size, A4, c4, rfl, BoxO.new' rfl (Nat.le_refl _) _ _ _ _, (hO.keep (SameB.of_below ((Below.refl _ w4).alloc (Nat.le_refl _) _))).more (fun b h => ⟨h.1, by have := h.2; simp; omega⟩), fun e => by have := (hO.top _ e).2; omega, hb3.size, hb3.alloc hb3.size _⟩
theorem KS.same {lo q : Nat} {a b l : Value} {wr wr' : World} {A : Option Addr} {n c : Nat} {es : List Ed} (h : KS lo q a b l wr A n c es) (hg : wr.grownBy wr' (Value.slice A n c).ownBlock) {S : Nat → Prop} (h1 : ∀ g, S g → (Value.slice A n c).ownBlock = some g → False) (h2 : ¬ S q) (v2 : Value) : SameB S wr (wr'.setCell ⟨q, 3, none⟩ v2) :=
  SameB.setCell (fun b hb hlt => hg.block b hlt (fun e => h1 b hb e.symm)) h2
theorem lt_own {w' : World} {S : Nat → Prop} {y : Lt} {A1 A2 : Option Addr} {c1 c2 : Nat} {S1 S2 : Nat → Prop} (h1 : OL txtO 9 w' S1 A1 y.ls.length c1 y.ls) (h2 : OL edO 79 w' S2 A2 y.es.length c2 y.es) (hS1 : ∀ b, S1 b → S b) (hS2 : ∀ b, S2 b → S b) (hne : ∀ b, (Value.slice A1 y.ls.length c1).ownBlock = some b → (Value.slice A2 y.es.length c2).ownBlock = some b → False) : ltO.O w' S y [.int .i64 y.st, .int .i64 y.ini, .slice A1 y.ls.length c1, .slice A2 y.es.length c2] := by
  refine ⟨A1, c1, A2, c2, fun i b => (i = 0 ∧ (Value.slice A1 y.ls.length c1).ownBlock = some b) ∨ (i = 1 ∧ (Value.slice A2 y.es.length c2).ownBlock = some b), rfl, (h1.tight flat_txt).more (fun b hb => .inl ⟨rfl, hb⟩), (h2.tight flat_ed).more (fun b hb => .inr ⟨rfl, hb⟩), ?_, ?_⟩
  · intro i j b hij hi hj
    rcases hi with ⟨rfl, hi⟩ | ⟨rfl, hi⟩ <;> rcases hj with ⟨rfl, hj⟩ | ⟨rfl, hj⟩
    · exact hij rfl
    · exact hne b hi hj
    · exact hne b hj hi
    · exact hij rfl
  · intro i b hi
    rcases hi with ⟨_, hi⟩ | ⟨_, hi⟩
    · exact hS1 b (h1.top b hi)
    · exact hS2 b (h2.top b hi)
/-- The part while its edges are laid. -/
structure PS (x : Lt) (xs : List Int) (w3 : World) (q : Nat) (A4 : Option Addr) (c4 : Nat) (wr : World) (A : Option Addr) (n c : Nat) (es : List Ed) : Prop where
  ks : KS q q (.int .i64 xs.length) (.int .i64 (plI xs x.ini)) (.slice A4 x.ls.length c4) wr A n c es
  lab : OL txtO 9 wr (fun b => (Value.slice A4 x.ls.length c4).ownBlock = some b) A4 x.ls.length c4 x.ls
  llo : ∀ g, (Value.slice A4 x.ls.length c4).ownBlock = some g → w3.heap.size ≤ g ∧ g < wr.heap.size
  lq : (Value.slice A4 x.ls.length c4).ownBlock ≠ some q
  lne : ∀ g, (Value.slice A4 x.ls.length c4).ownBlock = some g → (Value.slice A n c).ownBlock = some g → False
  qlo : w3.heap.size ≤ q
  bel : Below w3.heap.size w3 wr
theorem PS.start {x : Lt} {xs : List Int} {w3 wx : World} {q : Nat} {A4 : Option Addr} {c4 : Nat} (hbx : BoxO wx q q [.int .i64 xs.length, .int .i64 (plI xs x.ini), .slice A4 x.ls.length c4, .slice none 0 0]) (hO : OL txtO 9 wx (In w3.heap.size wx.heap.size) A4 x.ls.length c4 x.ls) (hne : (Value.slice A4 x.ls.length c4).ownBlock ≠ some q) (hq : w3.heap.size ≤ q) (hb : Below w3.heap.size w3 wx) : PS x xs w3 q A4 c4 wx none 0 0 [] :=
  ⟨⟨hbx, World.ownsRow_nil _ _ _ _, by simp [Value.ownBlock]⟩, hO.tight flat_txt, fun g e => hO.top g e, hne, fun g _ e => by simp [Value.ownBlock] at e, hq, hb⟩
theorem PS.below {x : Lt} {xs : List Int} {w3 wr wr' : World} {q : Nat} {A4 : Option Addr} {c4 : Nat} {A : Option Addr} {n c : Nat} {es : List Ed} (h : PS x xs w3 q A4 c4 wr A n c es) (hb : Below wr.heap.size wr wr') : PS x xs w3 q A4 c4 wr' A n c es :=
  ⟨h.ks.below hb, h.lab.keep (SameB.of_below hb), fun g e => ⟨(h.llo g e).1, Nat.lt_of_lt_of_le (h.llo g e).2 hb.size⟩, h.lq, h.lne, h.qlo, h.bel.trans (hb.mono h.bel.size)⟩
theorem PS.put {x : Lt} {xs : List Int} {w3 wr wr' : World} {q : Nat} {A4 : Option Addr} {c4 : Nat} {A A' : Option Addr} {n c n' c' : Nat} {es es' : List Ed} (h : PS x xs w3 q A4 c4 wr A n c es) (hr : wr'.ownsRow q 79 3 (.slice A' n' c') n' (edCs es')) (hg : wr.grownBy wr' (Value.slice A n c).ownBlock) (hw : ∀ g, (Value.slice A' n' c').ownBlock = some g → (Value.slice A n c).ownBlock = some g ∨ wr.heap.size ≤ g) : PS x xs w3 q A4 c4 (wr'.setCell ⟨q, 3, none⟩ (.slice A' n' c')) A' n' c' es' := by
  have hs := (h.ks.box.kept hg h.ks.ne).put3 (.slice A' n' c')
  have hz := hs.2.size
  have hq := h.qlo
  refine ⟨h.ks.put hr hg hw, h.lab.keep (h.ks.same hg (fun g e1 e2 => h.lne g e1 e2) h.lq _), fun g e => ⟨(h.llo g e).1, Nat.lt_of_lt_of_le (Nat.lt_of_lt_of_le (h.llo g e).2 hg.size) hz⟩, h.lq, fun g e1 e2 => ?_, h.qlo, (h.bel.grown hg h.bel.size (fun g e => Nat.le_trans hq (h.ks.row.lt g e).1)).setCell (p := ⟨q, 3, none⟩) hq _⟩
  rcases hw g e2 with h1 | h1
  · exact h.lne g e1 h1
  · have := (h.llo g e1).2; omega
theorem owns_lt {H : Type} {P : Program} {k : TypeId} {R : Value → Option (DataW H × List MemPlace)} {w : World} {b n : Nat} {D : DataW H} (h : w.ownsMap P k R b n D) : b < w.heap.size := by
  obtain ⟨es, clock, h1, _⟩ := h
  exact (Array.getElem?_eq_some_iff.1 h1).1
end Go.Proofs.YtbailpfjgjcbdaaGreatDoor
