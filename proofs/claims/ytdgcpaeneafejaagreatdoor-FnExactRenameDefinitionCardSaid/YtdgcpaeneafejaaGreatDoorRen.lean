/- RenameDefinition, both sides. -/
import Derived.BigQuiet
import Derived.Outline
import Derived.Deep.Cut
import Derived.Test.YtdgcpaeneafejaaGreatDoorOwS
import Derived.Test.YtdgcpaeneafejaaGreatDoorClS
import Derived.Test.YtdgcpaeneafejaaGreatDoorSfU
import Derived.Test.YtdgcpaeneafejaaGreatDoorSfL
namespace Go.Proofs.YtdgcpaeneafejaaGreatDoor
open Go.RowKit
/-- A system of the call's own, and a code. -/
def RetS2 (x : Sy) (code : Int) (w : World) (e : Ending) (w' : World) : Prop :=
  ∃ cs : List Value, e = .returned (.tuple #[.agg cs.toArray, .int .i64 code]) ∧ syO.O w' (In w.heap.size w'.heap.size) x cs ∧ Below w.heap.size w w'
def syZ : Sy := ⟨[], [], [], [], []⟩
theorem syZ_own (w : World) (S : Nat → Prop) : syO.O w S syZ [.slice none 0 0, .slice none 0 0, .slice none 0 0, .slice none 0 0, .slice none 0 0] :=
  ⟨none, 0, none, 0, none, 0, none, 0, none, 0, fun _ _ => False, rfl, OL.nil, OL.nil, OL.nil, OL.nil, OL.nil, fun _ _ _ _ h => h.elim, fun _ _ h => h.elim⟩
theorem RetS2_none {x : Sy} {code q : Int} {w w' : World} (h : x = syZ) (hq : code = q) (hb : Below w.heap.size w w') : RetS2 x code w (.returned (.tuple #[.agg #[.slice none 0 0, .slice none 0 0, .slice none 0 0, .slice none 0 0, .slice none 0 0], .int .i64 q])) w' := by
  subst h hq
  exact ⟨[.slice none 0 0, .slice none 0 0, .slice none 0 0, .slice none 0 0, .slice none 0 0], rfl, syZ_own _ _, hb⟩
/-- Another definition than the one in place j has the name t. -/
def exN (ls : List Df) (j : Nat) (t : ByteArray) : Bool := (List.range ls.length).any fun i => decide (i ≠ j) && ((ls.getD i default).nm.toList == t.toList)
theorem SameB.alloc2 {S : Nat → Prop} {w w1 : World} (h : SameB S w w1) (hs : w1.heap.size = w.heap.size) (o : Obj) : SameB S w (w1.alloc o) := fun b hb hlt =>
  (((Below.refl w1.heap.size w1).alloc (Nat.le_refl _) o).block b (by omega)).trans (h b hb hlt)
theorem exN_yes {ls : List Df} {i j : Nat} {d : Df} {t : ByteArray} (hd : ls[i]? = some d) (hne : i ≠ j) (h : (d.nm.toList == t.toList) = true) : exN ls j t = true := by
  unfold exN
  rw [List.any_eq_true]
  have hi := (List.getElem?_eq_some_iff.1 hd).1
  refine ⟨i, List.mem_range.2 hi, ?_⟩
  have e : ls.getD i default = d := by rw [List.getD_eq_getElem?_getD, hd]; rfl
  rw [e, h, decide_eq_true hne]; rfl
theorem exN_no {ls : List Df} {j : Nat} {t : ByteArray} (h : ∀ (i : Nat) (d : Df), ls[i]? = some d → i ≠ j → (d.nm.toList == t.toList) = false) : exN ls j t = false := by
  unfold exN
  rw [Bool.eq_false_iff]
  intro h2
  rw [List.any_eq_true] at h2
  obtain ⟨i, hi, h3⟩ := h2
  have hi := List.mem_range.1 hi
  have hd : ls[i]? = some ls[i] := List.getElem?_eq_getElem hi
  have e : ls.getD i default = ls[i] := by rw [List.getD_eq_getElem?_getD, hd]; rfl
  rw [Bool.and_eq_true, e] at h3
  have := h i _ hd (of_decide_eq_true h3.1)
  rw [this] at h3
  cases h3.2
theorem vd_diff {ls : List Df} (h : vdB ls = true) : diffB ls = true := by
  unfold vdB at h
  rw [Bool.and_eq_true, Bool.and_eq_true, Bool.and_eq_true] at h
  exact h.2.2.1
theorem names_apart {ls : List Df} (h : vdB ls = true) {i j : Nat} {d q : Df} (hd : ls[i]? = some d) (hq : ls[j]? = some q) (hne : i ≠ j) : (d.nm.toList == q.nm.toList) = false := by
  rcases e : (d.nm.toList == q.nm.toList) with _ | _
  · rfl
  · exfalso
    have hdf := vd_diff h
    have e2 : (q.nm.toList == d.nm.toList) = true := by rw [beq_iff_eq] at e ⊢; exact e.symm
    rcases Nat.lt_or_gt_of_ne hne with hlt | hgt
    · rw [diffB_bad hlt hq hd (by first | exact e2 | exact e)] at hdf; cases hdf
    · rw [diffB_bad hgt hd hq (by first | exact e | exact e2)] at hdf; cases hdf
noncomputable def rnC (s : Sy) (k : Int) (t : ByteArray) : Int := if vsB s = true then (if idxB k s.ds.length = true then (if nameB t.data.toList = true then (if exN s.ds k.toNat t = true then 4 else 0) else 2) else 2) else 1
noncomputable def rnS (s : Sy) (k : Int) (t : ByteArray) : Sy := if rnC s k t = 0 then ⟨s.ds.set k.toNat ⟨t, (s.ds.getD k.toNat default).ps, (s.ds.getD k.toNat default).body⟩, s.cs, s.ms, s.al, s.hd⟩ else syZ
theorem rn_bad {s : Sy} {k : Int} {t : ByteArray} {q : Int} (h : rnC s k t = q) (hq : q ≠ 0) : rnS s k t = syZ := by unfold rnS; rw [h, if_neg hq]
theorem rnC1 {s : Sy} {k : Int} {t : ByteArray} (h : vsB s = false) : rnC s k t = 1 := by unfold rnC; rw [h]; rfl
theorem rnC2 {s : Sy} {k : Int} {t : ByteArray} (h : vsB s = true) (h2 : idxB k s.ds.length = false) : rnC s k t = 2 := by unfold rnC; rw [h, h2]; rfl
theorem rnC3 {s : Sy} {k : Int} {t : ByteArray} (h : vsB s = true) (h2 : idxB k s.ds.length = true) (h3 : nameB t.data.toList = false) : rnC s k t = 2 := by unfold rnC; rw [h, h2, h3]; rfl
theorem rnC4 {s : Sy} {k : Int} {t : ByteArray} (h : vsB s = true) (h2 : idxB k s.ds.length = true) (h3 : nameB t.data.toList = true) (h4 : exN s.ds k.toNat t = true) : rnC s k t = 4 := by unfold rnC; rw [h, h2, h3, h4]; rfl
theorem rnC0 {s : Sy} {k : Int} {t : ByteArray} (h : vsB s = true) (h2 : idxB k s.ds.length = true) (h3 : nameB t.data.toList = true) (h4 : exN s.ds k.toNat t = false) : rnC s k t = 0 := by unfold rnC; rw [h, h2, h3, h4]; rfl
/-- The name in place j of an owned system's definitions is written. -/
theorem sy_named {s : Sy} {w : World} {S : Nat → Prop} {A1 A2 A3 A4 A5 : Option Addr} {c1 c2 c3 c4 c5 j : Nat} {d : Df} {E : Nat → Nat → Prop} {t : ByteArray}
    (h1 : OL dfO 88 w (E 0) A1 s.ds.length c1 s.ds) (h2 : OL cpO 45 w (E 1) A2 s.cs.length c2 s.cs) (h3 : OL mtO 122 w (E 2) A3 s.ms.length c3 s.ms) (h4 : OL txtO 9 w (E 3) A4 s.al.length c4 s.al) (h5 : OL txtO 9 w (E 4) A5 s.hd.length c5 s.hd)
    (ha : Ap E) (hE : ∀ i b, E i b → S b) (hd : s.ds[j]? = some d) (ht : t.size ≤ maxLen) :
    ∃ g, A1 = some ⟨g, 0, none⟩ ∧ S g ∧ g < w.heap.size ∧ w.cell? ⟨g, j * 3, none⟩ = some (.string d.nm) ∧ w.frozen? ⟨g, j * 3, none⟩ = false ∧
      syO.O (w.setCell ⟨g, j * 3, none⟩ (.string t)) S ⟨s.ds.set j ⟨t, d.ps, d.body⟩, s.cs, s.ms, s.al, s.hd⟩ [.slice A1 s.ds.length c1, .slice A2 s.cs.length c2, .slice A3 s.ms.length c3, .slice A4 s.al.length c4, .slice A5 s.hd.length c5] := by
  have hjl := (List.getElem?_eq_some_iff.1 hd).1
  obtain ⟨g, pre, cs, post, E', rfl, hgS, hgE, hES, hpre, hgw, hrow, hO, hclose⟩ := h1.open_ hd
  have hpre : pre.length = j * 3 := hpre
  have hrow : w.ownsRow 0 88 3 (.slice (some ⟨g, 0, none⟩) s.ds.length c1) s.ds.length (pre ++ (cs ++ post)) := hrow
  obtain ⟨B, cb, rfl, hz, hb⟩ := hO
  obtain ⟨q1, q2⟩ := own_part (j := 0) (p := j * 3) hrow hpre (by omega) rfl rfl hjl
  have st := own_store (j := 0) (p := j * 3) hrow hpre (by omega) (by simp) (.string t)
  have hk : ∀ i, i ≠ 0 → SameB (E i) w (w.setCell ⟨g, j * 3, none⟩ (.string t)) := fun i hi => SameB.of_turn st.2 fun b hb2 e => by subst e; exact ha i 0 _ hi hb2 hgS
  refine ⟨g, rfl, hE 0 g hgS, hgw, q1, q2, some ⟨g, 0, none⟩, c1, A2, c2, A3, c3, A4, c4, A5, c5, E, ?_, ?_, h2.keep (hk 1 (by decide)), h3.keep (hk 2 (by decide)), h4.keep (hk 3 (by decide)), h5.keep (hk 4 (by decide)), ha, hE⟩
  · show (_ : List Value) = [.slice (some ⟨g, 0, none⟩) (s.ds.set j ⟨t, d.ps, d.body⟩).length c1, .slice A2 s.cs.length c2, .slice A3 s.ms.length c3, .slice A4 s.al.length c4, .slice A5 s.hd.length c5]
    rw [List.length_set]
  · show OL _ _ _ _ _ (s.ds.set j ⟨t, d.ps, d.body⟩).length _ _
    rw [List.length_set]
    refine hclose _ [.string t, .int .i64 d.ps, .slice B d.body.length cb] ⟨t, d.ps, d.body⟩ st.1 ⟨B, cb, rfl, ht, hb.keep (SameB.of_turn st.2 fun b hb2 e => hgE (e ▸ hb2))⟩ (st.2.more fun b e => Or.inl e)
set_option maxRecDepth 100000 in
theorem named_any (A : Option Addr) (c : Nat) (ls : List Df) (t : ByteArray) (w : World) (S : Nat → Prop) (h : LRow dfR w S A ls) (hS : ∀ b, S b → b < w.heap.size) (hn : ls.length ≤ 1048576) :
    Calls Tryz.prog 73 #[.slice A ls.length c, .string t] w fun e w' => ∃ r : Int, e = .returned (.int .i64 r) ∧ ((r = -1 ∧ ∀ (i : Nat) (d : Df), ls[i]? = some d → (d.nm.toList == t.toList) = false) ∨ ∃ (i : Nat) (d : Df), r = i ∧ ls[i]? = some d ∧ (d.nm.toList == t.toList) = true) ∧ Below w.heap.size w w' := by
  have H := Lib.hid h
  have HS := Lib.hid hS
  clear h hS
  go_enter Tryz.func73, Tryz.ntmps73
  go_wp2
  go_loopw [5] (fun i wr => ∃ k : Nat, k ≤ ls.length ∧ i = .int .i64 k ∧ Hid (Below w.heap.size w wr) ∧ Hid (∀ (i : Nat) (d : Df), i < k → ls[i]? = some d → (d.nm.toList == t.toList) = false)) (fun i _ => ls.length - (intOf i).toNat)
  case atStart => exact ⟨0, Nat.zero_le _, rfl, Lib.hid (Below.refl _ _), Lib.hid (fun i d h => by omega)⟩
  case round =>
    obtain ⟨k, hk, rfl, HB, HT⟩ := hrel
    have hsz := HB.out.size
    by_cases hlt : k < ls.length
    · obtain ⟨b, o, cs0, x, rfl, hb, hR, hx, hc⟩ := (H.out.keep (SameOn.of_below HB.out HS.out)).at_ (k := k) hlt
      obtain ⟨V, cv, rfl, _⟩ := hR
      have r0 : wr.cell? ⟨b, o + k * 3, none⟩ = some (.string x.nm) := hc 0 _ rfl
      have lb : b < wr.heap.size := World.block_lt_of_cell? wr _ r0
      clear hc
      rcases te : (x.nm.toList == t.toList) with _ | _
      · have HN := Lib.hid (show ∀ (i : Nat) (d : Df), i < k + 1 → ls[i]? = some d → (d.nm.toList == t.toList) = false from fun i d hi hd => by
          by_cases e : i = k
          · subst e
            obtain rfl : d = x := by have := hd.symm.trans hx.out; injection this
            exact te
          · exact HT.out i d (by omega) hd)
        go_wp2
        go_roundw
        case rel => exact ⟨k + 1, by omega, by go_num, Lib.hid (by first | exact HB.out | exact HB.out.drew), HN⟩
        case measure => simp [intOf]; omega
      · have HY := Lib.hid (show ∃ (i : Nat) (d : Df), (k : Int) = i ∧ ls[i]? = some d ∧ (d.nm.toList == t.toList) = true from ⟨k, x, rfl, hx.out, te⟩)
        go_wp2
        go_ret
        exact ⟨k, rfl, Or.inr HY.out, by first | exact HB.out | exact HB.out.drew⟩
    · have HY := Lib.hid (show ∀ (i : Nat) (d : Df), ls[i]? = some d → (d.nm.toList == t.toList) = false from fun i d hd => HT.out i d (by have := (List.getElem?_eq_some_iff.1 hd).1; omega) hd)
      go_wp2
      go_ret
      exact ⟨-1, rfl, Or.inl ⟨rfl, HY.out⟩, HB.out⟩
theorem vs_ds2 {s : Sy} (h : vsB s = true) : vdB s.ds = true := by
  unfold vsB sfC at h
  rcases t1 : vdB s.ds with _ | _
  · rw [t1] at h; simp at h
  rfl
set_option maxRecDepth 100000 in
set_option maxHeartbeats 4000000 in
theorem specRen_any (s : Sy) (k : Int) (t : ByteArray) (A1 A2 A3 A4 A5 : Option Addr) (c1 c2 c3 c4 c5 : Nat) (w : World) (S : Nat → Prop) (h1 : LRow dfR w S A1 s.ds) (h2 : LRow cpR w S A2 s.cs) (h3 : LRow mtR w S A3 s.ms) (h4 : LRow txtR w S A4 s.al) (h5 : LRow txtR w S A5 s.hd) (hS : ∀ b, S b → b < w.heap.size) (ok : okSy s) (tz : t.size ≤ maxLen) :
    Calls Tryz.prog 24 #[.agg #[.slice A1 s.ds.length c1, .slice A2 s.cs.length c2, .slice A3 s.ms.length c3, .slice A4 s.al.length c4, .slice A5 s.hd.length c5], .int .i64 k, .string t] w (RetS2 (rnS s k t) (rnC s k t) w) := by
  have hdl := ok.1.1
  have C1 := Lib.hid (fun (W : World) (hW : Below w.heap.size w W) (p : Nat) z0 z1 z2 z3 z4 => (Calls.mono (specIs_any p s A1 A2 A3 A4 A5 c1 c2 c3 c4 c5 W S (h1.keep (SameOn.of_below hW hS)) (h2.keep (SameOn.of_below hW hS)) (h3.keep (SameOn.of_below hW hS)) (h4.keep (SameOn.of_below hW hS)) (h5.keep (SameOn.of_below hW hS)) (fun b hb => Nat.lt_of_lt_of_le (hS b hb) hW.size) ok z0 z1 z2 z3 z4) (fun e w' ⟨he, hb⟩ => (⟨he, hW.trans (Below.mono hb hW.size), hb⟩ : e = Ending.returned (.bool (vsB s)) ∧ Below w.heap.size w w' ∧ Below W.heap.size W w'))))
  have C2 := Lib.hid (fun (W : World) (hW : Below w.heap.size w W) (p : Nat) z0 z1 z2 z3 z4 => (Calls.mono (specOwn_any p s A1 A2 A3 A4 A5 c1 c2 c3 c4 c5 W S (h1.keep (SameOn.of_below hW hS)) (h2.keep (SameOn.of_below hW hS)) (h3.keep (SameOn.of_below hW hS)) (h4.keep (SameOn.of_below hW hS)) (h5.keep (SameOn.of_below hW hS)) (fun b hb => Nat.lt_of_lt_of_le (hS b hb) hW.size) ok z0 z1 z2 z3 z4) (fun e w' ⟨cs, he, hO, hb⟩ => (⟨cs, he, hO, hb⟩ : ∃ cs : List Value, e = Ending.returned (.agg cs.toArray) ∧ syO.O w' (In W.heap.size w'.heap.size) s cs ∧ Below W.heap.size W w'))))
  have HB0 := Lib.hid (show Below w.heap.size w ((w.alloc (.cells #[.slice A1 s.ds.length c1, .slice A2 s.cs.length c2, .slice A3 s.ms.length c3, .slice A4 s.al.length c4, .slice A5 s.hd.length c5] 35)).alloc (.cells #[.slice none 0 0, .slice none 0 0, .slice none 0 0, .slice none 0 0, .slice none 0 0] 35)) from ((Below.refl _ _).alloc (Nat.le_refl _) _).alloc (by simp) _)
  have BR0 := Lib.hid (show BoxAt (w.heap.size + 1) [.slice none 0 0, .slice none 0 0, .slice none 0 0, .slice none 0 0, .slice none 0 0] ((w.alloc (.cells #[.slice A1 s.ds.length c1, .slice A2 s.cs.length c2, .slice A3 s.ms.length c3, .slice A4 s.al.length c4, .slice A5 s.hd.length c5] 35)).alloc (.cells #[.slice none 0 0, .slice none 0 0, .slice none 0 0, .slice none 0 0, .slice none 0 0] 35)) by
    have h := BoxAt.alloc_new (w.alloc (.cells #[.slice A1 s.ds.length c1, .slice A2 s.cs.length c2, .slice A3 s.ms.length c3, .slice A4 s.al.length c4, .slice A5 s.hd.length c5] 35)) [.slice none 0 0, .slice none 0 0, .slice none 0 0, .slice none 0 0, .slice none 0 0] 35
    rwa [show (w.alloc (.cells #[.slice A1 s.ds.length c1, .slice A2 s.cs.length c2, .slice A3 s.ms.length c3, .slice A4 s.al.length c4, .slice A5 s.hd.length c5] 35)).heap.size = w.heap.size + 1 by simp] at h)
  have H1 := Lib.hid h1
  have HS := Lib.hid hS
  clear h1 h2 h3 h4 h5 hS ok
  rcases tv : vsB s with _ | _
  · have HF := Lib.hid (rnC1 (k := k) (t := t) tv)
    rw [tv] at C1
    clear tv C2 H1 HS
    go_enter Tryz.func24, Tryz.ntmps24
    go_wp2_with fail
    refine (C1.out _ HB0.out _ (by simp [go_sem]) (by simp [go_sem]) (by simp [go_sem]) (by simp [go_sem]) (by simp [go_sem])).mono ?_
    rintro e w1 ⟨rfl, b2, b3⟩
    have BS := Lib.hid ((Bx.of (b := w.heap.size) (v0 := .slice A1 s.ds.length c1) (v1 := .slice A2 s.cs.length c2) (v2 := .slice A3 s.ms.length c3) (v3 := .slice A4 s.al.length c4) (v4 := .slice A5 s.hd.length c5) (by simp <;> omega) (by simp [go_sem]) (by simp [go_sem]) (by simp [go_sem]) (by simp [go_sem]) (by simp [go_sem])).next b3)
    have BR := Lib.hid (BR0.out.nb b3)
    have HB := Lib.hid b2
    clear b2 b3
    obtain ⟨a0, a1, a2, a3, a4⟩ := BS.out.five
    have ap := BS.out.1
    have m0 := (BR.out.2 0 _ rfl).1
    have mf0 := (BR.out.2 0 _ rfl).2
    have m1 := (BR.out.2 1 _ rfl).1
    have mf1 := (BR.out.2 1 _ rfl).2
    have m2 := (BR.out.2 2 _ rfl).1
    have mf2 := (BR.out.2 2 _ rfl).2
    have m3 := (BR.out.2 3 _ rfl).1
    have mf3 := (BR.out.2 3 _ rfl).2
    have m4 := (BR.out.2 4 _ rfl).1
    have mf4 := (BR.out.2 4 _ rfl).2
    have mp := BR.out.1
    go_wp2
    have BW : Below w.heap.size w (((((w1.setCell ⟨w.heap.size + 1, 0, none⟩ (.slice none 0 0)).setCell ⟨w.heap.size + 1, 1, none⟩ (.slice none 0 0)).setCell ⟨w.heap.size + 1, 2, none⟩ (.slice none 0 0)).setCell ⟨w.heap.size + 1, 3, none⟩ (.slice none 0 0)).setCell ⟨w.heap.size + 1, 4, none⟩ (.slice none 0 0)) := (((((HB.out.setCell (by simp) _).setCell (by simp) _).setCell (by simp) _).setCell (by simp) _).setCell (by simp) _)
    have r0 : (((((w1.setCell ⟨w.heap.size + 1, 0, none⟩ (.slice none 0 0)).setCell ⟨w.heap.size + 1, 1, none⟩ (.slice none 0 0)).setCell ⟨w.heap.size + 1, 2, none⟩ (.slice none 0 0)).setCell ⟨w.heap.size + 1, 3, none⟩ (.slice none 0 0)).setCell ⟨w.heap.size + 1, 4, none⟩ (.slice none 0 0)).cell? ⟨w.heap.size + 1, 0, none⟩ = some (.slice none 0 0) := by simp [go_sem, m0]
    have r1 : (((((w1.setCell ⟨w.heap.size + 1, 0, none⟩ (.slice none 0 0)).setCell ⟨w.heap.size + 1, 1, none⟩ (.slice none 0 0)).setCell ⟨w.heap.size + 1, 2, none⟩ (.slice none 0 0)).setCell ⟨w.heap.size + 1, 3, none⟩ (.slice none 0 0)).setCell ⟨w.heap.size + 1, 4, none⟩ (.slice none 0 0)).cell? ⟨w.heap.size + 1, 1, none⟩ = some (.slice none 0 0) := by simp [go_sem, m1]
    have r2 : (((((w1.setCell ⟨w.heap.size + 1, 0, none⟩ (.slice none 0 0)).setCell ⟨w.heap.size + 1, 1, none⟩ (.slice none 0 0)).setCell ⟨w.heap.size + 1, 2, none⟩ (.slice none 0 0)).setCell ⟨w.heap.size + 1, 3, none⟩ (.slice none 0 0)).setCell ⟨w.heap.size + 1, 4, none⟩ (.slice none 0 0)).cell? ⟨w.heap.size + 1, 2, none⟩ = some (.slice none 0 0) := by simp [go_sem, m2]
    have r3 : (((((w1.setCell ⟨w.heap.size + 1, 0, none⟩ (.slice none 0 0)).setCell ⟨w.heap.size + 1, 1, none⟩ (.slice none 0 0)).setCell ⟨w.heap.size + 1, 2, none⟩ (.slice none 0 0)).setCell ⟨w.heap.size + 1, 3, none⟩ (.slice none 0 0)).setCell ⟨w.heap.size + 1, 4, none⟩ (.slice none 0 0)).cell? ⟨w.heap.size + 1, 3, none⟩ = some (.slice none 0 0) := by simp [go_sem, m3]
    have r4 : (((((w1.setCell ⟨w.heap.size + 1, 0, none⟩ (.slice none 0 0)).setCell ⟨w.heap.size + 1, 1, none⟩ (.slice none 0 0)).setCell ⟨w.heap.size + 1, 2, none⟩ (.slice none 0 0)).setCell ⟨w.heap.size + 1, 3, none⟩ (.slice none 0 0)).setCell ⟨w.heap.size + 1, 4, none⟩ (.slice none 0 0)).cell? ⟨w.heap.size + 1, 4, none⟩ = some (.slice none 0 0) := by simp [go_sem, m4]
    generalize (((((w1.setCell ⟨w.heap.size + 1, 0, none⟩ (.slice none 0 0)).setCell ⟨w.heap.size + 1, 1, none⟩ (.slice none 0 0)).setCell ⟨w.heap.size + 1, 2, none⟩ (.slice none 0 0)).setCell ⟨w.heap.size + 1, 3, none⟩ (.slice none 0 0)).setCell ⟨w.heap.size + 1, 4, none⟩ (.slice none 0 0)) = WF at *
    refine bodyPost_ret (v := .tuple #[.agg #[.slice none 0 0, .slice none 0 0, .slice none 0 0, .slice none 0 0, .slice none 0 0], .int .i64 1]) (by simp [results, Tryz.results24, go_sem, r0, r1, r2, r3, r4]; (try rfl)) rfl (RetS2_none (rn_bad HF.out (by decide)) HF.out BW)
  rcases ti : idxB k s.ds.length with _ | _
  · have HF := Lib.hid (rnC2 (t := t) tv ti)
    rw [tv] at C1
    have C3 := Lib.hid (fun W : World => l00In_no k 0 ((s.ds.length : Int) - 1) (idxB_no ti) W)
    clear tv ti C2 H1 HS
    go_enter Tryz.func24, Tryz.ntmps24
    go_wp2_with fail
    refine (C1.out _ HB0.out _ (by simp [go_sem]) (by simp [go_sem]) (by simp [go_sem]) (by simp [go_sem]) (by simp [go_sem])).mono ?_
    rintro e w1 ⟨rfl, b2, b3⟩
    have BS := Lib.hid ((Bx.of (b := w.heap.size) (v0 := .slice A1 s.ds.length c1) (v1 := .slice A2 s.cs.length c2) (v2 := .slice A3 s.ms.length c3) (v3 := .slice A4 s.al.length c4) (v4 := .slice A5 s.hd.length c5) (by simp <;> omega) (by simp [go_sem]) (by simp [go_sem]) (by simp [go_sem]) (by simp [go_sem]) (by simp [go_sem])).next b3)
    have BR := Lib.hid (BR0.out.nb b3)
    have HB := Lib.hid b2
    clear b2 b3
    obtain ⟨a0, a1, a2, a3, a4⟩ := BS.out.five
    have ap := BS.out.1
    have m0 := (BR.out.2 0 _ rfl).1
    have mf0 := (BR.out.2 0 _ rfl).2
    have m1 := (BR.out.2 1 _ rfl).1
    have mf1 := (BR.out.2 1 _ rfl).2
    have m2 := (BR.out.2 2 _ rfl).1
    have mf2 := (BR.out.2 2 _ rfl).2
    have m3 := (BR.out.2 3 _ rfl).1
    have mf3 := (BR.out.2 3 _ rfl).2
    have m4 := (BR.out.2 4 _ rfl).1
    have mf4 := (BR.out.2 4 _ rfl).2
    have mp := BR.out.1
    go_wp2_with (go_at_call 52; refine (C3.out _).mono ?_; rintro e w3 ⟨rfl, rfl⟩)
    have BW : Below w.heap.size w (((((w1.setCell ⟨w.heap.size + 1, 0, none⟩ (.slice none 0 0)).setCell ⟨w.heap.size + 1, 1, none⟩ (.slice none 0 0)).setCell ⟨w.heap.size + 1, 2, none⟩ (.slice none 0 0)).setCell ⟨w.heap.size + 1, 3, none⟩ (.slice none 0 0)).setCell ⟨w.heap.size + 1, 4, none⟩ (.slice none 0 0)) := (((((HB.out.setCell (by simp) _).setCell (by simp) _).setCell (by simp) _).setCell (by simp) _).setCell (by simp) _)
    have r0 : (((((w1.setCell ⟨w.heap.size + 1, 0, none⟩ (.slice none 0 0)).setCell ⟨w.heap.size + 1, 1, none⟩ (.slice none 0 0)).setCell ⟨w.heap.size + 1, 2, none⟩ (.slice none 0 0)).setCell ⟨w.heap.size + 1, 3, none⟩ (.slice none 0 0)).setCell ⟨w.heap.size + 1, 4, none⟩ (.slice none 0 0)).cell? ⟨w.heap.size + 1, 0, none⟩ = some (.slice none 0 0) := by simp [go_sem, m0]
    have r1 : (((((w1.setCell ⟨w.heap.size + 1, 0, none⟩ (.slice none 0 0)).setCell ⟨w.heap.size + 1, 1, none⟩ (.slice none 0 0)).setCell ⟨w.heap.size + 1, 2, none⟩ (.slice none 0 0)).setCell ⟨w.heap.size + 1, 3, none⟩ (.slice none 0 0)).setCell ⟨w.heap.size + 1, 4, none⟩ (.slice none 0 0)).cell? ⟨w.heap.size + 1, 1, none⟩ = some (.slice none 0 0) := by simp [go_sem, m1]
    have r2 : (((((w1.setCell ⟨w.heap.size + 1, 0, none⟩ (.slice none 0 0)).setCell ⟨w.heap.size + 1, 1, none⟩ (.slice none 0 0)).setCell ⟨w.heap.size + 1, 2, none⟩ (.slice none 0 0)).setCell ⟨w.heap.size + 1, 3, none⟩ (.slice none 0 0)).setCell ⟨w.heap.size + 1, 4, none⟩ (.slice none 0 0)).cell? ⟨w.heap.size + 1, 2, none⟩ = some (.slice none 0 0) := by simp [go_sem, m2]
    have r3 : (((((w1.setCell ⟨w.heap.size + 1, 0, none⟩ (.slice none 0 0)).setCell ⟨w.heap.size + 1, 1, none⟩ (.slice none 0 0)).setCell ⟨w.heap.size + 1, 2, none⟩ (.slice none 0 0)).setCell ⟨w.heap.size + 1, 3, none⟩ (.slice none 0 0)).setCell ⟨w.heap.size + 1, 4, none⟩ (.slice none 0 0)).cell? ⟨w.heap.size + 1, 3, none⟩ = some (.slice none 0 0) := by simp [go_sem, m3]
    have r4 : (((((w1.setCell ⟨w.heap.size + 1, 0, none⟩ (.slice none 0 0)).setCell ⟨w.heap.size + 1, 1, none⟩ (.slice none 0 0)).setCell ⟨w.heap.size + 1, 2, none⟩ (.slice none 0 0)).setCell ⟨w.heap.size + 1, 3, none⟩ (.slice none 0 0)).setCell ⟨w.heap.size + 1, 4, none⟩ (.slice none 0 0)).cell? ⟨w.heap.size + 1, 4, none⟩ = some (.slice none 0 0) := by simp [go_sem, m4]
    generalize (((((w1.setCell ⟨w.heap.size + 1, 0, none⟩ (.slice none 0 0)).setCell ⟨w.heap.size + 1, 1, none⟩ (.slice none 0 0)).setCell ⟨w.heap.size + 1, 2, none⟩ (.slice none 0 0)).setCell ⟨w.heap.size + 1, 3, none⟩ (.slice none 0 0)).setCell ⟨w.heap.size + 1, 4, none⟩ (.slice none 0 0)) = WF at *
    refine bodyPost_ret (v := .tuple #[.agg #[.slice none 0 0, .slice none 0 0, .slice none 0 0, .slice none 0 0, .slice none 0 0], .int .i64 2]) (by simp [results, Tryz.results24, go_sem, r0, r1, r2, r3, r4]; (try rfl)) rfl (RetS2_none (rn_bad HF.out (by decide)) HF.out BW)
  obtain ⟨j, rfl, hj⟩ := idxB_yes ti
  obtain ⟨d, hd⟩ : ∃ d, s.ds[j]? = some d := ⟨_, List.getElem?_eq_getElem hj⟩
  have C3 := Lib.hid (fun W : World => l00In_yes (j : Int) 0 ((s.ds.length : Int) - 1) ⟨by omega, by omega⟩ W)
  have C4 := Lib.hid (fun W : World => specName_any t W)
  rcases tn : nameB t.data.toList with _ | _
  · have HF := Lib.hid (rnC3 tv ti tn)
    rw [tv] at C1
    rw [tn] at C4
    clear tv ti tn C2 H1 HS hd
    go_enter Tryz.func24, Tryz.ntmps24
    go_wp2_with fail
    refine (C1.out _ HB0.out _ (by simp [go_sem]) (by simp [go_sem]) (by simp [go_sem]) (by simp [go_sem]) (by simp [go_sem])).mono ?_
    rintro e w1 ⟨rfl, b2, b3⟩
    have BS := Lib.hid ((Bx.of (b := w.heap.size) (v0 := .slice A1 s.ds.length c1) (v1 := .slice A2 s.cs.length c2) (v2 := .slice A3 s.ms.length c3) (v3 := .slice A4 s.al.length c4) (v4 := .slice A5 s.hd.length c5) (by simp <;> omega) (by simp [go_sem]) (by simp [go_sem]) (by simp [go_sem]) (by simp [go_sem]) (by simp [go_sem])).next b3)
    have BR := Lib.hid (BR0.out.nb b3)
    have HB := Lib.hid b2
    clear b2 b3
    obtain ⟨a0, a1, a2, a3, a4⟩ := BS.out.five
    have ap := BS.out.1
    have m0 := (BR.out.2 0 _ rfl).1
    have mf0 := (BR.out.2 0 _ rfl).2
    have m1 := (BR.out.2 1 _ rfl).1
    have mf1 := (BR.out.2 1 _ rfl).2
    have m2 := (BR.out.2 2 _ rfl).1
    have mf2 := (BR.out.2 2 _ rfl).2
    have m3 := (BR.out.2 3 _ rfl).1
    have mf3 := (BR.out.2 3 _ rfl).2
    have m4 := (BR.out.2 4 _ rfl).1
    have mf4 := (BR.out.2 4 _ rfl).2
    have mp := BR.out.1
    go_wp2_with (first | (go_at_call 52; refine (C3.out _).mono ?_; rintro e w3 ⟨rfl, rfl⟩) | (go_at_call 72; refine (C4.out _).mono ?_; rintro e w4 ⟨rfl, rfl⟩))
    have BW : Below w.heap.size w (((((w1.setCell ⟨w.heap.size + 1, 0, none⟩ (.slice none 0 0)).setCell ⟨w.heap.size + 1, 1, none⟩ (.slice none 0 0)).setCell ⟨w.heap.size + 1, 2, none⟩ (.slice none 0 0)).setCell ⟨w.heap.size + 1, 3, none⟩ (.slice none 0 0)).setCell ⟨w.heap.size + 1, 4, none⟩ (.slice none 0 0)) := (((((HB.out.setCell (by simp) _).setCell (by simp) _).setCell (by simp) _).setCell (by simp) _).setCell (by simp) _)
    have r0 : (((((w1.setCell ⟨w.heap.size + 1, 0, none⟩ (.slice none 0 0)).setCell ⟨w.heap.size + 1, 1, none⟩ (.slice none 0 0)).setCell ⟨w.heap.size + 1, 2, none⟩ (.slice none 0 0)).setCell ⟨w.heap.size + 1, 3, none⟩ (.slice none 0 0)).setCell ⟨w.heap.size + 1, 4, none⟩ (.slice none 0 0)).cell? ⟨w.heap.size + 1, 0, none⟩ = some (.slice none 0 0) := by simp [go_sem, m0]
    have r1 : (((((w1.setCell ⟨w.heap.size + 1, 0, none⟩ (.slice none 0 0)).setCell ⟨w.heap.size + 1, 1, none⟩ (.slice none 0 0)).setCell ⟨w.heap.size + 1, 2, none⟩ (.slice none 0 0)).setCell ⟨w.heap.size + 1, 3, none⟩ (.slice none 0 0)).setCell ⟨w.heap.size + 1, 4, none⟩ (.slice none 0 0)).cell? ⟨w.heap.size + 1, 1, none⟩ = some (.slice none 0 0) := by simp [go_sem, m1]
    have r2 : (((((w1.setCell ⟨w.heap.size + 1, 0, none⟩ (.slice none 0 0)).setCell ⟨w.heap.size + 1, 1, none⟩ (.slice none 0 0)).setCell ⟨w.heap.size + 1, 2, none⟩ (.slice none 0 0)).setCell ⟨w.heap.size + 1, 3, none⟩ (.slice none 0 0)).setCell ⟨w.heap.size + 1, 4, none⟩ (.slice none 0 0)).cell? ⟨w.heap.size + 1, 2, none⟩ = some (.slice none 0 0) := by simp [go_sem, m2]
    have r3 : (((((w1.setCell ⟨w.heap.size + 1, 0, none⟩ (.slice none 0 0)).setCell ⟨w.heap.size + 1, 1, none⟩ (.slice none 0 0)).setCell ⟨w.heap.size + 1, 2, none⟩ (.slice none 0 0)).setCell ⟨w.heap.size + 1, 3, none⟩ (.slice none 0 0)).setCell ⟨w.heap.size + 1, 4, none⟩ (.slice none 0 0)).cell? ⟨w.heap.size + 1, 3, none⟩ = some (.slice none 0 0) := by simp [go_sem, m3]
    have r4 : (((((w1.setCell ⟨w.heap.size + 1, 0, none⟩ (.slice none 0 0)).setCell ⟨w.heap.size + 1, 1, none⟩ (.slice none 0 0)).setCell ⟨w.heap.size + 1, 2, none⟩ (.slice none 0 0)).setCell ⟨w.heap.size + 1, 3, none⟩ (.slice none 0 0)).setCell ⟨w.heap.size + 1, 4, none⟩ (.slice none 0 0)).cell? ⟨w.heap.size + 1, 4, none⟩ = some (.slice none 0 0) := by simp [go_sem, m4]
    generalize (((((w1.setCell ⟨w.heap.size + 1, 0, none⟩ (.slice none 0 0)).setCell ⟨w.heap.size + 1, 1, none⟩ (.slice none 0 0)).setCell ⟨w.heap.size + 1, 2, none⟩ (.slice none 0 0)).setCell ⟨w.heap.size + 1, 3, none⟩ (.slice none 0 0)).setCell ⟨w.heap.size + 1, 4, none⟩ (.slice none 0 0)) = WF at *
    refine bodyPost_ret (v := .tuple #[.agg #[.slice none 0 0, .slice none 0 0, .slice none 0 0, .slice none 0 0, .slice none 0 0], .int .i64 2]) (by simp [results, Tryz.results24, go_sem, r0, r1, r2, r3, r4]; (try rfl)) rfl (RetS2_none (rn_bad HF.out (by decide)) HF.out BW)
  have C5 := Lib.hid (fun (W : World) (hW : Below w.heap.size w W) => (named_any A1 c1 s.ds t W S (H1.out.keep (SameOn.of_below hW HS.out)) (fun b hb => Nat.lt_of_lt_of_le (HS.out b hb) hW.size) hdl))
  have TV := Lib.hid tv
  have TI := Lib.hid ti
  have TN := Lib.hid tn
  have HD := Lib.hid hd
  rw [tv] at C1
  rw [tn] at C4
  clear tv ti tn hd
  go_enter Tryz.func24, Tryz.ntmps24
  go_wp2_with fail
  refine (C1.out _ HB0.out _ (by simp [go_sem]) (by simp [go_sem]) (by simp [go_sem]) (by simp [go_sem]) (by simp [go_sem])).mono ?_
  rintro e w1 ⟨rfl, b2, b3⟩
  have BS := Lib.hid ((Bx.of (b := w.heap.size) (v0 := .slice A1 s.ds.length c1) (v1 := .slice A2 s.cs.length c2) (v2 := .slice A3 s.ms.length c3) (v3 := .slice A4 s.al.length c4) (v4 := .slice A5 s.hd.length c5) (by simp <;> omega) (by simp [go_sem]) (by simp [go_sem]) (by simp [go_sem]) (by simp [go_sem]) (by simp [go_sem])).next b3)
  have BR := Lib.hid (BR0.out.nb b3)
  have HB := Lib.hid b2
  clear b2 b3
  obtain ⟨a0, a1, a2, a3, a4⟩ := BS.out.five
  have ap := BS.out.1
  have m0 := (BR.out.2 0 _ rfl).1
  have mf0 := (BR.out.2 0 _ rfl).2
  have m1 := (BR.out.2 1 _ rfl).1
  have mf1 := (BR.out.2 1 _ rfl).2
  have m2 := (BR.out.2 2 _ rfl).1
  have mf2 := (BR.out.2 2 _ rfl).2
  have m3 := (BR.out.2 3 _ rfl).1
  have mf3 := (BR.out.2 3 _ rfl).2
  have m4 := (BR.out.2 4 _ rfl).1
  have mf4 := (BR.out.2 4 _ rfl).2
  have mp := BR.out.1
  go_upto_region 5 with (first | (go_at_call 52; refine (C3.out _).mono ?_; rintro e w3 ⟨rfl, rfl⟩) | (go_at_call 72; refine (C4.out _).mono ?_; rintro e w4 ⟨rfl, rfl⟩))
  go_wp2_with fail
  refine (C5.out _ HB.out).mono ?_
  rintro e w5 ⟨r, rfl, hr, b3⟩
  have BS := Lib.hid (BS.out.next b3)
  have BR := Lib.hid (BR.out.nb b3)
  have HB := Lib.hid (HB.out.trans (b3.mono HB.out.size))
  clear b3 a0 a1 a2 a3 a4 ap m0 m1 m2 m3 m4 mf0 mf1 mf2 mf3 mf4 mp
  obtain ⟨a0, a1, a2, a3, a4⟩ := BS.out.five
  have ap := BS.out.1
  have m0 := (BR.out.2 0 _ rfl).1
  have mf0 := (BR.out.2 0 _ rfl).2
  have m1 := (BR.out.2 1 _ rfl).1
  have mf1 := (BR.out.2 1 _ rfl).2
  have m2 := (BR.out.2 2 _ rfl).1
  have mf2 := (BR.out.2 2 _ rfl).2
  have m3 := (BR.out.2 3 _ rfl).1
  have mf3 := (BR.out.2 3 _ rfl).2
  have m4 := (BR.out.2 4 _ rfl).1
  have mf4 := (BR.out.2 4 _ rfl).2
  have mp := BR.out.1
  rcases hr with ⟨rfl, hr⟩ | ⟨i, q, rfl, hq, hqe⟩
  · have hx : exN s.ds j t = false := exN_no fun i d hi _ => hr i d hi
    have HF := Lib.hid (rnC0 (k := (j : Int)) TV.out TI.out TN.out (by rw [Int.toNat_natCast]; exact hx))
    clear hx hr
    go_wp2_with fail
    refine (C2.out _ HB.out _ a0 a1 a2 a3 a4).mono ?_
    rintro e w6 ⟨cs6, rfl, hO, b3⟩
    obtain ⟨D1, d1, D2, d2, D3, d3, D4, d4, D5, d5, E, rfl, o1, o2, o3, o4, o5, ha, hE⟩ := hO
    have BR := Lib.hid (BR.out.nb b3)
    have HB := Lib.hid (HB.out.trans (b3.mono HB.out.size))
    have hvw : w.heap.size + 2 ≤ w5.heap.size := mp
    have hv6 : w5.heap.size ≤ w6.heap.size := b3.size
    clear b3 a0 a1 a2 a3 a4 ap m0 m1 m2 m3 m4 mf0 mf1 mf2 mf3 mf4 mp
    obtain ⟨g, rfl, hgS, hgw, hcell6, hfro6, hsy⟩ := sy_named (s := s) o1 o2 o3 o4 o5 ha hE HD.out tz
    have b6 : Below w6.heap.size w6 (w6.alloc (.cells #[.slice (some ⟨g, 0, none⟩) s.ds.length d1, .slice D2 s.cs.length d2, .slice D3 s.ms.length d3, .slice D4 s.al.length d4, .slice D5 s.hd.length d5] 35)) := (Below.refl _ _).alloc (Nat.le_refl _) _
    have hcell := (b6.cell (p := ⟨g, j * 3, none⟩) hgw).trans hcell6
    have hfro := (b6.frozen (p := ⟨g, j * 3, none⟩) hgw).trans hfro6
    have hg1 : w5.heap.size ≤ g ∧ g < w6.heap.size := hgS
    have HSY := Lib.hid hsy
    have HB6 := HB
    have n0 := (BR.out.2 0 _ rfl).1
    have nf0 := (BR.out.2 0 _ rfl).2
    have n1 := (BR.out.2 1 _ rfl).1
    have nf1 := (BR.out.2 1 _ rfl).2
    have n2 := (BR.out.2 2 _ rfl).1
    have nf2 := (BR.out.2 2 _ rfl).2
    have n3 := (BR.out.2 3 _ rfl).1
    have nf3 := (BR.out.2 3 _ rfl).2
    have n4 := (BR.out.2 4 _ rfl).1
    have nf4 := (BR.out.2 4 _ rfl).2
    have BR := Lib.hid (BR.out.nb b6)
    have HB := Lib.hid (HB.out.trans (b6.mono HB.out.size))
    clear hsy o1 o2 o3 o4 o5 ha hE hgS
    have m0 := (BR.out.2 0 _ rfl).1
    have mf0 := (BR.out.2 0 _ rfl).2
    have m1 := (BR.out.2 1 _ rfl).1
    have mf1 := (BR.out.2 1 _ rfl).2
    have m2 := (BR.out.2 2 _ rfl).1
    have mf2 := (BR.out.2 2 _ rfl).2
    have m3 := (BR.out.2 3 _ rfl).1
    have mf3 := (BR.out.2 3 _ rfl).2
    have m4 := (BR.out.2 4 _ rfl).1
    have mf4 := (BR.out.2 4 _ rfl).2
    have mp := BR.out.1
    have hgr : ¬ g = w.heap.size + 1 := by omega
    have hgr2 : ¬ w.heap.size + 1 = g := by omega
    have hRs : w.heap.size + 1 < w6.heap.size := by omega
    clear b6
    go_wp2
    have hsi : ((((((w6.setCell ⟨g, j * 3, none⟩ (.string t)).setCell ⟨w.heap.size + 1, 0, none⟩ (.slice (some ⟨g, 0, none⟩) s.ds.length d1)).setCell ⟨w.heap.size + 1, 1, none⟩ (.slice D2 s.cs.length d2)).setCell ⟨w.heap.size + 1, 2, none⟩ (.slice D3 s.ms.length d3)).setCell ⟨w.heap.size + 1, 3, none⟩ (.slice D4 s.al.length d4)).setCell ⟨w.heap.size + 1, 4, none⟩ (.slice D5 s.hd.length d5)).heap.size = w6.heap.size := by simp [World.setCell]
    have hsj : (w6.setCell ⟨g, j * 3, none⟩ (.string t)).heap.size = w6.heap.size := by simp [World.setCell]
    have SO : ∀ S : Nat → Prop, ¬ S (w.heap.size + 1) → SameB S (w6.setCell ⟨g, j * 3, none⟩ (.string t)) (((((((w6.setCell ⟨g, j * 3, none⟩ (.string t)).setCell ⟨w.heap.size + 1, 0, none⟩ (.slice (some ⟨g, 0, none⟩) s.ds.length d1)).setCell ⟨w.heap.size + 1, 1, none⟩ (.slice D2 s.cs.length d2)).setCell ⟨w.heap.size + 1, 2, none⟩ (.slice D3 s.ms.length d3)).setCell ⟨w.heap.size + 1, 3, none⟩ (.slice D4 s.al.length d4)).setCell ⟨w.heap.size + 1, 4, none⟩ (.slice D5 s.hd.length d5)).alloc (.cells #[.slice (some ⟨g, 0, none⟩) s.ds.length d1, .slice D2 s.cs.length d2, .slice D3 s.ms.length d3, .slice D4 s.al.length d4, .slice D5 s.hd.length d5] 35)) := fun S n0 => SameB.alloc2 ((((((SameB.refl S (w6.setCell ⟨g, j * 3, none⟩ (.string t))).setCell n0).setCell n0).setCell n0).setCell n0).setCell n0) (hsi.trans hsj.symm) _
    have BW : Below w.heap.size w (((((((w6.setCell ⟨g, j * 3, none⟩ (.string t)).setCell ⟨w.heap.size + 1, 0, none⟩ (.slice (some ⟨g, 0, none⟩) s.ds.length d1)).setCell ⟨w.heap.size + 1, 1, none⟩ (.slice D2 s.cs.length d2)).setCell ⟨w.heap.size + 1, 2, none⟩ (.slice D3 s.ms.length d3)).setCell ⟨w.heap.size + 1, 3, none⟩ (.slice D4 s.al.length d4)).setCell ⟨w.heap.size + 1, 4, none⟩ (.slice D5 s.hd.length d5)).alloc (.cells #[.slice (some ⟨g, 0, none⟩) s.ds.length d1, .slice D2 s.cs.length d2, .slice D3 s.ms.length d3, .slice D4 s.al.length d4, .slice D5 s.hd.length d5] 35)) := Below.alloc ((((((HB6.out.setCell (by show w.heap.size ≤ g; omega) _).setCell (by simp) _).setCell (by simp) _).setCell (by simp) _).setCell (by simp) _).setCell (by simp) _) (by omega) _
    have r0 : (((((((w6.setCell ⟨g, j * 3, none⟩ (.string t)).setCell ⟨w.heap.size + 1, 0, none⟩ (.slice (some ⟨g, 0, none⟩) s.ds.length d1)).setCell ⟨w.heap.size + 1, 1, none⟩ (.slice D2 s.cs.length d2)).setCell ⟨w.heap.size + 1, 2, none⟩ (.slice D3 s.ms.length d3)).setCell ⟨w.heap.size + 1, 3, none⟩ (.slice D4 s.al.length d4)).setCell ⟨w.heap.size + 1, 4, none⟩ (.slice D5 s.hd.length d5)).alloc (.cells #[.slice (some ⟨g, 0, none⟩) s.ds.length d1, .slice D2 s.cs.length d2, .slice D3 s.ms.length d3, .slice D4 s.al.length d4, .slice D5 s.hd.length d5] 35)).cell? ⟨w.heap.size + 1, 0, none⟩ = some (.slice (some ⟨g, 0, none⟩) s.ds.length d1) := (((Below.refl ((((((w6.setCell ⟨g, j * 3, none⟩ (.string t)).setCell ⟨w.heap.size + 1, 0, none⟩ (.slice (some ⟨g, 0, none⟩) s.ds.length d1)).setCell ⟨w.heap.size + 1, 1, none⟩ (.slice D2 s.cs.length d2)).setCell ⟨w.heap.size + 1, 2, none⟩ (.slice D3 s.ms.length d3)).setCell ⟨w.heap.size + 1, 3, none⟩ (.slice D4 s.al.length d4)).setCell ⟨w.heap.size + 1, 4, none⟩ (.slice D5 s.hd.length d5)).heap.size ((((((w6.setCell ⟨g, j * 3, none⟩ (.string t)).setCell ⟨w.heap.size + 1, 0, none⟩ (.slice (some ⟨g, 0, none⟩) s.ds.length d1)).setCell ⟨w.heap.size + 1, 1, none⟩ (.slice D2 s.cs.length d2)).setCell ⟨w.heap.size + 1, 2, none⟩ (.slice D3 s.ms.length d3)).setCell ⟨w.heap.size + 1, 3, none⟩ (.slice D4 s.al.length d4)).setCell ⟨w.heap.size + 1, 4, none⟩ (.slice D5 s.hd.length d5))).alloc (Nat.le_refl _) _).cell (p := ⟨w.heap.size + 1, 0, none⟩) (by show w.heap.size + 1 < ((((((w6.setCell ⟨g, j * 3, none⟩ (.string t)).setCell ⟨w.heap.size + 1, 0, none⟩ (.slice (some ⟨g, 0, none⟩) s.ds.length d1)).setCell ⟨w.heap.size + 1, 1, none⟩ (.slice D2 s.cs.length d2)).setCell ⟨w.heap.size + 1, 2, none⟩ (.slice D3 s.ms.length d3)).setCell ⟨w.heap.size + 1, 3, none⟩ (.slice D4 s.al.length d4)).setCell ⟨w.heap.size + 1, 4, none⟩ (.slice D5 s.hd.length d5)).heap.size; omega)).trans (by simp [go_sem, n0])
    have r1 : (((((((w6.setCell ⟨g, j * 3, none⟩ (.string t)).setCell ⟨w.heap.size + 1, 0, none⟩ (.slice (some ⟨g, 0, none⟩) s.ds.length d1)).setCell ⟨w.heap.size + 1, 1, none⟩ (.slice D2 s.cs.length d2)).setCell ⟨w.heap.size + 1, 2, none⟩ (.slice D3 s.ms.length d3)).setCell ⟨w.heap.size + 1, 3, none⟩ (.slice D4 s.al.length d4)).setCell ⟨w.heap.size + 1, 4, none⟩ (.slice D5 s.hd.length d5)).alloc (.cells #[.slice (some ⟨g, 0, none⟩) s.ds.length d1, .slice D2 s.cs.length d2, .slice D3 s.ms.length d3, .slice D4 s.al.length d4, .slice D5 s.hd.length d5] 35)).cell? ⟨w.heap.size + 1, 1, none⟩ = some (.slice D2 s.cs.length d2) := (((Below.refl ((((((w6.setCell ⟨g, j * 3, none⟩ (.string t)).setCell ⟨w.heap.size + 1, 0, none⟩ (.slice (some ⟨g, 0, none⟩) s.ds.length d1)).setCell ⟨w.heap.size + 1, 1, none⟩ (.slice D2 s.cs.length d2)).setCell ⟨w.heap.size + 1, 2, none⟩ (.slice D3 s.ms.length d3)).setCell ⟨w.heap.size + 1, 3, none⟩ (.slice D4 s.al.length d4)).setCell ⟨w.heap.size + 1, 4, none⟩ (.slice D5 s.hd.length d5)).heap.size ((((((w6.setCell ⟨g, j * 3, none⟩ (.string t)).setCell ⟨w.heap.size + 1, 0, none⟩ (.slice (some ⟨g, 0, none⟩) s.ds.length d1)).setCell ⟨w.heap.size + 1, 1, none⟩ (.slice D2 s.cs.length d2)).setCell ⟨w.heap.size + 1, 2, none⟩ (.slice D3 s.ms.length d3)).setCell ⟨w.heap.size + 1, 3, none⟩ (.slice D4 s.al.length d4)).setCell ⟨w.heap.size + 1, 4, none⟩ (.slice D5 s.hd.length d5))).alloc (Nat.le_refl _) _).cell (p := ⟨w.heap.size + 1, 1, none⟩) (by show w.heap.size + 1 < ((((((w6.setCell ⟨g, j * 3, none⟩ (.string t)).setCell ⟨w.heap.size + 1, 0, none⟩ (.slice (some ⟨g, 0, none⟩) s.ds.length d1)).setCell ⟨w.heap.size + 1, 1, none⟩ (.slice D2 s.cs.length d2)).setCell ⟨w.heap.size + 1, 2, none⟩ (.slice D3 s.ms.length d3)).setCell ⟨w.heap.size + 1, 3, none⟩ (.slice D4 s.al.length d4)).setCell ⟨w.heap.size + 1, 4, none⟩ (.slice D5 s.hd.length d5)).heap.size; omega)).trans (by simp [go_sem, n1])
    have r2 : (((((((w6.setCell ⟨g, j * 3, none⟩ (.string t)).setCell ⟨w.heap.size + 1, 0, none⟩ (.slice (some ⟨g, 0, none⟩) s.ds.length d1)).setCell ⟨w.heap.size + 1, 1, none⟩ (.slice D2 s.cs.length d2)).setCell ⟨w.heap.size + 1, 2, none⟩ (.slice D3 s.ms.length d3)).setCell ⟨w.heap.size + 1, 3, none⟩ (.slice D4 s.al.length d4)).setCell ⟨w.heap.size + 1, 4, none⟩ (.slice D5 s.hd.length d5)).alloc (.cells #[.slice (some ⟨g, 0, none⟩) s.ds.length d1, .slice D2 s.cs.length d2, .slice D3 s.ms.length d3, .slice D4 s.al.length d4, .slice D5 s.hd.length d5] 35)).cell? ⟨w.heap.size + 1, 2, none⟩ = some (.slice D3 s.ms.length d3) := (((Below.refl ((((((w6.setCell ⟨g, j * 3, none⟩ (.string t)).setCell ⟨w.heap.size + 1, 0, none⟩ (.slice (some ⟨g, 0, none⟩) s.ds.length d1)).setCell ⟨w.heap.size + 1, 1, none⟩ (.slice D2 s.cs.length d2)).setCell ⟨w.heap.size + 1, 2, none⟩ (.slice D3 s.ms.length d3)).setCell ⟨w.heap.size + 1, 3, none⟩ (.slice D4 s.al.length d4)).setCell ⟨w.heap.size + 1, 4, none⟩ (.slice D5 s.hd.length d5)).heap.size ((((((w6.setCell ⟨g, j * 3, none⟩ (.string t)).setCell ⟨w.heap.size + 1, 0, none⟩ (.slice (some ⟨g, 0, none⟩) s.ds.length d1)).setCell ⟨w.heap.size + 1, 1, none⟩ (.slice D2 s.cs.length d2)).setCell ⟨w.heap.size + 1, 2, none⟩ (.slice D3 s.ms.length d3)).setCell ⟨w.heap.size + 1, 3, none⟩ (.slice D4 s.al.length d4)).setCell ⟨w.heap.size + 1, 4, none⟩ (.slice D5 s.hd.length d5))).alloc (Nat.le_refl _) _).cell (p := ⟨w.heap.size + 1, 2, none⟩) (by show w.heap.size + 1 < ((((((w6.setCell ⟨g, j * 3, none⟩ (.string t)).setCell ⟨w.heap.size + 1, 0, none⟩ (.slice (some ⟨g, 0, none⟩) s.ds.length d1)).setCell ⟨w.heap.size + 1, 1, none⟩ (.slice D2 s.cs.length d2)).setCell ⟨w.heap.size + 1, 2, none⟩ (.slice D3 s.ms.length d3)).setCell ⟨w.heap.size + 1, 3, none⟩ (.slice D4 s.al.length d4)).setCell ⟨w.heap.size + 1, 4, none⟩ (.slice D5 s.hd.length d5)).heap.size; omega)).trans (by simp [go_sem, n2])
    have r3 : (((((((w6.setCell ⟨g, j * 3, none⟩ (.string t)).setCell ⟨w.heap.size + 1, 0, none⟩ (.slice (some ⟨g, 0, none⟩) s.ds.length d1)).setCell ⟨w.heap.size + 1, 1, none⟩ (.slice D2 s.cs.length d2)).setCell ⟨w.heap.size + 1, 2, none⟩ (.slice D3 s.ms.length d3)).setCell ⟨w.heap.size + 1, 3, none⟩ (.slice D4 s.al.length d4)).setCell ⟨w.heap.size + 1, 4, none⟩ (.slice D5 s.hd.length d5)).alloc (.cells #[.slice (some ⟨g, 0, none⟩) s.ds.length d1, .slice D2 s.cs.length d2, .slice D3 s.ms.length d3, .slice D4 s.al.length d4, .slice D5 s.hd.length d5] 35)).cell? ⟨w.heap.size + 1, 3, none⟩ = some (.slice D4 s.al.length d4) := (((Below.refl ((((((w6.setCell ⟨g, j * 3, none⟩ (.string t)).setCell ⟨w.heap.size + 1, 0, none⟩ (.slice (some ⟨g, 0, none⟩) s.ds.length d1)).setCell ⟨w.heap.size + 1, 1, none⟩ (.slice D2 s.cs.length d2)).setCell ⟨w.heap.size + 1, 2, none⟩ (.slice D3 s.ms.length d3)).setCell ⟨w.heap.size + 1, 3, none⟩ (.slice D4 s.al.length d4)).setCell ⟨w.heap.size + 1, 4, none⟩ (.slice D5 s.hd.length d5)).heap.size ((((((w6.setCell ⟨g, j * 3, none⟩ (.string t)).setCell ⟨w.heap.size + 1, 0, none⟩ (.slice (some ⟨g, 0, none⟩) s.ds.length d1)).setCell ⟨w.heap.size + 1, 1, none⟩ (.slice D2 s.cs.length d2)).setCell ⟨w.heap.size + 1, 2, none⟩ (.slice D3 s.ms.length d3)).setCell ⟨w.heap.size + 1, 3, none⟩ (.slice D4 s.al.length d4)).setCell ⟨w.heap.size + 1, 4, none⟩ (.slice D5 s.hd.length d5))).alloc (Nat.le_refl _) _).cell (p := ⟨w.heap.size + 1, 3, none⟩) (by show w.heap.size + 1 < ((((((w6.setCell ⟨g, j * 3, none⟩ (.string t)).setCell ⟨w.heap.size + 1, 0, none⟩ (.slice (some ⟨g, 0, none⟩) s.ds.length d1)).setCell ⟨w.heap.size + 1, 1, none⟩ (.slice D2 s.cs.length d2)).setCell ⟨w.heap.size + 1, 2, none⟩ (.slice D3 s.ms.length d3)).setCell ⟨w.heap.size + 1, 3, none⟩ (.slice D4 s.al.length d4)).setCell ⟨w.heap.size + 1, 4, none⟩ (.slice D5 s.hd.length d5)).heap.size; omega)).trans (by simp [go_sem, n3])
    have r4 : (((((((w6.setCell ⟨g, j * 3, none⟩ (.string t)).setCell ⟨w.heap.size + 1, 0, none⟩ (.slice (some ⟨g, 0, none⟩) s.ds.length d1)).setCell ⟨w.heap.size + 1, 1, none⟩ (.slice D2 s.cs.length d2)).setCell ⟨w.heap.size + 1, 2, none⟩ (.slice D3 s.ms.length d3)).setCell ⟨w.heap.size + 1, 3, none⟩ (.slice D4 s.al.length d4)).setCell ⟨w.heap.size + 1, 4, none⟩ (.slice D5 s.hd.length d5)).alloc (.cells #[.slice (some ⟨g, 0, none⟩) s.ds.length d1, .slice D2 s.cs.length d2, .slice D3 s.ms.length d3, .slice D4 s.al.length d4, .slice D5 s.hd.length d5] 35)).cell? ⟨w.heap.size + 1, 4, none⟩ = some (.slice D5 s.hd.length d5) := (((Below.refl ((((((w6.setCell ⟨g, j * 3, none⟩ (.string t)).setCell ⟨w.heap.size + 1, 0, none⟩ (.slice (some ⟨g, 0, none⟩) s.ds.length d1)).setCell ⟨w.heap.size + 1, 1, none⟩ (.slice D2 s.cs.length d2)).setCell ⟨w.heap.size + 1, 2, none⟩ (.slice D3 s.ms.length d3)).setCell ⟨w.heap.size + 1, 3, none⟩ (.slice D4 s.al.length d4)).setCell ⟨w.heap.size + 1, 4, none⟩ (.slice D5 s.hd.length d5)).heap.size ((((((w6.setCell ⟨g, j * 3, none⟩ (.string t)).setCell ⟨w.heap.size + 1, 0, none⟩ (.slice (some ⟨g, 0, none⟩) s.ds.length d1)).setCell ⟨w.heap.size + 1, 1, none⟩ (.slice D2 s.cs.length d2)).setCell ⟨w.heap.size + 1, 2, none⟩ (.slice D3 s.ms.length d3)).setCell ⟨w.heap.size + 1, 3, none⟩ (.slice D4 s.al.length d4)).setCell ⟨w.heap.size + 1, 4, none⟩ (.slice D5 s.hd.length d5))).alloc (Nat.le_refl _) _).cell (p := ⟨w.heap.size + 1, 4, none⟩) (by show w.heap.size + 1 < ((((((w6.setCell ⟨g, j * 3, none⟩ (.string t)).setCell ⟨w.heap.size + 1, 0, none⟩ (.slice (some ⟨g, 0, none⟩) s.ds.length d1)).setCell ⟨w.heap.size + 1, 1, none⟩ (.slice D2 s.cs.length d2)).setCell ⟨w.heap.size + 1, 2, none⟩ (.slice D3 s.ms.length d3)).setCell ⟨w.heap.size + 1, 3, none⟩ (.slice D4 s.al.length d4)).setCell ⟨w.heap.size + 1, 4, none⟩ (.slice D5 s.hd.length d5)).heap.size; omega)).trans (by simp [go_sem, n4])
    have hsz : (((((((w6.setCell ⟨g, j * 3, none⟩ (.string t)).setCell ⟨w.heap.size + 1, 0, none⟩ (.slice (some ⟨g, 0, none⟩) s.ds.length d1)).setCell ⟨w.heap.size + 1, 1, none⟩ (.slice D2 s.cs.length d2)).setCell ⟨w.heap.size + 1, 2, none⟩ (.slice D3 s.ms.length d3)).setCell ⟨w.heap.size + 1, 3, none⟩ (.slice D4 s.al.length d4)).setCell ⟨w.heap.size + 1, 4, none⟩ (.slice D5 s.hd.length d5)).alloc (.cells #[.slice (some ⟨g, 0, none⟩) s.ds.length d1, .slice D2 s.cs.length d2, .slice D3 s.ms.length d3, .slice D4 s.al.length d4, .slice D5 s.hd.length d5] 35)).heap.size = w6.heap.size + 1 := by simp [World.setCell]
    clear hsi hsj m0 m1 m2 m3 m4 mf0 mf1 mf2 mf3 mf4 mp n0 n1 n2 n3 n4 nf0 nf1 nf2 nf3 nf4
    generalize (((((((w6.setCell ⟨g, j * 3, none⟩ (.string t)).setCell ⟨w.heap.size + 1, 0, none⟩ (.slice (some ⟨g, 0, none⟩) s.ds.length d1)).setCell ⟨w.heap.size + 1, 1, none⟩ (.slice D2 s.cs.length d2)).setCell ⟨w.heap.size + 1, 2, none⟩ (.slice D3 s.ms.length d3)).setCell ⟨w.heap.size + 1, 3, none⟩ (.slice D4 s.al.length d4)).setCell ⟨w.heap.size + 1, 4, none⟩ (.slice D5 s.hd.length d5)).alloc (.cells #[.slice (some ⟨g, 0, none⟩) s.ds.length d1, .slice D2 s.cs.length d2, .slice D3 s.ms.length d3, .slice D4 s.al.length d4, .slice D5 s.hd.length d5] 35)) = WF at *
    refine bodyPost_ret (v := .tuple #[.agg #[.slice (some ⟨g, 0, none⟩) s.ds.length d1, .slice D2 s.cs.length d2, .slice D3 s.ms.length d3, .slice D4 s.al.length d4, .slice D5 s.hd.length d5], .int .i64 0]) (by simp [results, Tryz.results24, go_sem, r0, r1, r2, r3, r4]; (try rfl)) rfl ?_
    refine ⟨[.slice (some ⟨g, 0, none⟩) s.ds.length d1, .slice D2 s.cs.length d2, .slice D3 s.ms.length d3, .slice D4 s.al.length d4, .slice D5 s.hd.length d5], by rw [HF.out], ?_, BW⟩
    have hrs : rnS s (j : Int) t = ⟨s.ds.set j ⟨t, d.ps, d.body⟩, s.cs, s.ms, s.al, s.hd⟩ := by
      unfold rnS
      rw [HF.out, if_pos rfl, Int.toNat_natCast, List.getD_eq_getElem?_getD, HD.out]
      rfl
    rw [hrs]
    refine syO.more (syO.keep HSY.out (SO _ fun h => ?_)) fun b h => ?_
    · have h1 : w5.heap.size ≤ w.heap.size + 1 := h.1
      omega
    · rw [hsz]
      have h1 : w5.heap.size ≤ b := h.1
      have h2 : b < w6.heap.size := h.2
      exact ⟨by omega, by omega⟩
  by_cases he : i = j
  · subst he
    obtain rfl : q = d := by have := hq.symm.trans HD.out; injection this
    have hx : exN s.ds i t = false := exN_no fun i2 d2 hi2 hne => by
      have h := names_apart (vs_ds2 TV.out) hi2 hq hne
      rcases e2 : (d2.nm.toList == t.toList) with _ | _
      · rfl
      · rw [beq_iff_eq] at e2 hqe
        rw [e2, ← hqe] at h
        simp at h
    have HF := Lib.hid (rnC0 (k := (i : Int)) TV.out TI.out TN.out (by rw [Int.toNat_natCast]; exact hx))
    clear hx hq hqe
    go_wp2_with fail
    refine (C2.out _ HB.out _ a0 a1 a2 a3 a4).mono ?_
    rintro e w6 ⟨cs6, rfl, hO, b3⟩
    obtain ⟨D1, d1, D2, d2, D3, d3, D4, d4, D5, d5, E, rfl, o1, o2, o3, o4, o5, ha, hE⟩ := hO
    have BR := Lib.hid (BR.out.nb b3)
    have HB := Lib.hid (HB.out.trans (b3.mono HB.out.size))
    have hvw : w.heap.size + 2 ≤ w5.heap.size := mp
    have hv6 : w5.heap.size ≤ w6.heap.size := b3.size
    clear b3 a0 a1 a2 a3 a4 ap m0 m1 m2 m3 m4 mf0 mf1 mf2 mf3 mf4 mp
    obtain ⟨g, rfl, hgS, hgw, hcell6, hfro6, hsy⟩ := sy_named (s := s) o1 o2 o3 o4 o5 ha hE HD.out tz
    have b6 : Below w6.heap.size w6 (w6.alloc (.cells #[.slice (some ⟨g, 0, none⟩) s.ds.length d1, .slice D2 s.cs.length d2, .slice D3 s.ms.length d3, .slice D4 s.al.length d4, .slice D5 s.hd.length d5] 35)) := (Below.refl _ _).alloc (Nat.le_refl _) _
    have hcell := (b6.cell (p := ⟨g, i * 3, none⟩) hgw).trans hcell6
    have hfro := (b6.frozen (p := ⟨g, i * 3, none⟩) hgw).trans hfro6
    have hg1 : w5.heap.size ≤ g ∧ g < w6.heap.size := hgS
    have HSY := Lib.hid hsy
    have HB6 := HB
    have n0 := (BR.out.2 0 _ rfl).1
    have nf0 := (BR.out.2 0 _ rfl).2
    have n1 := (BR.out.2 1 _ rfl).1
    have nf1 := (BR.out.2 1 _ rfl).2
    have n2 := (BR.out.2 2 _ rfl).1
    have nf2 := (BR.out.2 2 _ rfl).2
    have n3 := (BR.out.2 3 _ rfl).1
    have nf3 := (BR.out.2 3 _ rfl).2
    have n4 := (BR.out.2 4 _ rfl).1
    have nf4 := (BR.out.2 4 _ rfl).2
    have BR := Lib.hid (BR.out.nb b6)
    have HB := Lib.hid (HB.out.trans (b6.mono HB.out.size))
    clear hsy o1 o2 o3 o4 o5 ha hE hgS
    have m0 := (BR.out.2 0 _ rfl).1
    have mf0 := (BR.out.2 0 _ rfl).2
    have m1 := (BR.out.2 1 _ rfl).1
    have mf1 := (BR.out.2 1 _ rfl).2
    have m2 := (BR.out.2 2 _ rfl).1
    have mf2 := (BR.out.2 2 _ rfl).2
    have m3 := (BR.out.2 3 _ rfl).1
    have mf3 := (BR.out.2 3 _ rfl).2
    have m4 := (BR.out.2 4 _ rfl).1
    have mf4 := (BR.out.2 4 _ rfl).2
    have mp := BR.out.1
    have hgr : ¬ g = w.heap.size + 1 := by omega
    have hgr2 : ¬ w.heap.size + 1 = g := by omega
    have hRs : w.heap.size + 1 < w6.heap.size := by omega
    clear b6
    go_wp2
    have hsi : ((((((w6.setCell ⟨g, i * 3, none⟩ (.string t)).setCell ⟨w.heap.size + 1, 0, none⟩ (.slice (some ⟨g, 0, none⟩) s.ds.length d1)).setCell ⟨w.heap.size + 1, 1, none⟩ (.slice D2 s.cs.length d2)).setCell ⟨w.heap.size + 1, 2, none⟩ (.slice D3 s.ms.length d3)).setCell ⟨w.heap.size + 1, 3, none⟩ (.slice D4 s.al.length d4)).setCell ⟨w.heap.size + 1, 4, none⟩ (.slice D5 s.hd.length d5)).heap.size = w6.heap.size := by simp [World.setCell]
    have hsj : (w6.setCell ⟨g, i * 3, none⟩ (.string t)).heap.size = w6.heap.size := by simp [World.setCell]
    have SO : ∀ S : Nat → Prop, ¬ S (w.heap.size + 1) → SameB S (w6.setCell ⟨g, i * 3, none⟩ (.string t)) (((((((w6.setCell ⟨g, i * 3, none⟩ (.string t)).setCell ⟨w.heap.size + 1, 0, none⟩ (.slice (some ⟨g, 0, none⟩) s.ds.length d1)).setCell ⟨w.heap.size + 1, 1, none⟩ (.slice D2 s.cs.length d2)).setCell ⟨w.heap.size + 1, 2, none⟩ (.slice D3 s.ms.length d3)).setCell ⟨w.heap.size + 1, 3, none⟩ (.slice D4 s.al.length d4)).setCell ⟨w.heap.size + 1, 4, none⟩ (.slice D5 s.hd.length d5)).alloc (.cells #[.slice (some ⟨g, 0, none⟩) s.ds.length d1, .slice D2 s.cs.length d2, .slice D3 s.ms.length d3, .slice D4 s.al.length d4, .slice D5 s.hd.length d5] 35)) := fun S n0 => SameB.alloc2 ((((((SameB.refl S (w6.setCell ⟨g, i * 3, none⟩ (.string t))).setCell n0).setCell n0).setCell n0).setCell n0).setCell n0) (hsi.trans hsj.symm) _
    have BW : Below w.heap.size w (((((((w6.setCell ⟨g, i * 3, none⟩ (.string t)).setCell ⟨w.heap.size + 1, 0, none⟩ (.slice (some ⟨g, 0, none⟩) s.ds.length d1)).setCell ⟨w.heap.size + 1, 1, none⟩ (.slice D2 s.cs.length d2)).setCell ⟨w.heap.size + 1, 2, none⟩ (.slice D3 s.ms.length d3)).setCell ⟨w.heap.size + 1, 3, none⟩ (.slice D4 s.al.length d4)).setCell ⟨w.heap.size + 1, 4, none⟩ (.slice D5 s.hd.length d5)).alloc (.cells #[.slice (some ⟨g, 0, none⟩) s.ds.length d1, .slice D2 s.cs.length d2, .slice D3 s.ms.length d3, .slice D4 s.al.length d4, .slice D5 s.hd.length d5] 35)) := Below.alloc ((((((HB6.out.setCell (by show w.heap.size ≤ g; omega) _).setCell (by simp) _).setCell (by simp) _).setCell (by simp) _).setCell (by simp) _).setCell (by simp) _) (by omega) _
    have r0 : (((((((w6.setCell ⟨g, i * 3, none⟩ (.string t)).setCell ⟨w.heap.size + 1, 0, none⟩ (.slice (some ⟨g, 0, none⟩) s.ds.length d1)).setCell ⟨w.heap.size + 1, 1, none⟩ (.slice D2 s.cs.length d2)).setCell ⟨w.heap.size + 1, 2, none⟩ (.slice D3 s.ms.length d3)).setCell ⟨w.heap.size + 1, 3, none⟩ (.slice D4 s.al.length d4)).setCell ⟨w.heap.size + 1, 4, none⟩ (.slice D5 s.hd.length d5)).alloc (.cells #[.slice (some ⟨g, 0, none⟩) s.ds.length d1, .slice D2 s.cs.length d2, .slice D3 s.ms.length d3, .slice D4 s.al.length d4, .slice D5 s.hd.length d5] 35)).cell? ⟨w.heap.size + 1, 0, none⟩ = some (.slice (some ⟨g, 0, none⟩) s.ds.length d1) := (((Below.refl ((((((w6.setCell ⟨g, i * 3, none⟩ (.string t)).setCell ⟨w.heap.size + 1, 0, none⟩ (.slice (some ⟨g, 0, none⟩) s.ds.length d1)).setCell ⟨w.heap.size + 1, 1, none⟩ (.slice D2 s.cs.length d2)).setCell ⟨w.heap.size + 1, 2, none⟩ (.slice D3 s.ms.length d3)).setCell ⟨w.heap.size + 1, 3, none⟩ (.slice D4 s.al.length d4)).setCell ⟨w.heap.size + 1, 4, none⟩ (.slice D5 s.hd.length d5)).heap.size ((((((w6.setCell ⟨g, i * 3, none⟩ (.string t)).setCell ⟨w.heap.size + 1, 0, none⟩ (.slice (some ⟨g, 0, none⟩) s.ds.length d1)).setCell ⟨w.heap.size + 1, 1, none⟩ (.slice D2 s.cs.length d2)).setCell ⟨w.heap.size + 1, 2, none⟩ (.slice D3 s.ms.length d3)).setCell ⟨w.heap.size + 1, 3, none⟩ (.slice D4 s.al.length d4)).setCell ⟨w.heap.size + 1, 4, none⟩ (.slice D5 s.hd.length d5))).alloc (Nat.le_refl _) _).cell (p := ⟨w.heap.size + 1, 0, none⟩) (by show w.heap.size + 1 < ((((((w6.setCell ⟨g, i * 3, none⟩ (.string t)).setCell ⟨w.heap.size + 1, 0, none⟩ (.slice (some ⟨g, 0, none⟩) s.ds.length d1)).setCell ⟨w.heap.size + 1, 1, none⟩ (.slice D2 s.cs.length d2)).setCell ⟨w.heap.size + 1, 2, none⟩ (.slice D3 s.ms.length d3)).setCell ⟨w.heap.size + 1, 3, none⟩ (.slice D4 s.al.length d4)).setCell ⟨w.heap.size + 1, 4, none⟩ (.slice D5 s.hd.length d5)).heap.size; omega)).trans (by simp [go_sem, n0])
    have r1 : (((((((w6.setCell ⟨g, i * 3, none⟩ (.string t)).setCell ⟨w.heap.size + 1, 0, none⟩ (.slice (some ⟨g, 0, none⟩) s.ds.length d1)).setCell ⟨w.heap.size + 1, 1, none⟩ (.slice D2 s.cs.length d2)).setCell ⟨w.heap.size + 1, 2, none⟩ (.slice D3 s.ms.length d3)).setCell ⟨w.heap.size + 1, 3, none⟩ (.slice D4 s.al.length d4)).setCell ⟨w.heap.size + 1, 4, none⟩ (.slice D5 s.hd.length d5)).alloc (.cells #[.slice (some ⟨g, 0, none⟩) s.ds.length d1, .slice D2 s.cs.length d2, .slice D3 s.ms.length d3, .slice D4 s.al.length d4, .slice D5 s.hd.length d5] 35)).cell? ⟨w.heap.size + 1, 1, none⟩ = some (.slice D2 s.cs.length d2) := (((Below.refl ((((((w6.setCell ⟨g, i * 3, none⟩ (.string t)).setCell ⟨w.heap.size + 1, 0, none⟩ (.slice (some ⟨g, 0, none⟩) s.ds.length d1)).setCell ⟨w.heap.size + 1, 1, none⟩ (.slice D2 s.cs.length d2)).setCell ⟨w.heap.size + 1, 2, none⟩ (.slice D3 s.ms.length d3)).setCell ⟨w.heap.size + 1, 3, none⟩ (.slice D4 s.al.length d4)).setCell ⟨w.heap.size + 1, 4, none⟩ (.slice D5 s.hd.length d5)).heap.size ((((((w6.setCell ⟨g, i * 3, none⟩ (.string t)).setCell ⟨w.heap.size + 1, 0, none⟩ (.slice (some ⟨g, 0, none⟩) s.ds.length d1)).setCell ⟨w.heap.size + 1, 1, none⟩ (.slice D2 s.cs.length d2)).setCell ⟨w.heap.size + 1, 2, none⟩ (.slice D3 s.ms.length d3)).setCell ⟨w.heap.size + 1, 3, none⟩ (.slice D4 s.al.length d4)).setCell ⟨w.heap.size + 1, 4, none⟩ (.slice D5 s.hd.length d5))).alloc (Nat.le_refl _) _).cell (p := ⟨w.heap.size + 1, 1, none⟩) (by show w.heap.size + 1 < ((((((w6.setCell ⟨g, i * 3, none⟩ (.string t)).setCell ⟨w.heap.size + 1, 0, none⟩ (.slice (some ⟨g, 0, none⟩) s.ds.length d1)).setCell ⟨w.heap.size + 1, 1, none⟩ (.slice D2 s.cs.length d2)).setCell ⟨w.heap.size + 1, 2, none⟩ (.slice D3 s.ms.length d3)).setCell ⟨w.heap.size + 1, 3, none⟩ (.slice D4 s.al.length d4)).setCell ⟨w.heap.size + 1, 4, none⟩ (.slice D5 s.hd.length d5)).heap.size; omega)).trans (by simp [go_sem, n1])
    have r2 : (((((((w6.setCell ⟨g, i * 3, none⟩ (.string t)).setCell ⟨w.heap.size + 1, 0, none⟩ (.slice (some ⟨g, 0, none⟩) s.ds.length d1)).setCell ⟨w.heap.size + 1, 1, none⟩ (.slice D2 s.cs.length d2)).setCell ⟨w.heap.size + 1, 2, none⟩ (.slice D3 s.ms.length d3)).setCell ⟨w.heap.size + 1, 3, none⟩ (.slice D4 s.al.length d4)).setCell ⟨w.heap.size + 1, 4, none⟩ (.slice D5 s.hd.length d5)).alloc (.cells #[.slice (some ⟨g, 0, none⟩) s.ds.length d1, .slice D2 s.cs.length d2, .slice D3 s.ms.length d3, .slice D4 s.al.length d4, .slice D5 s.hd.length d5] 35)).cell? ⟨w.heap.size + 1, 2, none⟩ = some (.slice D3 s.ms.length d3) := (((Below.refl ((((((w6.setCell ⟨g, i * 3, none⟩ (.string t)).setCell ⟨w.heap.size + 1, 0, none⟩ (.slice (some ⟨g, 0, none⟩) s.ds.length d1)).setCell ⟨w.heap.size + 1, 1, none⟩ (.slice D2 s.cs.length d2)).setCell ⟨w.heap.size + 1, 2, none⟩ (.slice D3 s.ms.length d3)).setCell ⟨w.heap.size + 1, 3, none⟩ (.slice D4 s.al.length d4)).setCell ⟨w.heap.size + 1, 4, none⟩ (.slice D5 s.hd.length d5)).heap.size ((((((w6.setCell ⟨g, i * 3, none⟩ (.string t)).setCell ⟨w.heap.size + 1, 0, none⟩ (.slice (some ⟨g, 0, none⟩) s.ds.length d1)).setCell ⟨w.heap.size + 1, 1, none⟩ (.slice D2 s.cs.length d2)).setCell ⟨w.heap.size + 1, 2, none⟩ (.slice D3 s.ms.length d3)).setCell ⟨w.heap.size + 1, 3, none⟩ (.slice D4 s.al.length d4)).setCell ⟨w.heap.size + 1, 4, none⟩ (.slice D5 s.hd.length d5))).alloc (Nat.le_refl _) _).cell (p := ⟨w.heap.size + 1, 2, none⟩) (by show w.heap.size + 1 < ((((((w6.setCell ⟨g, i * 3, none⟩ (.string t)).setCell ⟨w.heap.size + 1, 0, none⟩ (.slice (some ⟨g, 0, none⟩) s.ds.length d1)).setCell ⟨w.heap.size + 1, 1, none⟩ (.slice D2 s.cs.length d2)).setCell ⟨w.heap.size + 1, 2, none⟩ (.slice D3 s.ms.length d3)).setCell ⟨w.heap.size + 1, 3, none⟩ (.slice D4 s.al.length d4)).setCell ⟨w.heap.size + 1, 4, none⟩ (.slice D5 s.hd.length d5)).heap.size; omega)).trans (by simp [go_sem, n2])
    have r3 : (((((((w6.setCell ⟨g, i * 3, none⟩ (.string t)).setCell ⟨w.heap.size + 1, 0, none⟩ (.slice (some ⟨g, 0, none⟩) s.ds.length d1)).setCell ⟨w.heap.size + 1, 1, none⟩ (.slice D2 s.cs.length d2)).setCell ⟨w.heap.size + 1, 2, none⟩ (.slice D3 s.ms.length d3)).setCell ⟨w.heap.size + 1, 3, none⟩ (.slice D4 s.al.length d4)).setCell ⟨w.heap.size + 1, 4, none⟩ (.slice D5 s.hd.length d5)).alloc (.cells #[.slice (some ⟨g, 0, none⟩) s.ds.length d1, .slice D2 s.cs.length d2, .slice D3 s.ms.length d3, .slice D4 s.al.length d4, .slice D5 s.hd.length d5] 35)).cell? ⟨w.heap.size + 1, 3, none⟩ = some (.slice D4 s.al.length d4) := (((Below.refl ((((((w6.setCell ⟨g, i * 3, none⟩ (.string t)).setCell ⟨w.heap.size + 1, 0, none⟩ (.slice (some ⟨g, 0, none⟩) s.ds.length d1)).setCell ⟨w.heap.size + 1, 1, none⟩ (.slice D2 s.cs.length d2)).setCell ⟨w.heap.size + 1, 2, none⟩ (.slice D3 s.ms.length d3)).setCell ⟨w.heap.size + 1, 3, none⟩ (.slice D4 s.al.length d4)).setCell ⟨w.heap.size + 1, 4, none⟩ (.slice D5 s.hd.length d5)).heap.size ((((((w6.setCell ⟨g, i * 3, none⟩ (.string t)).setCell ⟨w.heap.size + 1, 0, none⟩ (.slice (some ⟨g, 0, none⟩) s.ds.length d1)).setCell ⟨w.heap.size + 1, 1, none⟩ (.slice D2 s.cs.length d2)).setCell ⟨w.heap.size + 1, 2, none⟩ (.slice D3 s.ms.length d3)).setCell ⟨w.heap.size + 1, 3, none⟩ (.slice D4 s.al.length d4)).setCell ⟨w.heap.size + 1, 4, none⟩ (.slice D5 s.hd.length d5))).alloc (Nat.le_refl _) _).cell (p := ⟨w.heap.size + 1, 3, none⟩) (by show w.heap.size + 1 < ((((((w6.setCell ⟨g, i * 3, none⟩ (.string t)).setCell ⟨w.heap.size + 1, 0, none⟩ (.slice (some ⟨g, 0, none⟩) s.ds.length d1)).setCell ⟨w.heap.size + 1, 1, none⟩ (.slice D2 s.cs.length d2)).setCell ⟨w.heap.size + 1, 2, none⟩ (.slice D3 s.ms.length d3)).setCell ⟨w.heap.size + 1, 3, none⟩ (.slice D4 s.al.length d4)).setCell ⟨w.heap.size + 1, 4, none⟩ (.slice D5 s.hd.length d5)).heap.size; omega)).trans (by simp [go_sem, n3])
    have r4 : (((((((w6.setCell ⟨g, i * 3, none⟩ (.string t)).setCell ⟨w.heap.size + 1, 0, none⟩ (.slice (some ⟨g, 0, none⟩) s.ds.length d1)).setCell ⟨w.heap.size + 1, 1, none⟩ (.slice D2 s.cs.length d2)).setCell ⟨w.heap.size + 1, 2, none⟩ (.slice D3 s.ms.length d3)).setCell ⟨w.heap.size + 1, 3, none⟩ (.slice D4 s.al.length d4)).setCell ⟨w.heap.size + 1, 4, none⟩ (.slice D5 s.hd.length d5)).alloc (.cells #[.slice (some ⟨g, 0, none⟩) s.ds.length d1, .slice D2 s.cs.length d2, .slice D3 s.ms.length d3, .slice D4 s.al.length d4, .slice D5 s.hd.length d5] 35)).cell? ⟨w.heap.size + 1, 4, none⟩ = some (.slice D5 s.hd.length d5) := (((Below.refl ((((((w6.setCell ⟨g, i * 3, none⟩ (.string t)).setCell ⟨w.heap.size + 1, 0, none⟩ (.slice (some ⟨g, 0, none⟩) s.ds.length d1)).setCell ⟨w.heap.size + 1, 1, none⟩ (.slice D2 s.cs.length d2)).setCell ⟨w.heap.size + 1, 2, none⟩ (.slice D3 s.ms.length d3)).setCell ⟨w.heap.size + 1, 3, none⟩ (.slice D4 s.al.length d4)).setCell ⟨w.heap.size + 1, 4, none⟩ (.slice D5 s.hd.length d5)).heap.size ((((((w6.setCell ⟨g, i * 3, none⟩ (.string t)).setCell ⟨w.heap.size + 1, 0, none⟩ (.slice (some ⟨g, 0, none⟩) s.ds.length d1)).setCell ⟨w.heap.size + 1, 1, none⟩ (.slice D2 s.cs.length d2)).setCell ⟨w.heap.size + 1, 2, none⟩ (.slice D3 s.ms.length d3)).setCell ⟨w.heap.size + 1, 3, none⟩ (.slice D4 s.al.length d4)).setCell ⟨w.heap.size + 1, 4, none⟩ (.slice D5 s.hd.length d5))).alloc (Nat.le_refl _) _).cell (p := ⟨w.heap.size + 1, 4, none⟩) (by show w.heap.size + 1 < ((((((w6.setCell ⟨g, i * 3, none⟩ (.string t)).setCell ⟨w.heap.size + 1, 0, none⟩ (.slice (some ⟨g, 0, none⟩) s.ds.length d1)).setCell ⟨w.heap.size + 1, 1, none⟩ (.slice D2 s.cs.length d2)).setCell ⟨w.heap.size + 1, 2, none⟩ (.slice D3 s.ms.length d3)).setCell ⟨w.heap.size + 1, 3, none⟩ (.slice D4 s.al.length d4)).setCell ⟨w.heap.size + 1, 4, none⟩ (.slice D5 s.hd.length d5)).heap.size; omega)).trans (by simp [go_sem, n4])
    have hsz : (((((((w6.setCell ⟨g, i * 3, none⟩ (.string t)).setCell ⟨w.heap.size + 1, 0, none⟩ (.slice (some ⟨g, 0, none⟩) s.ds.length d1)).setCell ⟨w.heap.size + 1, 1, none⟩ (.slice D2 s.cs.length d2)).setCell ⟨w.heap.size + 1, 2, none⟩ (.slice D3 s.ms.length d3)).setCell ⟨w.heap.size + 1, 3, none⟩ (.slice D4 s.al.length d4)).setCell ⟨w.heap.size + 1, 4, none⟩ (.slice D5 s.hd.length d5)).alloc (.cells #[.slice (some ⟨g, 0, none⟩) s.ds.length d1, .slice D2 s.cs.length d2, .slice D3 s.ms.length d3, .slice D4 s.al.length d4, .slice D5 s.hd.length d5] 35)).heap.size = w6.heap.size + 1 := by simp [World.setCell]
    clear hsi hsj m0 m1 m2 m3 m4 mf0 mf1 mf2 mf3 mf4 mp n0 n1 n2 n3 n4 nf0 nf1 nf2 nf3 nf4
    generalize (((((((w6.setCell ⟨g, i * 3, none⟩ (.string t)).setCell ⟨w.heap.size + 1, 0, none⟩ (.slice (some ⟨g, 0, none⟩) s.ds.length d1)).setCell ⟨w.heap.size + 1, 1, none⟩ (.slice D2 s.cs.length d2)).setCell ⟨w.heap.size + 1, 2, none⟩ (.slice D3 s.ms.length d3)).setCell ⟨w.heap.size + 1, 3, none⟩ (.slice D4 s.al.length d4)).setCell ⟨w.heap.size + 1, 4, none⟩ (.slice D5 s.hd.length d5)).alloc (.cells #[.slice (some ⟨g, 0, none⟩) s.ds.length d1, .slice D2 s.cs.length d2, .slice D3 s.ms.length d3, .slice D4 s.al.length d4, .slice D5 s.hd.length d5] 35)) = WF at *
    refine bodyPost_ret (v := .tuple #[.agg #[.slice (some ⟨g, 0, none⟩) s.ds.length d1, .slice D2 s.cs.length d2, .slice D3 s.ms.length d3, .slice D4 s.al.length d4, .slice D5 s.hd.length d5], .int .i64 0]) (by simp [results, Tryz.results24, go_sem, r0, r1, r2, r3, r4]; (try rfl)) rfl ?_
    refine ⟨[.slice (some ⟨g, 0, none⟩) s.ds.length d1, .slice D2 s.cs.length d2, .slice D3 s.ms.length d3, .slice D4 s.al.length d4, .slice D5 s.hd.length d5], by rw [HF.out], ?_, BW⟩
    have hrs : rnS s (i : Int) t = ⟨s.ds.set i ⟨t, q.ps, q.body⟩, s.cs, s.ms, s.al, s.hd⟩ := by
      unfold rnS
      rw [HF.out, if_pos rfl, Int.toNat_natCast, List.getD_eq_getElem?_getD, HD.out]
      rfl
    rw [hrs]
    refine syO.more (syO.keep HSY.out (SO _ fun h => ?_)) fun b h => ?_
    · have h1 : w5.heap.size ≤ w.heap.size + 1 := h.1
      omega
    · rw [hsz]
      have h1 : w5.heap.size ≤ b := h.1
      have h2 : b < w6.heap.size := h.2
      exact ⟨by omega, by omega⟩
  · have HF := Lib.hid (rnC4 (k := (j : Int)) TV.out TI.out TN.out (by rw [Int.toNat_natCast]; exact exN_yes hq he hqe))
    have he1 : ((i : Int) != (j : Int)) = true := by simp; omega
    have hil := (List.getElem?_eq_some_iff.1 hq).1
    clear hq hqe
    go_wp2
    have BW : Below w.heap.size w (((((w5.setCell ⟨w.heap.size + 1, 0, none⟩ (.slice none 0 0)).setCell ⟨w.heap.size + 1, 1, none⟩ (.slice none 0 0)).setCell ⟨w.heap.size + 1, 2, none⟩ (.slice none 0 0)).setCell ⟨w.heap.size + 1, 3, none⟩ (.slice none 0 0)).setCell ⟨w.heap.size + 1, 4, none⟩ (.slice none 0 0)) := (((((HB.out.setCell (by simp) _).setCell (by simp) _).setCell (by simp) _).setCell (by simp) _).setCell (by simp) _)
    have r0 : (((((w5.setCell ⟨w.heap.size + 1, 0, none⟩ (.slice none 0 0)).setCell ⟨w.heap.size + 1, 1, none⟩ (.slice none 0 0)).setCell ⟨w.heap.size + 1, 2, none⟩ (.slice none 0 0)).setCell ⟨w.heap.size + 1, 3, none⟩ (.slice none 0 0)).setCell ⟨w.heap.size + 1, 4, none⟩ (.slice none 0 0)).cell? ⟨w.heap.size + 1, 0, none⟩ = some (.slice none 0 0) := by simp [go_sem, m0]
    have r1 : (((((w5.setCell ⟨w.heap.size + 1, 0, none⟩ (.slice none 0 0)).setCell ⟨w.heap.size + 1, 1, none⟩ (.slice none 0 0)).setCell ⟨w.heap.size + 1, 2, none⟩ (.slice none 0 0)).setCell ⟨w.heap.size + 1, 3, none⟩ (.slice none 0 0)).setCell ⟨w.heap.size + 1, 4, none⟩ (.slice none 0 0)).cell? ⟨w.heap.size + 1, 1, none⟩ = some (.slice none 0 0) := by simp [go_sem, m1]
    have r2 : (((((w5.setCell ⟨w.heap.size + 1, 0, none⟩ (.slice none 0 0)).setCell ⟨w.heap.size + 1, 1, none⟩ (.slice none 0 0)).setCell ⟨w.heap.size + 1, 2, none⟩ (.slice none 0 0)).setCell ⟨w.heap.size + 1, 3, none⟩ (.slice none 0 0)).setCell ⟨w.heap.size + 1, 4, none⟩ (.slice none 0 0)).cell? ⟨w.heap.size + 1, 2, none⟩ = some (.slice none 0 0) := by simp [go_sem, m2]
    have r3 : (((((w5.setCell ⟨w.heap.size + 1, 0, none⟩ (.slice none 0 0)).setCell ⟨w.heap.size + 1, 1, none⟩ (.slice none 0 0)).setCell ⟨w.heap.size + 1, 2, none⟩ (.slice none 0 0)).setCell ⟨w.heap.size + 1, 3, none⟩ (.slice none 0 0)).setCell ⟨w.heap.size + 1, 4, none⟩ (.slice none 0 0)).cell? ⟨w.heap.size + 1, 3, none⟩ = some (.slice none 0 0) := by simp [go_sem, m3]
    have r4 : (((((w5.setCell ⟨w.heap.size + 1, 0, none⟩ (.slice none 0 0)).setCell ⟨w.heap.size + 1, 1, none⟩ (.slice none 0 0)).setCell ⟨w.heap.size + 1, 2, none⟩ (.slice none 0 0)).setCell ⟨w.heap.size + 1, 3, none⟩ (.slice none 0 0)).setCell ⟨w.heap.size + 1, 4, none⟩ (.slice none 0 0)).cell? ⟨w.heap.size + 1, 4, none⟩ = some (.slice none 0 0) := by simp [go_sem, m4]
    generalize (((((w5.setCell ⟨w.heap.size + 1, 0, none⟩ (.slice none 0 0)).setCell ⟨w.heap.size + 1, 1, none⟩ (.slice none 0 0)).setCell ⟨w.heap.size + 1, 2, none⟩ (.slice none 0 0)).setCell ⟨w.heap.size + 1, 3, none⟩ (.slice none 0 0)).setCell ⟨w.heap.size + 1, 4, none⟩ (.slice none 0 0)) = WF at *
    refine bodyPost_ret (v := .tuple #[.agg #[.slice none 0 0, .slice none 0 0, .slice none 0 0, .slice none 0 0, .slice none 0 0], .int .i64 4]) (by simp [results, Tryz.results24, go_sem, r0, r1, r2, r3, r4]; (try rfl)) rfl (RetS2_none (rn_bad HF.out (by decide)) HF.out BW)
set_option maxRecDepth 100000 in
set_option maxHeartbeats 4000000 in
theorem implRen_any (s : Sy) (k : Int) (t : ByteArray) (A1 A2 A3 A4 A5 : Option Addr) (c1 c2 c3 c4 c5 : Nat) (w : World) (S : Nat → Prop) (h1 : LRow dfR w S A1 s.ds) (h2 : LRow cpR w S A2 s.cs) (h3 : LRow mtR w S A3 s.ms) (h4 : LRow txtR w S A4 s.al) (h5 : LRow txtR w S A5 s.hd) (hS : ∀ b, S b → b < w.heap.size) (ok : okSy s) (tz : t.size ≤ maxLen) (ht : FormTab w) :
    Calls Tryz.prog 25 #[.agg #[.slice A1 s.ds.length c1, .slice A2 s.cs.length c2, .slice A3 s.ms.length c3, .slice A4 s.al.length c4, .slice A5 s.hd.length c5], .int .i64 k, .string t] w (RetS2 (rnS s k t) (rnC s k t) w) := by
  have hdl := ok.1.1
  have C1 := Lib.hid (fun (W : World) (hW : Below w.heap.size w W) => (Calls.mono (implValidSys_any s A1 A2 A3 A4 A5 c1 c2 c3 c4 c5 W S (h1.keep (SameOn.of_below hW hS)) (h2.keep (SameOn.of_below hW hS)) (h3.keep (SameOn.of_below hW hS)) (h4.keep (SameOn.of_below hW hS)) (h5.keep (SameOn.of_below hW hS)) (fun b hb => Nat.lt_of_lt_of_le (hS b hb) hW.size) ok (ht.below hW)) (fun e w' ⟨he, hb⟩ => (⟨he, hW.trans (Below.mono hb hW.size), hb⟩ : e = Ending.returned (.bool (vsB s)) ∧ Below w.heap.size w w' ∧ Below W.heap.size W w'))))
  have C2 := Lib.hid (fun (W : World) (hW : Below w.heap.size w W) => (Calls.mono (cloneSystem_any s A1 A2 A3 A4 A5 c1 c2 c3 c4 c5 W S (h1.keep (SameOn.of_below hW hS)) (h2.keep (SameOn.of_below hW hS)) (h3.keep (SameOn.of_below hW hS)) (h4.keep (SameOn.of_below hW hS)) (h5.keep (SameOn.of_below hW hS)) (fun b hb => Nat.lt_of_lt_of_le (hS b hb) hW.size) ok) (fun e w' ⟨cs, he, hO, hb⟩ => (⟨cs, he, hO, hb⟩ : ∃ cs : List Value, e = Ending.returned (.agg cs.toArray) ∧ syO.O w' (In W.heap.size w'.heap.size) s cs ∧ Below W.heap.size W w'))))
  have HB0 := Lib.hid (show Below w.heap.size w ((w.alloc (.cells #[.slice A1 s.ds.length c1, .slice A2 s.cs.length c2, .slice A3 s.ms.length c3, .slice A4 s.al.length c4, .slice A5 s.hd.length c5] 35)).alloc (.cells #[.slice none 0 0, .slice none 0 0, .slice none 0 0, .slice none 0 0, .slice none 0 0] 35)) from ((Below.refl _ _).alloc (Nat.le_refl _) _).alloc (by simp) _)
  have BR0 := Lib.hid (show BoxAt (w.heap.size + 1) [.slice none 0 0, .slice none 0 0, .slice none 0 0, .slice none 0 0, .slice none 0 0] ((w.alloc (.cells #[.slice A1 s.ds.length c1, .slice A2 s.cs.length c2, .slice A3 s.ms.length c3, .slice A4 s.al.length c4, .slice A5 s.hd.length c5] 35)).alloc (.cells #[.slice none 0 0, .slice none 0 0, .slice none 0 0, .slice none 0 0, .slice none 0 0] 35)) by
    have h := BoxAt.alloc_new (w.alloc (.cells #[.slice A1 s.ds.length c1, .slice A2 s.cs.length c2, .slice A3 s.ms.length c3, .slice A4 s.al.length c4, .slice A5 s.hd.length c5] 35)) [.slice none 0 0, .slice none 0 0, .slice none 0 0, .slice none 0 0, .slice none 0 0] 35
    rwa [show (w.alloc (.cells #[.slice A1 s.ds.length c1, .slice A2 s.cs.length c2, .slice A3 s.ms.length c3, .slice A4 s.al.length c4, .slice A5 s.hd.length c5] 35)).heap.size = w.heap.size + 1 by simp] at h)
  have H1 := Lib.hid h1
  have HS := Lib.hid hS
  clear h1 h2 h3 h4 h5 hS ok ht
  rcases tv : vsB s with _ | _
  · have HF := Lib.hid (rnC1 (k := k) (t := t) tv)
    rw [tv] at C1
    clear tv C2 H1 HS
    go_enter Tryz.func25, Tryz.ntmps25
    go_wp2_with fail
    refine (C1.out _ HB0.out).mono ?_
    rintro e w1 ⟨rfl, b2, b3⟩
    have BS := Lib.hid ((Bx.of (b := w.heap.size) (v0 := .slice A1 s.ds.length c1) (v1 := .slice A2 s.cs.length c2) (v2 := .slice A3 s.ms.length c3) (v3 := .slice A4 s.al.length c4) (v4 := .slice A5 s.hd.length c5) (by simp <;> omega) (by simp [go_sem]) (by simp [go_sem]) (by simp [go_sem]) (by simp [go_sem]) (by simp [go_sem])).next b3)
    have BR := Lib.hid (BR0.out.nb b3)
    have HB := Lib.hid b2
    clear b2 b3
    obtain ⟨a0, a1, a2, a3, a4⟩ := BS.out.five
    have ap := BS.out.1
    have m0 := (BR.out.2 0 _ rfl).1
    have mf0 := (BR.out.2 0 _ rfl).2
    have m1 := (BR.out.2 1 _ rfl).1
    have mf1 := (BR.out.2 1 _ rfl).2
    have m2 := (BR.out.2 2 _ rfl).1
    have mf2 := (BR.out.2 2 _ rfl).2
    have m3 := (BR.out.2 3 _ rfl).1
    have mf3 := (BR.out.2 3 _ rfl).2
    have m4 := (BR.out.2 4 _ rfl).1
    have mf4 := (BR.out.2 4 _ rfl).2
    have mp := BR.out.1
    go_wp2
    have BW : Below w.heap.size w (((((w1.setCell ⟨w.heap.size + 1, 0, none⟩ (.slice none 0 0)).setCell ⟨w.heap.size + 1, 1, none⟩ (.slice none 0 0)).setCell ⟨w.heap.size + 1, 2, none⟩ (.slice none 0 0)).setCell ⟨w.heap.size + 1, 3, none⟩ (.slice none 0 0)).setCell ⟨w.heap.size + 1, 4, none⟩ (.slice none 0 0)) := (((((HB.out.setCell (by simp) _).setCell (by simp) _).setCell (by simp) _).setCell (by simp) _).setCell (by simp) _)
    have r0 : (((((w1.setCell ⟨w.heap.size + 1, 0, none⟩ (.slice none 0 0)).setCell ⟨w.heap.size + 1, 1, none⟩ (.slice none 0 0)).setCell ⟨w.heap.size + 1, 2, none⟩ (.slice none 0 0)).setCell ⟨w.heap.size + 1, 3, none⟩ (.slice none 0 0)).setCell ⟨w.heap.size + 1, 4, none⟩ (.slice none 0 0)).cell? ⟨w.heap.size + 1, 0, none⟩ = some (.slice none 0 0) := by simp [go_sem, m0]
    have r1 : (((((w1.setCell ⟨w.heap.size + 1, 0, none⟩ (.slice none 0 0)).setCell ⟨w.heap.size + 1, 1, none⟩ (.slice none 0 0)).setCell ⟨w.heap.size + 1, 2, none⟩ (.slice none 0 0)).setCell ⟨w.heap.size + 1, 3, none⟩ (.slice none 0 0)).setCell ⟨w.heap.size + 1, 4, none⟩ (.slice none 0 0)).cell? ⟨w.heap.size + 1, 1, none⟩ = some (.slice none 0 0) := by simp [go_sem, m1]
    have r2 : (((((w1.setCell ⟨w.heap.size + 1, 0, none⟩ (.slice none 0 0)).setCell ⟨w.heap.size + 1, 1, none⟩ (.slice none 0 0)).setCell ⟨w.heap.size + 1, 2, none⟩ (.slice none 0 0)).setCell ⟨w.heap.size + 1, 3, none⟩ (.slice none 0 0)).setCell ⟨w.heap.size + 1, 4, none⟩ (.slice none 0 0)).cell? ⟨w.heap.size + 1, 2, none⟩ = some (.slice none 0 0) := by simp [go_sem, m2]
    have r3 : (((((w1.setCell ⟨w.heap.size + 1, 0, none⟩ (.slice none 0 0)).setCell ⟨w.heap.size + 1, 1, none⟩ (.slice none 0 0)).setCell ⟨w.heap.size + 1, 2, none⟩ (.slice none 0 0)).setCell ⟨w.heap.size + 1, 3, none⟩ (.slice none 0 0)).setCell ⟨w.heap.size + 1, 4, none⟩ (.slice none 0 0)).cell? ⟨w.heap.size + 1, 3, none⟩ = some (.slice none 0 0) := by simp [go_sem, m3]
    have r4 : (((((w1.setCell ⟨w.heap.size + 1, 0, none⟩ (.slice none 0 0)).setCell ⟨w.heap.size + 1, 1, none⟩ (.slice none 0 0)).setCell ⟨w.heap.size + 1, 2, none⟩ (.slice none 0 0)).setCell ⟨w.heap.size + 1, 3, none⟩ (.slice none 0 0)).setCell ⟨w.heap.size + 1, 4, none⟩ (.slice none 0 0)).cell? ⟨w.heap.size + 1, 4, none⟩ = some (.slice none 0 0) := by simp [go_sem, m4]
    generalize (((((w1.setCell ⟨w.heap.size + 1, 0, none⟩ (.slice none 0 0)).setCell ⟨w.heap.size + 1, 1, none⟩ (.slice none 0 0)).setCell ⟨w.heap.size + 1, 2, none⟩ (.slice none 0 0)).setCell ⟨w.heap.size + 1, 3, none⟩ (.slice none 0 0)).setCell ⟨w.heap.size + 1, 4, none⟩ (.slice none 0 0)) = WF at *
    refine bodyPost_ret (v := .tuple #[.agg #[.slice none 0 0, .slice none 0 0, .slice none 0 0, .slice none 0 0, .slice none 0 0], .int .i64 1]) (by simp [results, Tryz.results25, go_sem, r0, r1, r2, r3, r4]; (try rfl)) rfl (RetS2_none (rn_bad HF.out (by decide)) HF.out BW)
  rcases ti : idxB k s.ds.length with _ | _
  · have HF := Lib.hid (rnC2 (t := t) tv ti)
    rw [tv] at C1
    have C3 := Lib.hid (fun W : World => indexQ_any k s.ds.length W hdl)
    rw [ti] at C3
    clear tv ti C2 H1 HS
    go_enter Tryz.func25, Tryz.ntmps25
    go_wp2_with fail
    refine (C1.out _ HB0.out).mono ?_
    rintro e w1 ⟨rfl, b2, b3⟩
    have BS := Lib.hid ((Bx.of (b := w.heap.size) (v0 := .slice A1 s.ds.length c1) (v1 := .slice A2 s.cs.length c2) (v2 := .slice A3 s.ms.length c3) (v3 := .slice A4 s.al.length c4) (v4 := .slice A5 s.hd.length c5) (by simp <;> omega) (by simp [go_sem]) (by simp [go_sem]) (by simp [go_sem]) (by simp [go_sem]) (by simp [go_sem])).next b3)
    have BR := Lib.hid (BR0.out.nb b3)
    have HB := Lib.hid b2
    clear b2 b3
    obtain ⟨a0, a1, a2, a3, a4⟩ := BS.out.five
    have ap := BS.out.1
    have m0 := (BR.out.2 0 _ rfl).1
    have mf0 := (BR.out.2 0 _ rfl).2
    have m1 := (BR.out.2 1 _ rfl).1
    have mf1 := (BR.out.2 1 _ rfl).2
    have m2 := (BR.out.2 2 _ rfl).1
    have mf2 := (BR.out.2 2 _ rfl).2
    have m3 := (BR.out.2 3 _ rfl).1
    have mf3 := (BR.out.2 3 _ rfl).2
    have m4 := (BR.out.2 4 _ rfl).1
    have mf4 := (BR.out.2 4 _ rfl).2
    have mp := BR.out.1
    go_wp2_with (go_at_call 70; refine (C3.out _).mono ?_; rintro e w3 ⟨rfl, rfl⟩)
    have BW : Below w.heap.size w (((((w1.setCell ⟨w.heap.size + 1, 0, none⟩ (.slice none 0 0)).setCell ⟨w.heap.size + 1, 1, none⟩ (.slice none 0 0)).setCell ⟨w.heap.size + 1, 2, none⟩ (.slice none 0 0)).setCell ⟨w.heap.size + 1, 3, none⟩ (.slice none 0 0)).setCell ⟨w.heap.size + 1, 4, none⟩ (.slice none 0 0)) := (((((HB.out.setCell (by simp) _).setCell (by simp) _).setCell (by simp) _).setCell (by simp) _).setCell (by simp) _)
    have r0 : (((((w1.setCell ⟨w.heap.size + 1, 0, none⟩ (.slice none 0 0)).setCell ⟨w.heap.size + 1, 1, none⟩ (.slice none 0 0)).setCell ⟨w.heap.size + 1, 2, none⟩ (.slice none 0 0)).setCell ⟨w.heap.size + 1, 3, none⟩ (.slice none 0 0)).setCell ⟨w.heap.size + 1, 4, none⟩ (.slice none 0 0)).cell? ⟨w.heap.size + 1, 0, none⟩ = some (.slice none 0 0) := by simp [go_sem, m0]
    have r1 : (((((w1.setCell ⟨w.heap.size + 1, 0, none⟩ (.slice none 0 0)).setCell ⟨w.heap.size + 1, 1, none⟩ (.slice none 0 0)).setCell ⟨w.heap.size + 1, 2, none⟩ (.slice none 0 0)).setCell ⟨w.heap.size + 1, 3, none⟩ (.slice none 0 0)).setCell ⟨w.heap.size + 1, 4, none⟩ (.slice none 0 0)).cell? ⟨w.heap.size + 1, 1, none⟩ = some (.slice none 0 0) := by simp [go_sem, m1]
    have r2 : (((((w1.setCell ⟨w.heap.size + 1, 0, none⟩ (.slice none 0 0)).setCell ⟨w.heap.size + 1, 1, none⟩ (.slice none 0 0)).setCell ⟨w.heap.size + 1, 2, none⟩ (.slice none 0 0)).setCell ⟨w.heap.size + 1, 3, none⟩ (.slice none 0 0)).setCell ⟨w.heap.size + 1, 4, none⟩ (.slice none 0 0)).cell? ⟨w.heap.size + 1, 2, none⟩ = some (.slice none 0 0) := by simp [go_sem, m2]
    have r3 : (((((w1.setCell ⟨w.heap.size + 1, 0, none⟩ (.slice none 0 0)).setCell ⟨w.heap.size + 1, 1, none⟩ (.slice none 0 0)).setCell ⟨w.heap.size + 1, 2, none⟩ (.slice none 0 0)).setCell ⟨w.heap.size + 1, 3, none⟩ (.slice none 0 0)).setCell ⟨w.heap.size + 1, 4, none⟩ (.slice none 0 0)).cell? ⟨w.heap.size + 1, 3, none⟩ = some (.slice none 0 0) := by simp [go_sem, m3]
    have r4 : (((((w1.setCell ⟨w.heap.size + 1, 0, none⟩ (.slice none 0 0)).setCell ⟨w.heap.size + 1, 1, none⟩ (.slice none 0 0)).setCell ⟨w.heap.size + 1, 2, none⟩ (.slice none 0 0)).setCell ⟨w.heap.size + 1, 3, none⟩ (.slice none 0 0)).setCell ⟨w.heap.size + 1, 4, none⟩ (.slice none 0 0)).cell? ⟨w.heap.size + 1, 4, none⟩ = some (.slice none 0 0) := by simp [go_sem, m4]
    generalize (((((w1.setCell ⟨w.heap.size + 1, 0, none⟩ (.slice none 0 0)).setCell ⟨w.heap.size + 1, 1, none⟩ (.slice none 0 0)).setCell ⟨w.heap.size + 1, 2, none⟩ (.slice none 0 0)).setCell ⟨w.heap.size + 1, 3, none⟩ (.slice none 0 0)).setCell ⟨w.heap.size + 1, 4, none⟩ (.slice none 0 0)) = WF at *
    refine bodyPost_ret (v := .tuple #[.agg #[.slice none 0 0, .slice none 0 0, .slice none 0 0, .slice none 0 0, .slice none 0 0], .int .i64 2]) (by simp [results, Tryz.results25, go_sem, r0, r1, r2, r3, r4]; (try rfl)) rfl (RetS2_none (rn_bad HF.out (by decide)) HF.out BW)
  obtain ⟨j, rfl, hj⟩ := idxB_yes ti
  obtain ⟨d, hd⟩ : ∃ d, s.ds[j]? = some d := ⟨_, List.getElem?_eq_getElem hj⟩
  have C3 := Lib.hid (fun W : World => indexQ_any (j : Int) s.ds.length W hdl)
  rw [ti] at C3
  have C4 := Lib.hid (fun W : World => implName_any t W)
  rcases tn : nameB t.data.toList with _ | _
  · have HF := Lib.hid (rnC3 tv ti tn)
    rw [tv] at C1
    rw [tn] at C4
    clear tv ti tn C2 H1 HS hd
    go_enter Tryz.func25, Tryz.ntmps25
    go_wp2_with fail
    refine (C1.out _ HB0.out).mono ?_
    rintro e w1 ⟨rfl, b2, b3⟩
    have BS := Lib.hid ((Bx.of (b := w.heap.size) (v0 := .slice A1 s.ds.length c1) (v1 := .slice A2 s.cs.length c2) (v2 := .slice A3 s.ms.length c3) (v3 := .slice A4 s.al.length c4) (v4 := .slice A5 s.hd.length c5) (by simp <;> omega) (by simp [go_sem]) (by simp [go_sem]) (by simp [go_sem]) (by simp [go_sem]) (by simp [go_sem])).next b3)
    have BR := Lib.hid (BR0.out.nb b3)
    have HB := Lib.hid b2
    clear b2 b3
    obtain ⟨a0, a1, a2, a3, a4⟩ := BS.out.five
    have ap := BS.out.1
    have m0 := (BR.out.2 0 _ rfl).1
    have mf0 := (BR.out.2 0 _ rfl).2
    have m1 := (BR.out.2 1 _ rfl).1
    have mf1 := (BR.out.2 1 _ rfl).2
    have m2 := (BR.out.2 2 _ rfl).1
    have mf2 := (BR.out.2 2 _ rfl).2
    have m3 := (BR.out.2 3 _ rfl).1
    have mf3 := (BR.out.2 3 _ rfl).2
    have m4 := (BR.out.2 4 _ rfl).1
    have mf4 := (BR.out.2 4 _ rfl).2
    have mp := BR.out.1
    go_wp2_with (first | (go_at_call 70; refine (C3.out _).mono ?_; rintro e w3 ⟨rfl, rfl⟩) | (go_at_call 74; refine (C4.out _).mono ?_; rintro e w4 ⟨rfl, b3⟩; have BS := Lib.hid (BS.out.next b3); have BR := Lib.hid (BR.out.nb b3); have HB := Lib.hid (HB.out.trans (b3.mono HB.out.size)); obtain ⟨a0, a1, a2, a3, a4⟩ := BS.out.five; have ap := BS.out.1; have m0 := (BR.out.2 0 _ rfl).1; have mf0 := (BR.out.2 0 _ rfl).2; have m1 := (BR.out.2 1 _ rfl).1; have mf1 := (BR.out.2 1 _ rfl).2; have m2 := (BR.out.2 2 _ rfl).1; have mf2 := (BR.out.2 2 _ rfl).2; have m3 := (BR.out.2 3 _ rfl).1; have mf3 := (BR.out.2 3 _ rfl).2; have m4 := (BR.out.2 4 _ rfl).1; have mf4 := (BR.out.2 4 _ rfl).2; have mp := BR.out.1; clear b3))
    have BW : Below w.heap.size w (((((w4.setCell ⟨w.heap.size + 1, 0, none⟩ (.slice none 0 0)).setCell ⟨w.heap.size + 1, 1, none⟩ (.slice none 0 0)).setCell ⟨w.heap.size + 1, 2, none⟩ (.slice none 0 0)).setCell ⟨w.heap.size + 1, 3, none⟩ (.slice none 0 0)).setCell ⟨w.heap.size + 1, 4, none⟩ (.slice none 0 0)) := (((((HB.out.setCell (by simp) _).setCell (by simp) _).setCell (by simp) _).setCell (by simp) _).setCell (by simp) _)
    have r0 : (((((w4.setCell ⟨w.heap.size + 1, 0, none⟩ (.slice none 0 0)).setCell ⟨w.heap.size + 1, 1, none⟩ (.slice none 0 0)).setCell ⟨w.heap.size + 1, 2, none⟩ (.slice none 0 0)).setCell ⟨w.heap.size + 1, 3, none⟩ (.slice none 0 0)).setCell ⟨w.heap.size + 1, 4, none⟩ (.slice none 0 0)).cell? ⟨w.heap.size + 1, 0, none⟩ = some (.slice none 0 0) := by simp [go_sem, m0]
    have r1 : (((((w4.setCell ⟨w.heap.size + 1, 0, none⟩ (.slice none 0 0)).setCell ⟨w.heap.size + 1, 1, none⟩ (.slice none 0 0)).setCell ⟨w.heap.size + 1, 2, none⟩ (.slice none 0 0)).setCell ⟨w.heap.size + 1, 3, none⟩ (.slice none 0 0)).setCell ⟨w.heap.size + 1, 4, none⟩ (.slice none 0 0)).cell? ⟨w.heap.size + 1, 1, none⟩ = some (.slice none 0 0) := by simp [go_sem, m1]
    have r2 : (((((w4.setCell ⟨w.heap.size + 1, 0, none⟩ (.slice none 0 0)).setCell ⟨w.heap.size + 1, 1, none⟩ (.slice none 0 0)).setCell ⟨w.heap.size + 1, 2, none⟩ (.slice none 0 0)).setCell ⟨w.heap.size + 1, 3, none⟩ (.slice none 0 0)).setCell ⟨w.heap.size + 1, 4, none⟩ (.slice none 0 0)).cell? ⟨w.heap.size + 1, 2, none⟩ = some (.slice none 0 0) := by simp [go_sem, m2]
    have r3 : (((((w4.setCell ⟨w.heap.size + 1, 0, none⟩ (.slice none 0 0)).setCell ⟨w.heap.size + 1, 1, none⟩ (.slice none 0 0)).setCell ⟨w.heap.size + 1, 2, none⟩ (.slice none 0 0)).setCell ⟨w.heap.size + 1, 3, none⟩ (.slice none 0 0)).setCell ⟨w.heap.size + 1, 4, none⟩ (.slice none 0 0)).cell? ⟨w.heap.size + 1, 3, none⟩ = some (.slice none 0 0) := by simp [go_sem, m3]
    have r4 : (((((w4.setCell ⟨w.heap.size + 1, 0, none⟩ (.slice none 0 0)).setCell ⟨w.heap.size + 1, 1, none⟩ (.slice none 0 0)).setCell ⟨w.heap.size + 1, 2, none⟩ (.slice none 0 0)).setCell ⟨w.heap.size + 1, 3, none⟩ (.slice none 0 0)).setCell ⟨w.heap.size + 1, 4, none⟩ (.slice none 0 0)).cell? ⟨w.heap.size + 1, 4, none⟩ = some (.slice none 0 0) := by simp [go_sem, m4]
    generalize (((((w4.setCell ⟨w.heap.size + 1, 0, none⟩ (.slice none 0 0)).setCell ⟨w.heap.size + 1, 1, none⟩ (.slice none 0 0)).setCell ⟨w.heap.size + 1, 2, none⟩ (.slice none 0 0)).setCell ⟨w.heap.size + 1, 3, none⟩ (.slice none 0 0)).setCell ⟨w.heap.size + 1, 4, none⟩ (.slice none 0 0)) = WF at *
    refine bodyPost_ret (v := .tuple #[.agg #[.slice none 0 0, .slice none 0 0, .slice none 0 0, .slice none 0 0, .slice none 0 0], .int .i64 2]) (by simp [results, Tryz.results25, go_sem, r0, r1, r2, r3, r4]; (try rfl)) rfl (RetS2_none (rn_bad HF.out (by decide)) HF.out BW)
  have TV := Lib.hid tv
  have TI := Lib.hid ti
  have TN := Lib.hid tn
  have HD := Lib.hid hd
  rw [tv] at C1
  rw [tn] at C4
  clear tv ti tn hd
  go_enter Tryz.func25, Tryz.ntmps25
  go_wp2_with fail
  refine (C1.out _ HB0.out).mono ?_
  rintro e w1 ⟨rfl, b2, b3⟩
  have BS := Lib.hid ((Bx.of (b := w.heap.size) (v0 := .slice A1 s.ds.length c1) (v1 := .slice A2 s.cs.length c2) (v2 := .slice A3 s.ms.length c3) (v3 := .slice A4 s.al.length c4) (v4 := .slice A5 s.hd.length c5) (by simp <;> omega) (by simp [go_sem]) (by simp [go_sem]) (by simp [go_sem]) (by simp [go_sem]) (by simp [go_sem])).next b3)
  have BR := Lib.hid (BR0.out.nb b3)
  have HB := Lib.hid b2
  clear b2 b3
  obtain ⟨a0, a1, a2, a3, a4⟩ := BS.out.five
  have ap := BS.out.1
  have m0 := (BR.out.2 0 _ rfl).1
  have mf0 := (BR.out.2 0 _ rfl).2
  have m1 := (BR.out.2 1 _ rfl).1
  have mf1 := (BR.out.2 1 _ rfl).2
  have m2 := (BR.out.2 2 _ rfl).1
  have mf2 := (BR.out.2 2 _ rfl).2
  have m3 := (BR.out.2 3 _ rfl).1
  have mf3 := (BR.out.2 3 _ rfl).2
  have m4 := (BR.out.2 4 _ rfl).1
  have mf4 := (BR.out.2 4 _ rfl).2
  have mp := BR.out.1
  go_upto_region 5 with (first | (go_at_call 70; refine (C3.out _).mono ?_; rintro e w3 ⟨rfl, rfl⟩) | (go_at_call 74; refine (C4.out _).mono ?_; rintro e w4 ⟨rfl, b3⟩; have BS := Lib.hid (BS.out.next b3); have BR := Lib.hid (BR.out.nb b3); have HB := Lib.hid (HB.out.trans (b3.mono HB.out.size)); obtain ⟨a0, a1, a2, a3, a4⟩ := BS.out.five; have ap := BS.out.1; have m0 := (BR.out.2 0 _ rfl).1; have mf0 := (BR.out.2 0 _ rfl).2; have m1 := (BR.out.2 1 _ rfl).1; have mf1 := (BR.out.2 1 _ rfl).2; have m2 := (BR.out.2 2 _ rfl).1; have mf2 := (BR.out.2 2 _ rfl).2; have m3 := (BR.out.2 3 _ rfl).1; have mf3 := (BR.out.2 3 _ rfl).2; have m4 := (BR.out.2 4 _ rfl).1; have mf4 := (BR.out.2 4 _ rfl).2; have mp := BR.out.1; clear b3))
  go_wp2
  have HBS := BS
  have HBR := BR
  have HBB := HB
  clear a0 a1 a2 a3 a4 ap m0 m1 m2 m3 m4 mf0 mf1 mf2 mf3 mf4 mp BS BR HB
  go_loopw [32] (fun i wr => ∃ k : Nat, k ≤ s.ds.length ∧ i = .int .i64 k ∧ Hid (Below w.heap.size w wr) ∧ Hid (Bx w.heap.size [.slice A1 s.ds.length c1, .slice A2 s.cs.length c2, .slice A3 s.ms.length c3, .slice A4 s.al.length c4, .slice A5 s.hd.length c5] wr) ∧ Hid (BoxAt (w.heap.size + 1) [.slice none 0 0, .slice none 0 0, .slice none 0 0, .slice none 0 0, .slice none 0 0] wr) ∧ Hid (∀ (i : Nat) (d : Df), i < k → s.ds[i]? = some d → i ≠ j → (d.nm.toList == t.toList) = false)) (fun i _ => s.ds.length - (intOf i).toNat)
  case atStart => exact ⟨0, Nat.zero_le _, rfl, HBB, HBS, HBR, Lib.hid (fun i d h => by omega)⟩
  case round =>
    obtain ⟨k, hk, rfl, HB, BS, BR, HT⟩ := hrel
    obtain ⟨wo, rfl⟩ : ∃ wo : World, wo = wr := ⟨_, rfl⟩
    clear HBS HBR HBB
    have hsz := HB.out.size
    by_cases hlt : k < s.ds.length
    · obtain ⟨b, o, cs0, x, rfl, hb, hR, hx, hc⟩ := (H1.out.keep (SameOn.of_below HB.out HS.out)).at_ (k := k) hlt
      obtain ⟨V, cv, rfl, _⟩ := hR
      have r0 : wo.cell? ⟨b, o + k * 3, none⟩ = some (.string x.nm) := hc 0 _ rfl
      have r1 : wo.cell? ⟨b, o + k * 3 + 1, none⟩ = some (.int .i64 x.ps) := hc 1 _ rfl
      have r2 : wo.cell? ⟨b, o + k * 3 + 2, none⟩ = some (.slice V x.body.length cv) := hc 2 _ rfl
      have lb : b < wo.heap.size := World.block_lt_of_cell? wo _ r0
      have b1 : Below wo.heap.size wo (wo.alloc (.cells #[.string x.nm, .int .i64 x.ps, .slice V x.body.length cv] 88)) := (Below.refl _ _).alloc (Nat.le_refl _) _
      have HB1 := Lib.hid (HB.out.trans (b1.mono hsz))
      have BS1 := Lib.hid (BS.out.next b1)
      have BR1 := Lib.hid (BR.out.nb b1)
      clear hc b1
      have next : (k ≠ j → (x.nm.toList == t.toList) = false) → Hid (∀ (i : Nat) (d : Df), i < k + 1 → s.ds[i]? = some d → i ≠ j → (d.nm.toList == t.toList) = false) := fun hk2 => Lib.hid (fun i d hi hd hne => by
        by_cases e : i = k
        · subst e
          obtain rfl : d = x := by have := hd.symm.trans hx.out; injection this
          exact hk2 hne
        · exact HT.out i d (by omega) hd hne)
      by_cases he : k = j
      · have HN := next (fun h => absurd he h)
        have he1 : ((k : Int) != (j : Int)) = false := by simp; omega
        clear next he
        go_wp2
        go_roundw
        case rel => exact ⟨k + 1, by omega, by go_num, HB1, BS1, BR1, HN⟩
        case measure => simp [intOf]; omega
      have he1 : ((k : Int) != (j : Int)) = true := by simp; omega
      rcases te : (x.nm.toList == t.toList) with _ | _
      · have HN := next (fun _ => te)
        clear next
        go_wp2
        go_roundw
        case rel => exact ⟨k + 1, by omega, by go_num, HB1, BS1, BR1, HN⟩
        case measure => simp [intOf]; omega
      · have HF := Lib.hid (rnC4 (k := (j : Int)) TV.out TI.out TN.out (by rw [Int.toNat_natCast]; exact exN_yes hx.out he te))
        clear next
        have hW : ∃ W, W = wo.alloc (.cells #[.string x.nm, .int .i64 x.ps, .slice V x.body.length cv] 88) := ⟨_, rfl⟩
        have m0 := (BR1.out.2 0 _ rfl).1
        have m1 := (BR1.out.2 1 _ rfl).1
        have m2 := (BR1.out.2 2 _ rfl).1
        have m3 := (BR1.out.2 3 _ rfl).1
        have m4 := (BR1.out.2 4 _ rfl).1
        have mf0 := (BR1.out.2 0 _ rfl).2
        have mf1 := (BR1.out.2 1 _ rfl).2
        have mf2 := (BR1.out.2 2 _ rfl).2
        have mf3 := (BR1.out.2 3 _ rfl).2
        have mf4 := (BR1.out.2 4 _ rfl).2
        have n0 := (BR.out.2 0 _ rfl).1
        have n1 := (BR.out.2 1 _ rfl).1
        have n2 := (BR.out.2 2 _ rfl).1
        have n3 := (BR.out.2 3 _ rfl).1
        have n4 := (BR.out.2 4 _ rfl).1
        have nf0 := (BR.out.2 0 _ rfl).2
        have nf1 := (BR.out.2 1 _ rfl).2
        have nf2 := (BR.out.2 2 _ rfl).2
        have nf3 := (BR.out.2 3 _ rfl).2
        have nf4 := (BR.out.2 4 _ rfl).2
        have np := BR.out.1
        have HBo := HB
        have HB := HB1
        clear hW
        go_wp2
        have hsi : (((((wo.setCell ⟨w.heap.size + 1, 0, none⟩ (.slice none 0 0)).setCell ⟨w.heap.size + 1, 1, none⟩ (.slice none 0 0)).setCell ⟨w.heap.size + 1, 2, none⟩ (.slice none 0 0)).setCell ⟨w.heap.size + 1, 3, none⟩ (.slice none 0 0)).setCell ⟨w.heap.size + 1, 4, none⟩ (.slice none 0 0)).heap.size = wo.heap.size := by simp [World.setCell]
        have BW : Below w.heap.size w ((((((wo.setCell ⟨w.heap.size + 1, 0, none⟩ (.slice none 0 0)).setCell ⟨w.heap.size + 1, 1, none⟩ (.slice none 0 0)).setCell ⟨w.heap.size + 1, 2, none⟩ (.slice none 0 0)).setCell ⟨w.heap.size + 1, 3, none⟩ (.slice none 0 0)).setCell ⟨w.heap.size + 1, 4, none⟩ (.slice none 0 0)).alloc (.cells #[.string x.nm, .int .i64 x.ps, .slice V x.body.length cv] 88)) := Below.alloc (((((HBo.out.setCell (by simp) _).setCell (by simp) _).setCell (by simp) _).setCell (by simp) _).setCell (by simp) _) (by omega) _
        have r0 : ((((((wo.setCell ⟨w.heap.size + 1, 0, none⟩ (.slice none 0 0)).setCell ⟨w.heap.size + 1, 1, none⟩ (.slice none 0 0)).setCell ⟨w.heap.size + 1, 2, none⟩ (.slice none 0 0)).setCell ⟨w.heap.size + 1, 3, none⟩ (.slice none 0 0)).setCell ⟨w.heap.size + 1, 4, none⟩ (.slice none 0 0)).alloc (.cells #[.string x.nm, .int .i64 x.ps, .slice V x.body.length cv] 88)).cell? ⟨w.heap.size + 1, 0, none⟩ = some (.slice none 0 0) := (((Below.refl (((((wo.setCell ⟨w.heap.size + 1, 0, none⟩ (.slice none 0 0)).setCell ⟨w.heap.size + 1, 1, none⟩ (.slice none 0 0)).setCell ⟨w.heap.size + 1, 2, none⟩ (.slice none 0 0)).setCell ⟨w.heap.size + 1, 3, none⟩ (.slice none 0 0)).setCell ⟨w.heap.size + 1, 4, none⟩ (.slice none 0 0)).heap.size (((((wo.setCell ⟨w.heap.size + 1, 0, none⟩ (.slice none 0 0)).setCell ⟨w.heap.size + 1, 1, none⟩ (.slice none 0 0)).setCell ⟨w.heap.size + 1, 2, none⟩ (.slice none 0 0)).setCell ⟨w.heap.size + 1, 3, none⟩ (.slice none 0 0)).setCell ⟨w.heap.size + 1, 4, none⟩ (.slice none 0 0))).alloc (Nat.le_refl _) _).cell (p := ⟨w.heap.size + 1, 0, none⟩) (by show w.heap.size + 1 < (((((wo.setCell ⟨w.heap.size + 1, 0, none⟩ (.slice none 0 0)).setCell ⟨w.heap.size + 1, 1, none⟩ (.slice none 0 0)).setCell ⟨w.heap.size + 1, 2, none⟩ (.slice none 0 0)).setCell ⟨w.heap.size + 1, 3, none⟩ (.slice none 0 0)).setCell ⟨w.heap.size + 1, 4, none⟩ (.slice none 0 0)).heap.size; omega)).trans (by simp [go_sem, n0])
        have r1 : ((((((wo.setCell ⟨w.heap.size + 1, 0, none⟩ (.slice none 0 0)).setCell ⟨w.heap.size + 1, 1, none⟩ (.slice none 0 0)).setCell ⟨w.heap.size + 1, 2, none⟩ (.slice none 0 0)).setCell ⟨w.heap.size + 1, 3, none⟩ (.slice none 0 0)).setCell ⟨w.heap.size + 1, 4, none⟩ (.slice none 0 0)).alloc (.cells #[.string x.nm, .int .i64 x.ps, .slice V x.body.length cv] 88)).cell? ⟨w.heap.size + 1, 1, none⟩ = some (.slice none 0 0) := (((Below.refl (((((wo.setCell ⟨w.heap.size + 1, 0, none⟩ (.slice none 0 0)).setCell ⟨w.heap.size + 1, 1, none⟩ (.slice none 0 0)).setCell ⟨w.heap.size + 1, 2, none⟩ (.slice none 0 0)).setCell ⟨w.heap.size + 1, 3, none⟩ (.slice none 0 0)).setCell ⟨w.heap.size + 1, 4, none⟩ (.slice none 0 0)).heap.size (((((wo.setCell ⟨w.heap.size + 1, 0, none⟩ (.slice none 0 0)).setCell ⟨w.heap.size + 1, 1, none⟩ (.slice none 0 0)).setCell ⟨w.heap.size + 1, 2, none⟩ (.slice none 0 0)).setCell ⟨w.heap.size + 1, 3, none⟩ (.slice none 0 0)).setCell ⟨w.heap.size + 1, 4, none⟩ (.slice none 0 0))).alloc (Nat.le_refl _) _).cell (p := ⟨w.heap.size + 1, 1, none⟩) (by show w.heap.size + 1 < (((((wo.setCell ⟨w.heap.size + 1, 0, none⟩ (.slice none 0 0)).setCell ⟨w.heap.size + 1, 1, none⟩ (.slice none 0 0)).setCell ⟨w.heap.size + 1, 2, none⟩ (.slice none 0 0)).setCell ⟨w.heap.size + 1, 3, none⟩ (.slice none 0 0)).setCell ⟨w.heap.size + 1, 4, none⟩ (.slice none 0 0)).heap.size; omega)).trans (by simp [go_sem, n1])
        have r2 : ((((((wo.setCell ⟨w.heap.size + 1, 0, none⟩ (.slice none 0 0)).setCell ⟨w.heap.size + 1, 1, none⟩ (.slice none 0 0)).setCell ⟨w.heap.size + 1, 2, none⟩ (.slice none 0 0)).setCell ⟨w.heap.size + 1, 3, none⟩ (.slice none 0 0)).setCell ⟨w.heap.size + 1, 4, none⟩ (.slice none 0 0)).alloc (.cells #[.string x.nm, .int .i64 x.ps, .slice V x.body.length cv] 88)).cell? ⟨w.heap.size + 1, 2, none⟩ = some (.slice none 0 0) := (((Below.refl (((((wo.setCell ⟨w.heap.size + 1, 0, none⟩ (.slice none 0 0)).setCell ⟨w.heap.size + 1, 1, none⟩ (.slice none 0 0)).setCell ⟨w.heap.size + 1, 2, none⟩ (.slice none 0 0)).setCell ⟨w.heap.size + 1, 3, none⟩ (.slice none 0 0)).setCell ⟨w.heap.size + 1, 4, none⟩ (.slice none 0 0)).heap.size (((((wo.setCell ⟨w.heap.size + 1, 0, none⟩ (.slice none 0 0)).setCell ⟨w.heap.size + 1, 1, none⟩ (.slice none 0 0)).setCell ⟨w.heap.size + 1, 2, none⟩ (.slice none 0 0)).setCell ⟨w.heap.size + 1, 3, none⟩ (.slice none 0 0)).setCell ⟨w.heap.size + 1, 4, none⟩ (.slice none 0 0))).alloc (Nat.le_refl _) _).cell (p := ⟨w.heap.size + 1, 2, none⟩) (by show w.heap.size + 1 < (((((wo.setCell ⟨w.heap.size + 1, 0, none⟩ (.slice none 0 0)).setCell ⟨w.heap.size + 1, 1, none⟩ (.slice none 0 0)).setCell ⟨w.heap.size + 1, 2, none⟩ (.slice none 0 0)).setCell ⟨w.heap.size + 1, 3, none⟩ (.slice none 0 0)).setCell ⟨w.heap.size + 1, 4, none⟩ (.slice none 0 0)).heap.size; omega)).trans (by simp [go_sem, n2])
        have r3 : ((((((wo.setCell ⟨w.heap.size + 1, 0, none⟩ (.slice none 0 0)).setCell ⟨w.heap.size + 1, 1, none⟩ (.slice none 0 0)).setCell ⟨w.heap.size + 1, 2, none⟩ (.slice none 0 0)).setCell ⟨w.heap.size + 1, 3, none⟩ (.slice none 0 0)).setCell ⟨w.heap.size + 1, 4, none⟩ (.slice none 0 0)).alloc (.cells #[.string x.nm, .int .i64 x.ps, .slice V x.body.length cv] 88)).cell? ⟨w.heap.size + 1, 3, none⟩ = some (.slice none 0 0) := (((Below.refl (((((wo.setCell ⟨w.heap.size + 1, 0, none⟩ (.slice none 0 0)).setCell ⟨w.heap.size + 1, 1, none⟩ (.slice none 0 0)).setCell ⟨w.heap.size + 1, 2, none⟩ (.slice none 0 0)).setCell ⟨w.heap.size + 1, 3, none⟩ (.slice none 0 0)).setCell ⟨w.heap.size + 1, 4, none⟩ (.slice none 0 0)).heap.size (((((wo.setCell ⟨w.heap.size + 1, 0, none⟩ (.slice none 0 0)).setCell ⟨w.heap.size + 1, 1, none⟩ (.slice none 0 0)).setCell ⟨w.heap.size + 1, 2, none⟩ (.slice none 0 0)).setCell ⟨w.heap.size + 1, 3, none⟩ (.slice none 0 0)).setCell ⟨w.heap.size + 1, 4, none⟩ (.slice none 0 0))).alloc (Nat.le_refl _) _).cell (p := ⟨w.heap.size + 1, 3, none⟩) (by show w.heap.size + 1 < (((((wo.setCell ⟨w.heap.size + 1, 0, none⟩ (.slice none 0 0)).setCell ⟨w.heap.size + 1, 1, none⟩ (.slice none 0 0)).setCell ⟨w.heap.size + 1, 2, none⟩ (.slice none 0 0)).setCell ⟨w.heap.size + 1, 3, none⟩ (.slice none 0 0)).setCell ⟨w.heap.size + 1, 4, none⟩ (.slice none 0 0)).heap.size; omega)).trans (by simp [go_sem, n3])
        have r4 : ((((((wo.setCell ⟨w.heap.size + 1, 0, none⟩ (.slice none 0 0)).setCell ⟨w.heap.size + 1, 1, none⟩ (.slice none 0 0)).setCell ⟨w.heap.size + 1, 2, none⟩ (.slice none 0 0)).setCell ⟨w.heap.size + 1, 3, none⟩ (.slice none 0 0)).setCell ⟨w.heap.size + 1, 4, none⟩ (.slice none 0 0)).alloc (.cells #[.string x.nm, .int .i64 x.ps, .slice V x.body.length cv] 88)).cell? ⟨w.heap.size + 1, 4, none⟩ = some (.slice none 0 0) := (((Below.refl (((((wo.setCell ⟨w.heap.size + 1, 0, none⟩ (.slice none 0 0)).setCell ⟨w.heap.size + 1, 1, none⟩ (.slice none 0 0)).setCell ⟨w.heap.size + 1, 2, none⟩ (.slice none 0 0)).setCell ⟨w.heap.size + 1, 3, none⟩ (.slice none 0 0)).setCell ⟨w.heap.size + 1, 4, none⟩ (.slice none 0 0)).heap.size (((((wo.setCell ⟨w.heap.size + 1, 0, none⟩ (.slice none 0 0)).setCell ⟨w.heap.size + 1, 1, none⟩ (.slice none 0 0)).setCell ⟨w.heap.size + 1, 2, none⟩ (.slice none 0 0)).setCell ⟨w.heap.size + 1, 3, none⟩ (.slice none 0 0)).setCell ⟨w.heap.size + 1, 4, none⟩ (.slice none 0 0))).alloc (Nat.le_refl _) _).cell (p := ⟨w.heap.size + 1, 4, none⟩) (by show w.heap.size + 1 < (((((wo.setCell ⟨w.heap.size + 1, 0, none⟩ (.slice none 0 0)).setCell ⟨w.heap.size + 1, 1, none⟩ (.slice none 0 0)).setCell ⟨w.heap.size + 1, 2, none⟩ (.slice none 0 0)).setCell ⟨w.heap.size + 1, 3, none⟩ (.slice none 0 0)).setCell ⟨w.heap.size + 1, 4, none⟩ (.slice none 0 0)).heap.size; omega)).trans (by simp [go_sem, n4])
        clear hsi
        generalize ((((((wo.setCell ⟨w.heap.size + 1, 0, none⟩ (.slice none 0 0)).setCell ⟨w.heap.size + 1, 1, none⟩ (.slice none 0 0)).setCell ⟨w.heap.size + 1, 2, none⟩ (.slice none 0 0)).setCell ⟨w.heap.size + 1, 3, none⟩ (.slice none 0 0)).setCell ⟨w.heap.size + 1, 4, none⟩ (.slice none 0 0)).alloc (.cells #[.string x.nm, .int .i64 x.ps, .slice V x.body.length cv] 88)) = WF at *
        refine bodyPost_ret (v := .tuple #[.agg #[.slice none 0 0, .slice none 0 0, .slice none 0 0, .slice none 0 0, .slice none 0 0], .int .i64 4]) (by simp [results, Tryz.results25, go_sem, r0, r1, r2, r3, r4]; (try rfl)) rfl (RetS2_none (rn_bad HF.out (by decide)) HF.out BW)
    · have hx : exN s.ds j t = false := exN_no fun i d hi hne => HT.out i d (by have := (List.getElem?_eq_some_iff.1 hi).1; omega) hi hne
      have HF := Lib.hid (rnC0 (k := (j : Int)) TV.out TI.out TN.out (by rw [Int.toNat_natCast]; exact hx))
      clear hx HT
      obtain ⟨a0, a1, a2, a3, a4⟩ := BS.out.five
      have ap := BS.out.1
      have m0 := (BR.out.2 0 _ rfl).1
      have mf0 := (BR.out.2 0 _ rfl).2
      have m1 := (BR.out.2 1 _ rfl).1
      have mf1 := (BR.out.2 1 _ rfl).2
      have m2 := (BR.out.2 2 _ rfl).1
      have mf2 := (BR.out.2 2 _ rfl).2
      have m3 := (BR.out.2 3 _ rfl).1
      have mf3 := (BR.out.2 3 _ rfl).2
      have m4 := (BR.out.2 4 _ rfl).1
      have mf4 := (BR.out.2 4 _ rfl).2
      have mp := BR.out.1
      go_wp2_with fail
      refine (C2.out _ HB.out).mono ?_
      rintro e w6 ⟨cs6, rfl, hO, b3⟩
      obtain ⟨D1, d1, D2, d2, D3, d3, D4, d4, D5, d5, E, rfl, o1, o2, o3, o4, o5, ha, hE⟩ := hO
      have BR := Lib.hid (BR.out.nb b3)
      have HB := Lib.hid (HB.out.trans (b3.mono HB.out.size))
      have hvw : w.heap.size + 2 ≤ wo.heap.size := mp
      have hv6 : wo.heap.size ≤ w6.heap.size := b3.size
      clear b3 a0 a1 a2 a3 a4 ap m0 m1 m2 m3 m4 mf0 mf1 mf2 mf3 mf4 mp
      obtain ⟨g, rfl, hgS, hgw, hcell6, hfro6, hsy⟩ := sy_named (s := s) o1 o2 o3 o4 o5 ha hE HD.out tz
      have b6 : Below w6.heap.size w6 (w6.alloc (.cells #[.slice (some ⟨g, 0, none⟩) s.ds.length d1, .slice D2 s.cs.length d2, .slice D3 s.ms.length d3, .slice D4 s.al.length d4, .slice D5 s.hd.length d5] 35)) := (Below.refl _ _).alloc (Nat.le_refl _) _
      have hcell := (b6.cell (p := ⟨g, j * 3, none⟩) hgw).trans hcell6
      have hfro := (b6.frozen (p := ⟨g, j * 3, none⟩) hgw).trans hfro6
      have hg1 : wo.heap.size ≤ g ∧ g < w6.heap.size := hgS
      have HSY := Lib.hid hsy
      have HB6 := HB
      have n0 := (BR.out.2 0 _ rfl).1
      have nf0 := (BR.out.2 0 _ rfl).2
      have n1 := (BR.out.2 1 _ rfl).1
      have nf1 := (BR.out.2 1 _ rfl).2
      have n2 := (BR.out.2 2 _ rfl).1
      have nf2 := (BR.out.2 2 _ rfl).2
      have n3 := (BR.out.2 3 _ rfl).1
      have nf3 := (BR.out.2 3 _ rfl).2
      have n4 := (BR.out.2 4 _ rfl).1
      have nf4 := (BR.out.2 4 _ rfl).2
      have BR := Lib.hid (BR.out.nb b6)
      have HB := Lib.hid (HB.out.trans (b6.mono HB.out.size))
      clear hsy o1 o2 o3 o4 o5 ha hE hgS
      have m0 := (BR.out.2 0 _ rfl).1
      have mf0 := (BR.out.2 0 _ rfl).2
      have m1 := (BR.out.2 1 _ rfl).1
      have mf1 := (BR.out.2 1 _ rfl).2
      have m2 := (BR.out.2 2 _ rfl).1
      have mf2 := (BR.out.2 2 _ rfl).2
      have m3 := (BR.out.2 3 _ rfl).1
      have mf3 := (BR.out.2 3 _ rfl).2
      have m4 := (BR.out.2 4 _ rfl).1
      have mf4 := (BR.out.2 4 _ rfl).2
      have mp := BR.out.1
      have hgr : ¬ g = w.heap.size + 1 := by omega
      have hgr2 : ¬ w.heap.size + 1 = g := by omega
      have hRs : w.heap.size + 1 < w6.heap.size := by omega
      clear b6
      go_wp2
      have hsi : ((((((w6.setCell ⟨g, j * 3, none⟩ (.string t)).setCell ⟨w.heap.size + 1, 0, none⟩ (.slice (some ⟨g, 0, none⟩) s.ds.length d1)).setCell ⟨w.heap.size + 1, 1, none⟩ (.slice D2 s.cs.length d2)).setCell ⟨w.heap.size + 1, 2, none⟩ (.slice D3 s.ms.length d3)).setCell ⟨w.heap.size + 1, 3, none⟩ (.slice D4 s.al.length d4)).setCell ⟨w.heap.size + 1, 4, none⟩ (.slice D5 s.hd.length d5)).heap.size = w6.heap.size := by simp [World.setCell]
      have hsj : (w6.setCell ⟨g, j * 3, none⟩ (.string t)).heap.size = w6.heap.size := by simp [World.setCell]
      have SO : ∀ S : Nat → Prop, ¬ S (w.heap.size + 1) → SameB S (w6.setCell ⟨g, j * 3, none⟩ (.string t)) (((((((w6.setCell ⟨g, j * 3, none⟩ (.string t)).setCell ⟨w.heap.size + 1, 0, none⟩ (.slice (some ⟨g, 0, none⟩) s.ds.length d1)).setCell ⟨w.heap.size + 1, 1, none⟩ (.slice D2 s.cs.length d2)).setCell ⟨w.heap.size + 1, 2, none⟩ (.slice D3 s.ms.length d3)).setCell ⟨w.heap.size + 1, 3, none⟩ (.slice D4 s.al.length d4)).setCell ⟨w.heap.size + 1, 4, none⟩ (.slice D5 s.hd.length d5)).alloc (.cells #[.slice (some ⟨g, 0, none⟩) s.ds.length d1, .slice D2 s.cs.length d2, .slice D3 s.ms.length d3, .slice D4 s.al.length d4, .slice D5 s.hd.length d5] 35)) := fun S n0 => SameB.alloc2 ((((((SameB.refl S (w6.setCell ⟨g, j * 3, none⟩ (.string t))).setCell n0).setCell n0).setCell n0).setCell n0).setCell n0) (hsi.trans hsj.symm) _
      have BW : Below w.heap.size w (((((((w6.setCell ⟨g, j * 3, none⟩ (.string t)).setCell ⟨w.heap.size + 1, 0, none⟩ (.slice (some ⟨g, 0, none⟩) s.ds.length d1)).setCell ⟨w.heap.size + 1, 1, none⟩ (.slice D2 s.cs.length d2)).setCell ⟨w.heap.size + 1, 2, none⟩ (.slice D3 s.ms.length d3)).setCell ⟨w.heap.size + 1, 3, none⟩ (.slice D4 s.al.length d4)).setCell ⟨w.heap.size + 1, 4, none⟩ (.slice D5 s.hd.length d5)).alloc (.cells #[.slice (some ⟨g, 0, none⟩) s.ds.length d1, .slice D2 s.cs.length d2, .slice D3 s.ms.length d3, .slice D4 s.al.length d4, .slice D5 s.hd.length d5] 35)) := Below.alloc ((((((HB6.out.setCell (by show w.heap.size ≤ g; omega) _).setCell (by simp) _).setCell (by simp) _).setCell (by simp) _).setCell (by simp) _).setCell (by simp) _) (by omega) _
      have r0 : (((((((w6.setCell ⟨g, j * 3, none⟩ (.string t)).setCell ⟨w.heap.size + 1, 0, none⟩ (.slice (some ⟨g, 0, none⟩) s.ds.length d1)).setCell ⟨w.heap.size + 1, 1, none⟩ (.slice D2 s.cs.length d2)).setCell ⟨w.heap.size + 1, 2, none⟩ (.slice D3 s.ms.length d3)).setCell ⟨w.heap.size + 1, 3, none⟩ (.slice D4 s.al.length d4)).setCell ⟨w.heap.size + 1, 4, none⟩ (.slice D5 s.hd.length d5)).alloc (.cells #[.slice (some ⟨g, 0, none⟩) s.ds.length d1, .slice D2 s.cs.length d2, .slice D3 s.ms.length d3, .slice D4 s.al.length d4, .slice D5 s.hd.length d5] 35)).cell? ⟨w.heap.size + 1, 0, none⟩ = some (.slice (some ⟨g, 0, none⟩) s.ds.length d1) := (((Below.refl ((((((w6.setCell ⟨g, j * 3, none⟩ (.string t)).setCell ⟨w.heap.size + 1, 0, none⟩ (.slice (some ⟨g, 0, none⟩) s.ds.length d1)).setCell ⟨w.heap.size + 1, 1, none⟩ (.slice D2 s.cs.length d2)).setCell ⟨w.heap.size + 1, 2, none⟩ (.slice D3 s.ms.length d3)).setCell ⟨w.heap.size + 1, 3, none⟩ (.slice D4 s.al.length d4)).setCell ⟨w.heap.size + 1, 4, none⟩ (.slice D5 s.hd.length d5)).heap.size ((((((w6.setCell ⟨g, j * 3, none⟩ (.string t)).setCell ⟨w.heap.size + 1, 0, none⟩ (.slice (some ⟨g, 0, none⟩) s.ds.length d1)).setCell ⟨w.heap.size + 1, 1, none⟩ (.slice D2 s.cs.length d2)).setCell ⟨w.heap.size + 1, 2, none⟩ (.slice D3 s.ms.length d3)).setCell ⟨w.heap.size + 1, 3, none⟩ (.slice D4 s.al.length d4)).setCell ⟨w.heap.size + 1, 4, none⟩ (.slice D5 s.hd.length d5))).alloc (Nat.le_refl _) _).cell (p := ⟨w.heap.size + 1, 0, none⟩) (by show w.heap.size + 1 < ((((((w6.setCell ⟨g, j * 3, none⟩ (.string t)).setCell ⟨w.heap.size + 1, 0, none⟩ (.slice (some ⟨g, 0, none⟩) s.ds.length d1)).setCell ⟨w.heap.size + 1, 1, none⟩ (.slice D2 s.cs.length d2)).setCell ⟨w.heap.size + 1, 2, none⟩ (.slice D3 s.ms.length d3)).setCell ⟨w.heap.size + 1, 3, none⟩ (.slice D4 s.al.length d4)).setCell ⟨w.heap.size + 1, 4, none⟩ (.slice D5 s.hd.length d5)).heap.size; omega)).trans (by simp [go_sem, n0])
      have r1 : (((((((w6.setCell ⟨g, j * 3, none⟩ (.string t)).setCell ⟨w.heap.size + 1, 0, none⟩ (.slice (some ⟨g, 0, none⟩) s.ds.length d1)).setCell ⟨w.heap.size + 1, 1, none⟩ (.slice D2 s.cs.length d2)).setCell ⟨w.heap.size + 1, 2, none⟩ (.slice D3 s.ms.length d3)).setCell ⟨w.heap.size + 1, 3, none⟩ (.slice D4 s.al.length d4)).setCell ⟨w.heap.size + 1, 4, none⟩ (.slice D5 s.hd.length d5)).alloc (.cells #[.slice (some ⟨g, 0, none⟩) s.ds.length d1, .slice D2 s.cs.length d2, .slice D3 s.ms.length d3, .slice D4 s.al.length d4, .slice D5 s.hd.length d5] 35)).cell? ⟨w.heap.size + 1, 1, none⟩ = some (.slice D2 s.cs.length d2) := (((Below.refl ((((((w6.setCell ⟨g, j * 3, none⟩ (.string t)).setCell ⟨w.heap.size + 1, 0, none⟩ (.slice (some ⟨g, 0, none⟩) s.ds.length d1)).setCell ⟨w.heap.size + 1, 1, none⟩ (.slice D2 s.cs.length d2)).setCell ⟨w.heap.size + 1, 2, none⟩ (.slice D3 s.ms.length d3)).setCell ⟨w.heap.size + 1, 3, none⟩ (.slice D4 s.al.length d4)).setCell ⟨w.heap.size + 1, 4, none⟩ (.slice D5 s.hd.length d5)).heap.size ((((((w6.setCell ⟨g, j * 3, none⟩ (.string t)).setCell ⟨w.heap.size + 1, 0, none⟩ (.slice (some ⟨g, 0, none⟩) s.ds.length d1)).setCell ⟨w.heap.size + 1, 1, none⟩ (.slice D2 s.cs.length d2)).setCell ⟨w.heap.size + 1, 2, none⟩ (.slice D3 s.ms.length d3)).setCell ⟨w.heap.size + 1, 3, none⟩ (.slice D4 s.al.length d4)).setCell ⟨w.heap.size + 1, 4, none⟩ (.slice D5 s.hd.length d5))).alloc (Nat.le_refl _) _).cell (p := ⟨w.heap.size + 1, 1, none⟩) (by show w.heap.size + 1 < ((((((w6.setCell ⟨g, j * 3, none⟩ (.string t)).setCell ⟨w.heap.size + 1, 0, none⟩ (.slice (some ⟨g, 0, none⟩) s.ds.length d1)).setCell ⟨w.heap.size + 1, 1, none⟩ (.slice D2 s.cs.length d2)).setCell ⟨w.heap.size + 1, 2, none⟩ (.slice D3 s.ms.length d3)).setCell ⟨w.heap.size + 1, 3, none⟩ (.slice D4 s.al.length d4)).setCell ⟨w.heap.size + 1, 4, none⟩ (.slice D5 s.hd.length d5)).heap.size; omega)).trans (by simp [go_sem, n1])
      have r2 : (((((((w6.setCell ⟨g, j * 3, none⟩ (.string t)).setCell ⟨w.heap.size + 1, 0, none⟩ (.slice (some ⟨g, 0, none⟩) s.ds.length d1)).setCell ⟨w.heap.size + 1, 1, none⟩ (.slice D2 s.cs.length d2)).setCell ⟨w.heap.size + 1, 2, none⟩ (.slice D3 s.ms.length d3)).setCell ⟨w.heap.size + 1, 3, none⟩ (.slice D4 s.al.length d4)).setCell ⟨w.heap.size + 1, 4, none⟩ (.slice D5 s.hd.length d5)).alloc (.cells #[.slice (some ⟨g, 0, none⟩) s.ds.length d1, .slice D2 s.cs.length d2, .slice D3 s.ms.length d3, .slice D4 s.al.length d4, .slice D5 s.hd.length d5] 35)).cell? ⟨w.heap.size + 1, 2, none⟩ = some (.slice D3 s.ms.length d3) := (((Below.refl ((((((w6.setCell ⟨g, j * 3, none⟩ (.string t)).setCell ⟨w.heap.size + 1, 0, none⟩ (.slice (some ⟨g, 0, none⟩) s.ds.length d1)).setCell ⟨w.heap.size + 1, 1, none⟩ (.slice D2 s.cs.length d2)).setCell ⟨w.heap.size + 1, 2, none⟩ (.slice D3 s.ms.length d3)).setCell ⟨w.heap.size + 1, 3, none⟩ (.slice D4 s.al.length d4)).setCell ⟨w.heap.size + 1, 4, none⟩ (.slice D5 s.hd.length d5)).heap.size ((((((w6.setCell ⟨g, j * 3, none⟩ (.string t)).setCell ⟨w.heap.size + 1, 0, none⟩ (.slice (some ⟨g, 0, none⟩) s.ds.length d1)).setCell ⟨w.heap.size + 1, 1, none⟩ (.slice D2 s.cs.length d2)).setCell ⟨w.heap.size + 1, 2, none⟩ (.slice D3 s.ms.length d3)).setCell ⟨w.heap.size + 1, 3, none⟩ (.slice D4 s.al.length d4)).setCell ⟨w.heap.size + 1, 4, none⟩ (.slice D5 s.hd.length d5))).alloc (Nat.le_refl _) _).cell (p := ⟨w.heap.size + 1, 2, none⟩) (by show w.heap.size + 1 < ((((((w6.setCell ⟨g, j * 3, none⟩ (.string t)).setCell ⟨w.heap.size + 1, 0, none⟩ (.slice (some ⟨g, 0, none⟩) s.ds.length d1)).setCell ⟨w.heap.size + 1, 1, none⟩ (.slice D2 s.cs.length d2)).setCell ⟨w.heap.size + 1, 2, none⟩ (.slice D3 s.ms.length d3)).setCell ⟨w.heap.size + 1, 3, none⟩ (.slice D4 s.al.length d4)).setCell ⟨w.heap.size + 1, 4, none⟩ (.slice D5 s.hd.length d5)).heap.size; omega)).trans (by simp [go_sem, n2])
      have r3 : (((((((w6.setCell ⟨g, j * 3, none⟩ (.string t)).setCell ⟨w.heap.size + 1, 0, none⟩ (.slice (some ⟨g, 0, none⟩) s.ds.length d1)).setCell ⟨w.heap.size + 1, 1, none⟩ (.slice D2 s.cs.length d2)).setCell ⟨w.heap.size + 1, 2, none⟩ (.slice D3 s.ms.length d3)).setCell ⟨w.heap.size + 1, 3, none⟩ (.slice D4 s.al.length d4)).setCell ⟨w.heap.size + 1, 4, none⟩ (.slice D5 s.hd.length d5)).alloc (.cells #[.slice (some ⟨g, 0, none⟩) s.ds.length d1, .slice D2 s.cs.length d2, .slice D3 s.ms.length d3, .slice D4 s.al.length d4, .slice D5 s.hd.length d5] 35)).cell? ⟨w.heap.size + 1, 3, none⟩ = some (.slice D4 s.al.length d4) := (((Below.refl ((((((w6.setCell ⟨g, j * 3, none⟩ (.string t)).setCell ⟨w.heap.size + 1, 0, none⟩ (.slice (some ⟨g, 0, none⟩) s.ds.length d1)).setCell ⟨w.heap.size + 1, 1, none⟩ (.slice D2 s.cs.length d2)).setCell ⟨w.heap.size + 1, 2, none⟩ (.slice D3 s.ms.length d3)).setCell ⟨w.heap.size + 1, 3, none⟩ (.slice D4 s.al.length d4)).setCell ⟨w.heap.size + 1, 4, none⟩ (.slice D5 s.hd.length d5)).heap.size ((((((w6.setCell ⟨g, j * 3, none⟩ (.string t)).setCell ⟨w.heap.size + 1, 0, none⟩ (.slice (some ⟨g, 0, none⟩) s.ds.length d1)).setCell ⟨w.heap.size + 1, 1, none⟩ (.slice D2 s.cs.length d2)).setCell ⟨w.heap.size + 1, 2, none⟩ (.slice D3 s.ms.length d3)).setCell ⟨w.heap.size + 1, 3, none⟩ (.slice D4 s.al.length d4)).setCell ⟨w.heap.size + 1, 4, none⟩ (.slice D5 s.hd.length d5))).alloc (Nat.le_refl _) _).cell (p := ⟨w.heap.size + 1, 3, none⟩) (by show w.heap.size + 1 < ((((((w6.setCell ⟨g, j * 3, none⟩ (.string t)).setCell ⟨w.heap.size + 1, 0, none⟩ (.slice (some ⟨g, 0, none⟩) s.ds.length d1)).setCell ⟨w.heap.size + 1, 1, none⟩ (.slice D2 s.cs.length d2)).setCell ⟨w.heap.size + 1, 2, none⟩ (.slice D3 s.ms.length d3)).setCell ⟨w.heap.size + 1, 3, none⟩ (.slice D4 s.al.length d4)).setCell ⟨w.heap.size + 1, 4, none⟩ (.slice D5 s.hd.length d5)).heap.size; omega)).trans (by simp [go_sem, n3])
      have r4 : (((((((w6.setCell ⟨g, j * 3, none⟩ (.string t)).setCell ⟨w.heap.size + 1, 0, none⟩ (.slice (some ⟨g, 0, none⟩) s.ds.length d1)).setCell ⟨w.heap.size + 1, 1, none⟩ (.slice D2 s.cs.length d2)).setCell ⟨w.heap.size + 1, 2, none⟩ (.slice D3 s.ms.length d3)).setCell ⟨w.heap.size + 1, 3, none⟩ (.slice D4 s.al.length d4)).setCell ⟨w.heap.size + 1, 4, none⟩ (.slice D5 s.hd.length d5)).alloc (.cells #[.slice (some ⟨g, 0, none⟩) s.ds.length d1, .slice D2 s.cs.length d2, .slice D3 s.ms.length d3, .slice D4 s.al.length d4, .slice D5 s.hd.length d5] 35)).cell? ⟨w.heap.size + 1, 4, none⟩ = some (.slice D5 s.hd.length d5) := (((Below.refl ((((((w6.setCell ⟨g, j * 3, none⟩ (.string t)).setCell ⟨w.heap.size + 1, 0, none⟩ (.slice (some ⟨g, 0, none⟩) s.ds.length d1)).setCell ⟨w.heap.size + 1, 1, none⟩ (.slice D2 s.cs.length d2)).setCell ⟨w.heap.size + 1, 2, none⟩ (.slice D3 s.ms.length d3)).setCell ⟨w.heap.size + 1, 3, none⟩ (.slice D4 s.al.length d4)).setCell ⟨w.heap.size + 1, 4, none⟩ (.slice D5 s.hd.length d5)).heap.size ((((((w6.setCell ⟨g, j * 3, none⟩ (.string t)).setCell ⟨w.heap.size + 1, 0, none⟩ (.slice (some ⟨g, 0, none⟩) s.ds.length d1)).setCell ⟨w.heap.size + 1, 1, none⟩ (.slice D2 s.cs.length d2)).setCell ⟨w.heap.size + 1, 2, none⟩ (.slice D3 s.ms.length d3)).setCell ⟨w.heap.size + 1, 3, none⟩ (.slice D4 s.al.length d4)).setCell ⟨w.heap.size + 1, 4, none⟩ (.slice D5 s.hd.length d5))).alloc (Nat.le_refl _) _).cell (p := ⟨w.heap.size + 1, 4, none⟩) (by show w.heap.size + 1 < ((((((w6.setCell ⟨g, j * 3, none⟩ (.string t)).setCell ⟨w.heap.size + 1, 0, none⟩ (.slice (some ⟨g, 0, none⟩) s.ds.length d1)).setCell ⟨w.heap.size + 1, 1, none⟩ (.slice D2 s.cs.length d2)).setCell ⟨w.heap.size + 1, 2, none⟩ (.slice D3 s.ms.length d3)).setCell ⟨w.heap.size + 1, 3, none⟩ (.slice D4 s.al.length d4)).setCell ⟨w.heap.size + 1, 4, none⟩ (.slice D5 s.hd.length d5)).heap.size; omega)).trans (by simp [go_sem, n4])
      have hsz : (((((((w6.setCell ⟨g, j * 3, none⟩ (.string t)).setCell ⟨w.heap.size + 1, 0, none⟩ (.slice (some ⟨g, 0, none⟩) s.ds.length d1)).setCell ⟨w.heap.size + 1, 1, none⟩ (.slice D2 s.cs.length d2)).setCell ⟨w.heap.size + 1, 2, none⟩ (.slice D3 s.ms.length d3)).setCell ⟨w.heap.size + 1, 3, none⟩ (.slice D4 s.al.length d4)).setCell ⟨w.heap.size + 1, 4, none⟩ (.slice D5 s.hd.length d5)).alloc (.cells #[.slice (some ⟨g, 0, none⟩) s.ds.length d1, .slice D2 s.cs.length d2, .slice D3 s.ms.length d3, .slice D4 s.al.length d4, .slice D5 s.hd.length d5] 35)).heap.size = w6.heap.size + 1 := by simp [World.setCell]
      clear hsi hsj m0 m1 m2 m3 m4 mf0 mf1 mf2 mf3 mf4 mp n0 n1 n2 n3 n4 nf0 nf1 nf2 nf3 nf4
      generalize (((((((w6.setCell ⟨g, j * 3, none⟩ (.string t)).setCell ⟨w.heap.size + 1, 0, none⟩ (.slice (some ⟨g, 0, none⟩) s.ds.length d1)).setCell ⟨w.heap.size + 1, 1, none⟩ (.slice D2 s.cs.length d2)).setCell ⟨w.heap.size + 1, 2, none⟩ (.slice D3 s.ms.length d3)).setCell ⟨w.heap.size + 1, 3, none⟩ (.slice D4 s.al.length d4)).setCell ⟨w.heap.size + 1, 4, none⟩ (.slice D5 s.hd.length d5)).alloc (.cells #[.slice (some ⟨g, 0, none⟩) s.ds.length d1, .slice D2 s.cs.length d2, .slice D3 s.ms.length d3, .slice D4 s.al.length d4, .slice D5 s.hd.length d5] 35)) = WF at *
      refine bodyPost_ret (v := .tuple #[.agg #[.slice (some ⟨g, 0, none⟩) s.ds.length d1, .slice D2 s.cs.length d2, .slice D3 s.ms.length d3, .slice D4 s.al.length d4, .slice D5 s.hd.length d5], .int .i64 0]) (by simp [results, Tryz.results25, go_sem, r0, r1, r2, r3, r4]; (try rfl)) rfl ?_
      refine ⟨[.slice (some ⟨g, 0, none⟩) s.ds.length d1, .slice D2 s.cs.length d2, .slice D3 s.ms.length d3, .slice D4 s.al.length d4, .slice D5 s.hd.length d5], by rw [HF.out], ?_, BW⟩
      have hrs : rnS s (j : Int) t = ⟨s.ds.set j ⟨t, d.ps, d.body⟩, s.cs, s.ms, s.al, s.hd⟩ := by
        unfold rnS
        rw [HF.out, if_pos rfl, Int.toNat_natCast, List.getD_eq_getElem?_getD, HD.out]
        rfl
      rw [hrs]
      refine syO.more (syO.keep HSY.out (SO _ fun h => ?_)) fun b h => ?_
      · have h1 : wo.heap.size ≤ w.heap.size + 1 := h.1
        omega
      · rw [hsz]
        have h1 : wo.heap.size ≤ b := h.1
        have h2 : b < w6.heap.size := h.2
        exact ⟨by omega, by omega⟩
theorem sRenR (k : Int) (t : ByteArray) {x : Sy} {cs : List Value} {w : World} {S : Nat → Prop} (tz : t.size ≤ maxLen) (h : syR.R w S x cs) (hS : ∀ b, S b → b < w.heap.size) (ok : okSy x) :
    Calls Tryz.prog 24 #[.agg cs.toArray, .int .i64 k, .string t] w (RetS2 (rnS x k t) (rnC x k t) w) := by
  obtain ⟨A1, c1, A2, c2, A3, c3, A4, c4, A5, c5, rfl, ⟨p1, q1, r1⟩, ⟨p2, q2, r2⟩, ⟨p3, q3, r3⟩, ⟨p4, q4, r4⟩, ⟨p5, q5, r5⟩⟩ := h
  exact specRen_any x k t A1 A2 A3 A4 A5 c1 c2 c3 c4 c5 w S r1 r2 r3 r4 r5 hS ok tz
theorem iRenR (k : Int) (t : ByteArray) {x : Sy} {cs : List Value} {w : World} {S : Nat → Prop} (tz : t.size ≤ maxLen) (h : syR.R w S x cs) (hS : ∀ b, S b → b < w.heap.size) (ok : okSy x) (ht : FormTab w) :
    Calls Tryz.prog 25 #[.agg cs.toArray, .int .i64 k, .string t] w (RetS2 (rnS x k t) (rnC x k t) w) := by
  obtain ⟨A1, c1, A2, c2, A3, c3, A4, c4, A5, c5, rfl, ⟨p1, q1, r1⟩, ⟨p2, q2, r2⟩, ⟨p3, q3, r3⟩, ⟨p4, q4, r4⟩, ⟨p5, q5, r5⟩⟩ := h
  exact implRen_any x k t A1 A2 A3 A4 A5 c1 c2 c3 c4 c5 w S r1 r2 r3 r4 r5 hS ok tz ht
end Go.Proofs.YtdgcpaeneafejaaGreatDoor
