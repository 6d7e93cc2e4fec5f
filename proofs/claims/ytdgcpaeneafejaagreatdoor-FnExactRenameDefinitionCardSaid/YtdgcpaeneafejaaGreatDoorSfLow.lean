/- Which systems are valid: plain mathematics. -/
/- The table of the forms of parts as the card lays it reads, cell by cell, as the program's text says. -/
/- Points: what they are and how they are read. -/
import Derived.WalkKit
import Derived.Lib.Hide
import Derived.Test.YtdgcpaeneafejaaGreatDoorSameM
import Derived.Test.YtdgcpaeneafejaaGreatDoorEvLow
import Derived.Test.YtdgcpaeneafejaaGreatDoorRows
import Derived.ProofKit
import Derived.LaidMore
import Derived.OpenShut
import Derived.ChangeVars
import Derived.OpenVars
import Derived.Stop.Joined
import Derived.ChangeArms
import Derived.Test.YtdgcpaeneafejaaGreatDoorPxAD
import Derived.Test.YtdgcpaeneafejaaGreatDoorDatI
import Derived.Test.YtdgcpaeneafejaaGreatDoorLow
namespace Go.Proofs.YtdgcpaeneafejaaGreatDoor
open Go.RowKit
theorem bl_irrefl : ∀ l : List UInt8, Op.bytesLess l l = false
  | [] => rfl
  | a :: l => by
    unfold Op.bytesLess
    rw [bl_irrefl l, Bool.and_false, Bool.or_false]
    exact decide_eq_false (by simp [UInt8.lt_irrefl])
theorem bl_asymm : ∀ {x y : List UInt8}, Op.bytesLess x y = true → Op.bytesLess y x = false
  | [], [], h => by simp [Op.bytesLess] at h
  | [], _ :: _, _ => by simp [Op.bytesLess]
  | _ :: _, [], h => by simp [Op.bytesLess] at h
  | a :: x, b :: y, h => by
    unfold Op.bytesLess at h ⊢
    rw [Bool.or_eq_true, Bool.and_eq_true] at h
    rw [Bool.or_eq_false_iff]
    rcases h with h | ⟨h1, h2⟩
    · have h' := of_decide_eq_true h
      refine ⟨decide_eq_false fun h3 => absurd (UInt8.lt_trans h' h3) (UInt8.lt_irrefl a), ?_⟩
      have : (b == a) = false := by
        rw [Bool.eq_false_iff]
        intro e
        rw [beq_iff_eq] at e
        rw [e] at h'; exact UInt8.lt_irrefl a h'
      rw [this]; rfl
    · have e : a = b := by simpa using h1
      subst e
      exact ⟨decide_eq_false (by simp [UInt8.lt_irrefl]), by rw [bl_asymm h2]; simp⟩
theorem bl_tri : ∀ {x y : List UInt8}, Op.bytesLess x y = false → Op.bytesLess y x = false → x = y
  | [], [], _, _ => rfl
  | [], _ :: _, h, _ => by simp [Op.bytesLess] at h
  | _ :: _, [], _, h => by simp [Op.bytesLess] at h
  | a :: x, b :: y, h1, h2 => by
    unfold Op.bytesLess at h1 h2
    rw [Bool.or_eq_false_iff] at h1 h2
    have k1 := of_decide_eq_false h1.1
    have k2 := of_decide_eq_false h2.1
    have e : a = b := UInt8.le_antisymm (UInt8.not_lt.1 k2) (UInt8.not_lt.1 k1)
    subst e
    rw [beq_self_eq_true, Bool.true_and] at h1 h2
    rw [bl_tri h1.2 h2.2]
def lsB (a b : ByteArray) : Bool := Op.bytesLess a.toList b.toList
def eqB (a b : ByteArray) : Bool := a.toList == b.toList
theorem lsB_irrefl (a : ByteArray) : lsB a a = false := bl_irrefl _
theorem lsB_asymm {a b : ByteArray} (h : lsB a b = true) : lsB b a = false := bl_asymm h
theorem eqB_tri {a b : ByteArray} (h : lsB a b = false) : eqB a b = !(lsB b a) := by
  unfold eqB
  rcases e : lsB b a with _ | _
  · rw [bl_tri h e]; simp
  · rw [Bool.not_true, Bool.eq_false_iff]
    intro h2
    have h3 : a.toList = b.toList := by simpa using h2
    unfold lsB at e
    rw [h3, bl_irrefl] at e; cases e
theorem eqB_less {a b : ByteArray} (h : lsB a b = true) : eqB a b = false := by
  unfold eqB
  rw [Bool.eq_false_iff]
  intro h2
  have h3 : a.toList = b.toList := by simpa using h2
  unfold lsB at h
  rw [h3, bl_irrefl] at h; cases h
/-- Go's test 'greater' on texts is 'less' the other way round. -/
theorem gtr_eq (a b : ByteArray) : (!(lsB a b || eqB a b)) = lsB b a := by
  rcases e : lsB a b with _ | _
  · rw [eqB_tri e]; simp
  · rw [lsB_asymm e]; rfl
theorem leq_eq (a b : ByteArray) : (lsB a b || eqB a b) = !(lsB b a) := by
  rw [← gtr_eq a b]; simp
def cmS (a b : ByteArray) : Int := if lsB a b = true then -1 else if lsB b a = true then 1 else 0
def cmMt (a b : Mt) : Int := if cmS a.l b.l = 0 then cmS a.r b.r else cmS a.l b.l
/-- Each element is less than the next one. -/
def inc {α : Type} (c : α → α → Int) : List α → Bool
  | [] => true
  | [_] => true
  | x :: y :: r => decide (c x y < 0) && inc c (y :: r)
theorem inc_snoc {α : Type} (c : α → α → Int) : ∀ (l : List α) (x y : α), inc c (l ++ [x, y]) = (inc c (l ++ [x]) && decide (c x y < 0))
  | [], x, y => by simp [inc]
  | [a], x, y => by simp [inc]
  | a :: b :: l, x, y => by
    have h := inc_snoc c (b :: l) x y
    simp only [List.cons_append] at h ⊢
    simp only [inc]
    rw [h, Bool.and_assoc]
theorem inc_step {α : Type} {c : α → α → Int} {xs : List α} {k : Nat} {x y : α} (hx : xs[k]? = some x) (hy : xs[k + 1]? = some y) : inc c (xs.take (k + 2)) = (inc c (xs.take (k + 1)) && decide (c x y < 0)) := by
  rw [take_one _ _ _ hy, take_one _ _ _ hx, List.append_assoc]
  exact inc_snoc c _ x y
theorem inc_pre {α : Type} (c : α → α → Int) : ∀ (l r : List α), inc c (l ++ r) = true → inc c l = true
  | [], _, _ => rfl
  | [_], _, _ => rfl
  | a :: b :: l, r, h => by
    simp only [List.cons_append, inc] at h ⊢
    rw [Bool.and_eq_true] at h ⊢
    exact ⟨h.1, inc_pre c (b :: l) r h.2⟩
theorem inc_bad {α : Type} {c : α → α → Int} {xs : List α} {k : Nat} {x y : α} (hx : xs[k]? = some x) (hy : xs[k + 1]? = some y) (h : ¬ c x y < 0) : inc c xs = false := by
  rcases e : inc c xs with _ | _
  · rfl
  · have h1 := inc_pre c (xs.take (k + 2)) (xs.drop (k + 2)) (by rw [List.take_append_drop]; exact e)
    rw [inc_step hx hy, decide_eq_false h] at h1
    simp at h1
theorem inc_short {α : Type} (c : α → α → Int) (xs : List α) : inc c (xs.take 1) = true := by
  rcases xs with _ | ⟨x, xs⟩ <;> simp [inc]
noncomputable def cpB (ls : List Df) (c : Cp) : Bool := idxB c.d ls.length && (((c.vs.length : Int) == (ls.getD c.d.toNat default).ps) && dataB c.vs)
noncomputable def csB (ls : List Df) (cs : List Cp) : Bool := decide (1 ≤ cs.length) && (decide (cs.length ≤ 3) && cs.all (cpB ls))
noncomputable def mtA (m : Mt) : Bool := actionB m.l.data.toList && (actionB m.r.data.toList && (actionB m.s.data.toList && !(lsB m.r m.l)))
def jn (ms : List Mt) (t : ByteArray) : Bool := ms.any fun o => eqB t o.l || eqB t o.r
noncomputable def msB (ms : List Mt) : Bool := decide (ms.length ≤ 6) && (inc cmMt ms && (ms.all mtA && ms.all fun m => !(jn ms m.s)))
noncomputable def nmsB (l : List ByteArray) : Bool := decide (l.length ≤ 12) && (inc cmS l && l.all fun t => actionB t.data.toList)
noncomputable def sfC (s : Sy) : Int := if vdB s.ds = false then 1 else if csB s.ds s.cs = false then 2 else if msB s.ms = false then 3 else if nmsB s.al = false then 4 else if nmsB s.hd = false then 5 else 0
noncomputable def vsB (s : Sy) : Bool := sfC s == 0
theorem all_take_next {α : Type} {p : α → Bool} {xs : List α} {k : Nat} {x : α} (h : (xs.take k).all p = true) (hx : xs[k]? = some x) (hp : p x = true) : (xs.take (k + 1)).all p = true := by
  rw [take_one _ _ _ hx, List.all_append, h]; simp [hp]
theorem all_false {α : Type} {p : α → Bool} {xs : List α} {k : Nat} {x : α} (hx : xs[k]? = some x) (hp : p x = false) : xs.all p = false := by
  rw [Bool.eq_false_iff]
  intro h
  have := (List.all_eq_true.1 h) x (List.mem_of_getElem? hx)
  rw [hp] at this; cases this
theorem any_take_next {α : Type} {p : α → Bool} {xs : List α} {k : Nat} {x : α} (h : (xs.take k).any p = false) (hx : xs[k]? = some x) (hp : p x = false) : (xs.take (k + 1)).any p = false := by
  rw [take_one _ _ _ hx, List.any_append, h]; simp [hp]
theorem any_true {α : Type} {p : α → Bool} {xs : List α} {k : Nat} {x : α} (hx : xs[k]? = some x) (hp : p x = true) : xs.any p = true :=
  List.any_eq_true.2 ⟨x, List.mem_of_getElem? hx, hp⟩
end Go.Proofs.YtdgcpaeneafejaaGreatDoor

namespace Go.Proofs.YtdgcpaeneafejaaGreatDoor
open Go.ChangeShapes Go.WideShapes Go.ChangeAt Go.WideMaps Go.WideElems Go.RowKit
abbrev pfName : String := "loop.example/g01075/impl.partForms"
theorem pfNamed : Tryz.prog.globalNamed pfName = some 0 := by kernel_rfl
theorem pfType : (Tryz.prog.globals[(0 : Nat)]?).map (·.type) = some 207 := by kernel_rfl
theorem pfCells : Tryz.prog.cellsOf 206 = 4 := by kernel_rfl
theorem take_four {cs : List Value} {i : Nat} {v0 v1 v2 v3 : Value} (h : (cs.drop (i * 4)).take 4 = [v0, v1, v2, v3]) : cs[i * 4]? = some v0 ∧ cs[i * 4 + 1]? = some v1 ∧ cs[i * 4 + 2]? = some v2 ∧ cs[i * 4 + 3]? = some v3 := by
  have g : ∀ j, j < 4 → cs[i * 4 + j]? = [v0, v1, v2, v3][j]? := fun j hj => by rw [← h, List.getElem?_take, if_pos hj, List.getElem?_drop]
  exact ⟨g 0 (by omega), g 1 (by omega), g 2 (by omega), g 3 (by omega)⟩
/-- An array of structs of three bools and a number that is laid reads as its datum says. -/
theorem laid_pforms {H : Type} {enc : TypeId × Value → H} {P : Program} {w : World} {base fuel n : Nat} {spare : Nat → Bool} {held : Bool} {t e : TypeId} {f0 f1 f2 f3 : Field} {cs : List Value} {ds : List (DataW H)} {q : List MemPlace}
    (ht : P.underlying t = some (.array n e)) (he : P.underlying e = some (.struct #[f0, f1, f2, f3])) (ce : P.cellsOf e = 4) (o0 : f0.offset = 0) (o1 : f1.offset = 1) (o2 : f2.offset = 2) (o3 : f3.offset = 3)
    (c0 : P.cellsOf f0.type = 1) (c1 : P.cellsOf f1.type = 1) (c2 : P.cellsOf f2.type = 1) (c3 : P.cellsOf f3.type = 1) (q0 : P.underlying f0.type = some .bool) (q1 : P.underlying f1.type = some .bool) (q2 : P.underlying f2.type = some .bool) (q3 : P.underlying f3.type = some (.int .i64))
    (h : DataW.trod enc P w base spare held fuel t cs = some (.agg ds, q)) :
    ∀ i, i < n → ∃ (a b c : Bool) (l : Int), cs[i * 4]? = some (.bool a) ∧ cs[i * 4 + 1]? = some (.bool b) ∧ cs[i * 4 + 2]? = some (.bool c) ∧ cs[i * 4 + 3]? = some (.int .i64 l) ∧ ds[i]? = some (.agg [.lit (.bool a), .lit (.bool b), .lit (.bool c), .lit (.int .i64 l)]) := by
  obtain ⟨xs, m, rfl, hx, hl, hn, hel⟩ := DataW.trod_array ht h
  intro i hi
  have h1 := hel i hi
  have hx1 : xs[i]? = some xs[i] := List.getElem?_eq_getElem (by omega)
  rw [hx1, ce] at h1
  obtain ⟨ys, k, hk, hxy, hlen, hyl, hf⟩ := DataW.trod_struct he h1
  rcases hcs : (cs.drop (i * 4)).take 4 with _ | ⟨v0, _ | ⟨v1, _ | ⟨v2, _ | ⟨v3, _ | ⟨v4, rest⟩⟩⟩⟩⟩
  · rw [hcs, ce] at hlen; simp at hlen
  · rw [hcs, ce] at hlen; simp at hlen
  · rw [hcs, ce] at hlen; simp at hlen
  · rw [hcs, ce] at hlen; simp at hlen
  · rw [hcs] at hf
    match ys, hyl with
    | [y0, y1, y2, y3], _ =>
      have g0 := hf 0 f0 rfl
      have g1 := hf 1 f1 rfl
      have g2 := hf 2 f2 rfl
      have g3 := hf 3 f3 rfl
      simp [o0, o1, o2, o3, c0, c1, c2, c3] at g0 g1 g2 g3
      obtain ⟨a, e0, r0⟩ := DataW.trod_bool q0 g0
      obtain ⟨b, e1, r1⟩ := DataW.trod_bool q1 g1
      obtain ⟨c, e2, r2⟩ := DataW.trod_bool q2 g2
      obtain ⟨l, e3, r3, _⟩ := DataW.trod_int q3 g3
      injection e0 with e0
      injection e1 with e1
      injection e2 with e2
      injection e3 with e3
      subst e0; subst e1; subst e2; subst e3
      obtain ⟨d0, d1, d2, d3⟩ := take_four hcs
      refine ⟨a, b, c, l, d0, d1, d2, d3, ?_⟩
      have hx := congrArg Prod.fst hx
      simp only [DataW.agg.injEq] at hx
      rw [hx, List.getElem?_map, hx1]
      show some (xs[i]).1 = _
      rw [hxy]
      subst r0; subst r1; subst r2; subst r3
      rfl
  · have : ((cs.drop (i * 4)).take 4).length ≤ 4 := List.length_take_le _ _
    rw [hcs] at this; simp at this
theorem formTab_of {L : List (String × DataW Unit)} (hl : L = [(pfName, Rows.laid_loop_example_g01075_impl_partForms)]) {W : World} (h : laidMetH Tryz.prog L W) : FormTab W := by
  subst hl
  rw [MakeChecks.laidMetH_plain _ _ _ (by kernel_rfl)] at h
  obtain ⟨ps, ⟨g0, t0, cs0, f0, p0, q0, hg0, ht0, hv0, hd0, _⟩, _⟩ := h
  obtain rfl := Option.some.inj (pfNamed.symm.trans hg0)
  obtain rfl := Option.some.inj (pfType.symm.trans ht0)
  intro k hk
  obtain ⟨a, b, c, l, hc0, hc1, hc2, hc3, hdu⟩ := laid_pforms Tryz.underlying207 Tryz.underlying206 pfCells rfl rfl rfl rfl (by kernel_rfl) (by kernel_rfl) (by kernel_rfl) (by kernel_rfl) Tryz.underlying4 Tryz.underlying4 Tryz.underlying4 Tryz.underlying3 hd0 k hk
  have e : a = fmN k ∧ b = fmM k ∧ c = fmA k ∧ l = fmF k := by
    have h6 : k = 0 ∨ k = 1 ∨ k = 2 ∨ k = 3 ∨ k = 4 ∨ k = 5 := by omega
    rcases h6 with rfl | rfl | rfl | rfl | rfl | rfl <;>
      (injection hdu with hdu
       injection hdu with hdu
       injection hdu with h1 hdu
       injection hdu with h2 hdu
       injection hdu with h3 hdu
       injection hdu with h4 hdu
       injection h1 with h1
       injection h1 with h1
       injection h2 with h2
       injection h2 with h2
       injection h3 with h3
       injection h3 with h3
       injection h4 with h4
       injection h4 with _ h4
       exact ⟨h1.symm, h2.symm, h3.symm, h4.symm⟩)
  obtain ⟨rfl, rfl, rfl, rfl⟩ := e
  refine ⟨?_, ?_, ?_, ?_⟩
  · rw [World.var?_cell hg0 hv0 _, ← hc0]; simp
  · rw [World.var?_cell hg0 hv0 _, ← hc1]; simp
  · rw [World.var?_cell hg0 hv0 _, ← hc2]; simp
  · rw [World.var?_cell hg0 hv0 _, ← hc3]; simp
end Go.Proofs.YtdgcpaeneafejaaGreatDoor

namespace Go.Proofs.YtdgcpaeneafejaaGreatDoor
open Go.RowKit Go.Deep
structure Pn where
  d : Int
  pt : Int
  vs : List Int
instance : Inhabited Pn := ⟨⟨0, 0, []⟩⟩
def pnR : Rec Pn where
  R w S x vs := ∃ A c, vs = [.int .i64 x.d, .int .i64 x.pt, .slice A x.vs.length c] ∧ x.vs.length ≤ c ∧ c ≤ maxLen ∧ LRow intR w S A x.vs
  width := 3
  pos := by decide
  len h := by obtain ⟨A, c, rfl, _⟩ := h; rfl
  keep h hk := by obtain ⟨A, c, e, h1, h2, h3⟩ := h; exact ⟨A, c, e, h1, h2, h3.keep hk⟩
  more h hS := by obtain ⟨A, c, e, h1, h2, h3⟩ := h; exact ⟨A, c, e, h1, h2, h3.more hS⟩
def okPn (c : Pn) : Prop := okList okAny c.vs
def wtPn (c : Pn) : Nat := wL wtZ c.vs
def pnO : Owd Pn where
  F := pnR
  O w S x vs := ∃ A c, vs = [.int .i64 x.d, .int .i64 x.pt, .slice A x.vs.length c] ∧ OL intO 2 w S A x.vs.length c x.vs
  rd h := by obtain ⟨A, c, rfl, h⟩ := h; exact ⟨A, c, rfl, h.cap.1, h.cap.2, h.lrow⟩
  keep h hk := by obtain ⟨A, c, rfl, h⟩ := h; exact ⟨A, c, rfl, h.keep hk⟩
  more h hS := by obtain ⟨A, c, rfl, h⟩ := h; exact ⟨A, c, rfl, h.more hS⟩
def pnM : Mk Pn := ⟨fun k x => ⟨k, k + 1, mkL intM (k + 1 + 1) x.vs⟩, fun x => 2 + cntL intM x.vs⟩
theorem reads_pn {H : Type} {P : Program} {enc : TypeId × Value → H} {W : World} {held : Bool} {t : TypeId} {f0 f1 f2 : Field} (ht : P.underlying t = some (.struct #[f0, f1, f2])) (hone : Go.Deep.oneCellFields P #[f0, f1, f2] = true) (hC : P.cellsOf t = 3) (h0 : Reads enc P W held intR f0.type) (h1 : Reads enc P W held intR f1.type) (h2 : Reads enc P W held (listR intR) f2.type) : Reads enc P W held pnR t := by
  intro fuel cs x hx
  obtain ⟨xs, n, _, rfl, hcl, hxl, hf⟩ := DataW.trod_struct ht hx
  obtain ⟨o0, k0⟩ := Go.Deep.hone_of hone 0 f0 rfl
  obtain ⟨o1, k1⟩ := Go.Deep.hone_of hone 1 f1 rfl
  obtain ⟨o2, k2⟩ := Go.Deep.hone_of hone 2 f2 rfl
  match xs, hxl, cs, hcl.trans hC with
  | [y0, y1, y2], _, [c0, c1, c2], _ =>
    have g0 := hf 0 f0 rfl
    have g1 := hf 1 f1 rfl
    have g2 := hf 2 f2 rfl
    simp [o0, k0] at g0
    simp [o1, k1] at g1
    simp [o2, k2] at g2
    obtain ⟨n0, e0⟩ := h0 _ _ _ g0
    obtain ⟨n1, e1⟩ := h1 _ _ _ g1
    obtain ⟨n2, A, c, e2, z1, z2, z3⟩ := h2 _ _ _ g2
    injection e0 with e0
    injection e1 with e1
    injection e2 with e2
    subst e0 e1 e2
    exact ⟨⟨n0, n1, n2⟩, A, c, rfl, z1, z2, z3⟩
noncomputable def fitB (ls : List Df) (x : Pn) : Bool := idxB x.d ls.length && (idxB x.pt (ls.getD x.d.toNat default).body.length && (!((anAt ls x.d x.pt).p.k == 5) && (((x.vs.length : Int) == (anAt ls x.d x.pt).s) && dataB x.vs)))
noncomputable def vpB (ls : List Df) (x : Pn) : Bool := vdB ls && fitB ls x
end Go.Proofs.YtdgcpaeneafejaaGreatDoor
