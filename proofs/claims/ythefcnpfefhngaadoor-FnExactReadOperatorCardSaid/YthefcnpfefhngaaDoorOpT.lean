/- The table of operators as the card lays it reads, cell by cell, as the program's text says. -/
import Derived.Test.YthefcnpfefhngaaDoorRows
import Derived.WalkKit
import Derived.ProofKit
import Derived.LaidMore
import Derived.OpenShut
import Derived.ChangeVars
import Derived.OpenVars
import Derived.Stop.Joined
import Derived.ChangeArms
import Derived.Test.YthefcnpfefhngaaDoorOpW
namespace Go.Proofs.YthefcnpfefhngaaDoor
open Go.ChangeShapes Go.WideShapes Go.ChangeAt Go.WideMaps Go.WideElems Go.RowKit
abbrev fName : String := "loop.example/g01075/impl.operatorForms"
theorem fNamed : Tryd.prog.globalNamed fName = some 0 := by kernel_rfl
theorem fType : (Tryd.prog.globals[(0 : Nat)]?).map (·.type) = some 42 := by kernel_rfl
theorem fCells : Tryd.prog.cellsOf 41 = 3 := by kernel_rfl
theorem bytes_same {s t : ByteArray} (h : s.data.toList = t.data.toList) : s = t := by
  cases s; cases t; simp at h; exact congrArg ByteArray.mk (Array.ext' (by simpa using h))
theorem take_three {cs : List Value} {i : Nat} {v0 v1 v2 : Value} (h : (cs.drop (i * 3)).take 3 = [v0, v1, v2]) : cs[i * 3]? = some v0 ∧ cs[i * 3 + 1]? = some v1 ∧ cs[i * 3 + 2]? = some v2 := by
  have g : ∀ j, j < 3 → cs[i * 3 + j]? = [v0, v1, v2][j]? := fun j hj => by rw [← h, List.getElem?_take, if_pos hj, List.getElem?_drop]
  exact ⟨g 0 (by omega), g 1 (by omega), g 2 (by omega)⟩
/-- An array of structs of a string, a number and a bool that is laid reads as its datum says. -/
theorem laid_forms {H : Type} {enc : TypeId × Value → H} {P : Program} {w : World} {base fuel n : Nat} {spare : Nat → Bool} {held : Bool} {t e : TypeId} {f0 f1 f2 : Field} {cs : List Value} {ds : List (DataW H)} {q : List MemPlace}
    (ht : P.underlying t = some (.array n e)) (he : P.underlying e = some (.struct #[f0, f1, f2])) (ce : P.cellsOf e = 3) (o0 : f0.offset = 0) (o1 : f1.offset = 1) (o2 : f2.offset = 2)
    (c0 : P.cellsOf f0.type = 1) (c1 : P.cellsOf f1.type = 1) (c2 : P.cellsOf f2.type = 1) (q0 : P.underlying f0.type = some .string) (q1 : P.underlying f1.type = some (.int .i64)) (q2 : P.underlying f2.type = some .bool)
    (h : DataW.trod enc P w base spare held fuel t cs = some (.agg ds, q)) :
    ∀ i, i < n → ∃ (s : ByteArray) (l : Int) (b : Bool), cs[i * 3]? = some (.string s) ∧ cs[i * 3 + 1]? = some (.int .i64 l) ∧ cs[i * 3 + 2]? = some (.bool b) ∧ ds[i]? = some (.agg [.lit (.string s.data.toList), .lit (.int .i64 l), .lit (.bool b)]) := by
  obtain ⟨xs, m, rfl, hx, hl, hn, hel⟩ := DataW.trod_array ht h
  intro i hi
  have h1 := hel i hi
  have hx1 : xs[i]? = some xs[i] := List.getElem?_eq_getElem (by omega)
  rw [hx1, ce] at h1
  obtain ⟨ys, k, hk, hxy, hlen, hyl, hf⟩ := DataW.trod_struct he h1
  rcases hcs : (cs.drop (i * 3)).take 3 with _ | ⟨v0, _ | ⟨v1, _ | ⟨v2, _ | ⟨v3, rest⟩⟩⟩⟩
  · rw [hcs, ce] at hlen; simp at hlen
  · rw [hcs, ce] at hlen; simp at hlen
  · rw [hcs, ce] at hlen; simp at hlen
  · rw [hcs] at hf
    match ys, hyl with
    | [y0, y1, y2], _ =>
      have g0 := hf 0 f0 rfl
      have g1 := hf 1 f1 rfl
      have g2 := hf 2 f2 rfl
      simp [o0, o1, o2, c0, c1, c2] at g0 g1 g2
      obtain ⟨s, e0, r0, _⟩ := DataW.trod_string q0 g0
      obtain ⟨l, e1, r1, _⟩ := DataW.trod_int q1 g1
      obtain ⟨b, e2, r2⟩ := DataW.trod_bool q2 g2
      injection e0 with e0
      injection e1 with e1
      injection e2 with e2
      subst e0; subst e1; subst e2
      obtain ⟨d0, d1, d2⟩ := take_three hcs
      refine ⟨s, l, b, d0, d1, d2, ?_⟩
      have hx := congrArg Prod.fst hx
      simp only [DataW.agg.injEq] at hx
      rw [hx, List.getElem?_map, hx1]
      show some (xs[i]).1 = _
      rw [hxy]
      subst r0; subst r1; subst r2
      rfl
  · have : ((cs.drop (i * 3)).take 3).length ≤ 3 := List.length_take_le _ _
    rw [hcs] at this; simp at this
theorem opTab_of {L : List (String × DataW Unit)} (hl : L = [(fName, Rows.laid_loop_example_g01075_impl_operatorForms)]) {W : World} (h : laidMetH Tryd.prog L W) : OpTab W := by
  subst hl
  rw [MakeChecks.laidMetH_plain _ _ _ (by kernel_rfl)] at h
  obtain ⟨ps, ⟨g0, t0, cs0, f0, p0, q0, hg0, ht0, hv0, hd0, _⟩, _⟩ := h
  obtain rfl := Option.some.inj (fNamed.symm.trans hg0)
  obtain rfl := Option.some.inj (fType.symm.trans ht0)
  intro k s l b hs hl hb
  have hk : k < 9 := (List.getElem?_eq_some_iff.1 hs).1
  obtain ⟨u, m, c, hc0, hc1, hc2, hdu⟩ := laid_forms Tryd.underlying42 Tryd.underlying41 fCells rfl rfl rfl (by kernel_rfl) (by kernel_rfl) (by kernel_rfl) Tryd.underlying9 Tryd.underlying2 Tryd.underlying4 hd0 k hk
  have e : u = s ∧ m = l ∧ c = b := by
    have h9 : k = 0 ∨ k = 1 ∨ k = 2 ∨ k = 3 ∨ k = 4 ∨ k = 5 ∨ k = 6 ∨ k = 7 ∨ k = 8 := by omega
    rcases h9 with rfl | rfl | rfl | rfl | rfl | rfl | rfl | rfl | rfl <;>
      (injection hs with hs; injection hl with hl; injection hb with hb; subst hs; subst hl; subst hb
       injection hdu with hdu
       injection hdu with hdu
       injection hdu with h1 hdu
       injection hdu with h2 hdu
       injection hdu with h3 hdu
       injection h1 with h1
       injection h1 with h1
       injection h2 with h2
       injection h2 with _ h2
       injection h3 with h3
       injection h3 with h3
       exact ⟨bytes_same h1.symm, h2.symm, h3.symm⟩)
  obtain ⟨rfl, rfl, rfl⟩ := e
  refine ⟨?_, ?_, ?_⟩
  · rw [World.var?_cell hg0 hv0 _, ← hc0]; simp
  · rw [World.var?_cell hg0 hv0 _, ← hc1]; simp
  · rw [World.var?_cell hg0 hv0 _, ← hc2]; simp
end Go.Proofs.YthefcnpfefhngaaDoor
