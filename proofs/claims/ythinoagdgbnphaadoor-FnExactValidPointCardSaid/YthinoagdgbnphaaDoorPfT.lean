/- The table of the forms of parts as the card lays it reads, cell by cell, as the program's text says. -/
import Derived.Test.YthinoagdgbnphaaDoorRows
import Derived.WalkKit
import Derived.ProofKit
import Derived.LaidMore
import Derived.OpenShut
import Derived.ChangeVars
import Derived.OpenVars
import Derived.Stop.Joined
import Derived.ChangeArms
import Derived.Test.YthinoagdgbnphaaDoorPxA
namespace Go.Proofs.YthinoagdgbnphaaDoor
open Go.ChangeShapes Go.WideShapes Go.ChangeAt Go.WideMaps Go.WideElems Go.RowKit
abbrev pfName : String := "loop.example/g01075/impl.partForms"
theorem pfNamed : Tryd.prog.globalNamed pfName = some 0 := by kernel_rfl
theorem pfType : (Tryd.prog.globals[(0 : Nat)]?).map (·.type) = some 106 := by kernel_rfl
theorem pfCells : Tryd.prog.cellsOf 105 = 4 := by kernel_rfl
theorem take_four {cs : List Value} {i : Nat} {v0 v1 v2 v3 : Value} (h : (cs.drop (i * 4)).take 4 = [v0, v1, v2, v3]) : cs[i * 4]? = some v0 ∧ cs[i * 4 + 1]? = some v1 ∧ cs[i * 4 + 2]? = some v2 ∧ cs[i * 4 + 3]? = some v3 := by
  have g : ∀ j, j < 4 → cs[i * 4 + j]? = [v0, v1, v2, v3][j]? := fun j hj => by rw [← h, List.getElem?_take, if_pos hj, List.getElem?_drop]
  exact ⟨g 0 (by omega), g 1 (by omega), g 2 (by omega), g 3 (by omega)⟩
/-- An array of structs of three bools and a number that is laid reads as its datum says. -/
theorem laid_pforms {H : Type} {enc : TypeId × Value → H} {P : Program} {w : World} {base fuel n : Nat} {spare : Nat → Bool} {held : Bool} {t e : TypeId} {f0 f1 f2 f3 : Field} {cs : List Value} {ds : List (DataW H)} {q : List MemPlace}
    (ht : P.underlying t = some (.array n e)) (he : P.underlying e = some (.struct #[f0, f1, f2, f3])) (ce : P.cellsOf e = 4) (o0 : f0.offset = 0) (o1 : f1.offset = 1) (o2 : f2.offset = 2) (o3 : f3.offset = 3)
    (c0 : P.cellsOf f0.type = 1) (c1 : P.cellsOf f1.type = 1) (c2 : P.cellsOf f2.type = 1) (c3 : P.cellsOf f3.type = 1) (q0 : P.underlying f0.type = some .bool) (q1 : P.underlying f1.type = some .bool) (q2 : P.underlying f2.type = some .bool) (q3 : P.underlying f3.type = some (.int .i64))
    (h : DataW.trod enc P w base spare held fuel t cs = some (.agg ds, q)) :
    ∀ i, i < n → ∃ (a b c : Bool) (l : Int), cs[i * 4]? = some (.bool a) ∧ cs[i * 4 + 1]? = some (.bool b) ∧ cs[i * 4 + 2]? = some (.bool c) ∧ cs[i * 4 + 3]? = some (.int .i64 l) ∧ ds[i]? = some (.agg [.lit (.bool a), .lit (.bool b), .lit (.bool c), .lit (.int .i64 l)]) := by
  obtain ⟨xs, m, rfl, hx, hl, hn, hel⟩ := DataW.trod_array ht h
  intro i hi
  have h1 := hel i hi
  have hx1 : xs[i]? = some xs[i] := List.getElem?_eq_getElem (by omega)
  rw [hx1, ce] at h1
  obtain ⟨ys, k, hk, hxy, hlen, hyl, hf⟩ := DataW.trod_struct he h1
  rcases hcs : (cs.drop (i * 4)).take 4 with _ | ⟨v0, _ | ⟨v1, _ | ⟨v2, _ | ⟨v3, _ | ⟨v4, rest⟩⟩⟩⟩⟩
  · rw [hcs, ce] at hlen; simp at hlen
  · rw [hcs, ce] at hlen; simp at hlen
  · rw [hcs, ce] at hlen; simp at hlen
  · rw [hcs, ce] at hlen; simp at hlen
  · rw [hcs] at hf
    match ys, hyl with
    | [y0, y1, y2, y3], _ =>
      have g0 := hf 0 f0 rfl
      have g1 := hf 1 f1 rfl
      have g2 := hf 2 f2 rfl
      have g3 := hf 3 f3 rfl
      simp [o0, o1, o2, o3, c0, c1, c2, c3] at g0 g1 g2 g3
      obtain ⟨a, e0, r0⟩ := DataW.trod_bool q0 g0
      obtain ⟨b, e1, r1⟩ := DataW.trod_bool q1 g1
      obtain ⟨c, e2, r2⟩ := DataW.trod_bool q2 g2
      obtain ⟨l, e3, r3, _⟩ := DataW.trod_int q3 g3
      injection e0 with e0
      injection e1 with e1
      injection e2 with e2
      injection e3 with e3
      subst e0; subst e1; subst e2; subst e3
      obtain ⟨d0, d1, d2, d3⟩ := take_four hcs
      refine ⟨a, b, c, l, d0, d1, d2, d3, ?_⟩
      have hx := congrArg Prod.fst hx
      simp only [DataW.agg.injEq] at hx
      rw [hx, List.getElem?_map, hx1]
      show some (xs[i]).1 = _
      rw [hxy]
      subst r0; subst r1; subst r2; subst r3
      rfl
  · have : ((cs.drop (i * 4)).take 4).length ≤ 4 := List.length_take_le _ _
    rw [hcs] at this; simp at this
theorem formTab_of {L : List (String × DataW Unit)} (hl : L = [(pfName, Rows.laid_loop_example_g01075_impl_partForms)]) {W : World} (h : laidMetH Tryd.prog L W) : FormTab W := by
  subst hl
  rw [MakeChecks.laidMetH_plain _ _ _ (by kernel_rfl)] at h
  obtain ⟨ps, ⟨g0, t0, cs0, f0, p0, q0, hg0, ht0, hv0, hd0, _⟩, _⟩ := h
  obtain rfl := Option.some.inj (pfNamed.symm.trans hg0)
  obtain rfl := Option.some.inj (pfType.symm.trans ht0)
  intro k hk
  obtain ⟨a, b, c, l, hc0, hc1, hc2, hc3, hdu⟩ := laid_pforms Tryd.underlying106 Tryd.underlying105 pfCells rfl rfl rfl rfl (by kernel_rfl) (by kernel_rfl) (by kernel_rfl) (by kernel_rfl) Tryd.underlying4 Tryd.underlying4 Tryd.underlying4 Tryd.underlying3 hd0 k hk
  have e : a = fmN k ∧ b = fmM k ∧ c = fmA k ∧ l = fmF k := by
    have h6 : k = 0 ∨ k = 1 ∨ k = 2 ∨ k = 3 ∨ k = 4 ∨ k = 5 := by omega
    rcases h6 with rfl | rfl | rfl | rfl | rfl | rfl <;>
      (injection hdu with hdu
       injection hdu with hdu
       injection hdu with h1 hdu
       injection hdu with h2 hdu
       injection hdu with h3 hdu
       injection hdu with h4 hdu
       injection h1 with h1
       injection h1 with h1
       injection h2 with h2
       injection h2 with h2
       injection h3 with h3
       injection h3 with h3
       injection h4 with h4
       injection h4 with _ h4
       exact ⟨h1.symm, h2.symm, h3.symm, h4.symm⟩)
  obtain ⟨rfl, rfl, rfl, rfl⟩ := e
  refine ⟨?_, ?_, ?_, ?_⟩
  · rw [World.var?_cell hg0 hv0 _, ← hc0]; simp
  · rw [World.var?_cell hg0 hv0 _, ← hc1]; simp
  · rw [World.var?_cell hg0 hv0 _, ← hc2]; simp
  · rw [World.var?_cell hg0 hv0 _, ← hc3]; simp
end Go.Proofs.YthinoagdgbnphaaDoor
