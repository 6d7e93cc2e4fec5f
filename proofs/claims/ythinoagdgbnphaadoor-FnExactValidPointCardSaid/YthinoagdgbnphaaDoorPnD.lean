/- Points: what they are and how they are read. -/
import Derived.Test.YthinoagdgbnphaaDoorDatI
import Derived.Test.YthinoagdgbnphaaDoorDatIn
import Derived.Test.YthinoagdgbnphaaDoorPeM
import Derived.Test.YthinoagdgbnphaaDoorEvM
namespace Go.Proofs.YthinoagdgbnphaaDoor
open Go.RowKit Go.Deep
structure Pn where
  d : Int
  pt : Int
  vs : List Int
instance : Inhabited Pn := ⟨⟨0, 0, []⟩⟩
def pnR : Rec Pn where
  R w S x vs := ∃ A c, vs = [.int .i64 x.d, .int .i64 x.pt, .slice A x.vs.length c] ∧ x.vs.length ≤ c ∧ c ≤ maxLen ∧ LRow intR w S A x.vs
  width := 3
  pos := by decide
  len h := by obtain ⟨A, c, rfl, _⟩ := h; rfl
  keep h hk := by obtain ⟨A, c, e, h1, h2, h3⟩ := h; exact ⟨A, c, e, h1, h2, h3.keep hk⟩
  more h hS := by obtain ⟨A, c, e, h1, h2, h3⟩ := h; exact ⟨A, c, e, h1, h2, h3.more hS⟩
def okPn (c : Pn) : Prop := okList okAny c.vs
theorem reads_pn {H : Type} {P : Program} {enc : TypeId × Value → H} {W : World} {held : Bool} {t : TypeId} {f0 f1 f2 : Field} (ht : P.underlying t = some (.struct #[f0, f1, f2])) (hone : Go.Deep.oneCellFields P #[f0, f1, f2] = true) (hC : P.cellsOf t = 3) (h0 : Reads enc P W held intR f0.type) (h1 : Reads enc P W held intR f1.type) (h2 : Reads enc P W held (listR intR) f2.type) : Reads enc P W held pnR t := by
  intro fuel cs x hx
  obtain ⟨xs, n, _, rfl, hcl, hxl, hf⟩ := DataW.trod_struct ht hx
  obtain ⟨o0, k0⟩ := Go.Deep.hone_of hone 0 f0 rfl
  obtain ⟨o1, k1⟩ := Go.Deep.hone_of hone 1 f1 rfl
  obtain ⟨o2, k2⟩ := Go.Deep.hone_of hone 2 f2 rfl
  match xs, hxl, cs, hcl.trans hC with
  | [y0, y1, y2], _, [c0, c1, c2], _ =>
    have g0 := hf 0 f0 rfl
    have g1 := hf 1 f1 rfl
    have g2 := hf 2 f2 rfl
    simp [o0, k0] at g0
    simp [o1, k1] at g1
    simp [o2, k2] at g2
    obtain ⟨n0, e0⟩ := h0 _ _ _ g0
    obtain ⟨n1, e1⟩ := h1 _ _ _ g1
    obtain ⟨n2, A, c, e2, z1, z2, z3⟩ := h2 _ _ _ g2
    injection e0 with e0
    injection e1 with e1
    injection e2 with e2
    subst e0 e1 e2
    exact ⟨⟨n0, n1, n2⟩, A, c, rfl, z1, z2, z3⟩
noncomputable def fitB (ls : List Df) (x : Pn) : Bool := idxB x.d ls.length && (idxB x.pt (ls.getD x.d.toNat default).body.length && (!((anAt ls x.d x.pt).p.k == 5) && (((x.vs.length : Int) == (anAt ls x.d x.pt).s) && dataB x.vs)))
noncomputable def vpB (ls : List Df) (x : Pn) : Bool := vdB ls && fitB ls x
end Go.Proofs.YthinoagdgbnphaaDoor
