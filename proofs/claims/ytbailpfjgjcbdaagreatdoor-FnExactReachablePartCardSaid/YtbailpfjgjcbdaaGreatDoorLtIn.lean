/- Transition systems that came in: what their cells read as. -/
import Derived.Test.YtbailpfjgjcbdaaGreatDoorDatIn
import Derived.Test.YtbailpfjgjcbdaaGreatDoorLow
namespace Go.Proofs.YtbailpfjgjcbdaaGreatDoor
open Go.RowKit
section
variable {H : Type} {enc : TypeId × Value → H} {P : Program} {W : World} {held : Bool}
theorem reads_ed {t : TypeId} {f0 f1 f2 : Field} (ht : P.underlying t = some (.struct #[f0, f1, f2])) (hone : Go.Deep.oneCellFields P #[f0, f1, f2] = true) (hC : P.cellsOf t = 3) (h0 : Reads enc P W held intR f0.type) (h1 : Reads enc P W held intR f1.type) (h2 : Reads enc P W held intR f2.type) : Reads enc P W held edR t := by
  intro fuel cs x hx
  obtain ⟨xs, n, _, rfl, hcl, hxl, hf⟩ := DataW.trod_struct ht hx
  obtain ⟨o0, k0⟩ := Go.Deep.hone_of hone 0 f0 rfl
  obtain ⟨o1, k1⟩ := Go.Deep.hone_of hone 1 f1 rfl
  obtain ⟨o2, k2⟩ := Go.Deep.hone_of hone 2 f2 rfl
  match xs, hxl, cs, hcl.trans hC with
  | [y0, y1, y2], _, [c0, c1, c2], _ =>
    have g0 := hf 0 f0 rfl
    have g1 := hf 1 f1 rfl
    have g2 := hf 2 f2 rfl
    simp [o0, k0] at g0
    simp [o1, k1] at g1
    simp [o2, k2] at g2
    obtain ⟨n0, e0⟩ := h0 _ _ _ g0
    obtain ⟨n1, e1⟩ := h1 _ _ _ g1
    obtain ⟨n2, e2⟩ := h2 _ _ _ g2
    injection e0 with e0
    injection e1 with e1
    injection e2 with e2
    subst e0 e1 e2
    exact ⟨⟨n0, n1, n2⟩, rfl⟩
theorem reads_lt {t : TypeId} {f0 f1 f2 f3 : Field} (ht : P.underlying t = some (.struct #[f0, f1, f2, f3])) (hone : Go.Deep.oneCellFields P #[f0, f1, f2, f3] = true) (hC : P.cellsOf t = 4) (h0 : Reads enc P W held intR f0.type) (h1 : Reads enc P W held intR f1.type) (h2 : Reads enc P W held (listR txtR) f2.type) (h3 : Reads enc P W held (listR edR) f3.type) : Reads enc P W held ltR t := by
  intro fuel cs x hx
  obtain ⟨xs, n, _, rfl, hcl, hxl, hf⟩ := DataW.trod_struct ht hx
  obtain ⟨o0, k0⟩ := Go.Deep.hone_of hone 0 f0 rfl
  obtain ⟨o1, k1⟩ := Go.Deep.hone_of hone 1 f1 rfl
  obtain ⟨o2, k2⟩ := Go.Deep.hone_of hone 2 f2 rfl
  obtain ⟨o3, k3⟩ := Go.Deep.hone_of hone 3 f3 rfl
  match xs, hxl, cs, hcl.trans hC with
  | [y0, y1, y2, y3], _, [c0, c1, c2, c3], _ =>
    have g0 := hf 0 f0 rfl
    have g1 := hf 1 f1 rfl
    have g2 := hf 2 f2 rfl
    have g3 := hf 3 f3 rfl
    simp [o0, k0] at g0
    simp [o1, k1] at g1
    simp [o2, k2] at g2
    simp [o3, k3] at g3
    obtain ⟨n0, e0⟩ := h0 _ _ _ g0
    obtain ⟨n1, e1⟩ := h1 _ _ _ g1
    obtain ⟨n2, A2, a2, e2, p2, q2, r2⟩ := h2 _ _ _ g2
    obtain ⟨n3, A3, a3, e3, p3, q3, r3⟩ := h3 _ _ _ g3
    injection e0 with e0
    injection e1 with e1
    injection e2 with e2
    injection e3 with e3
    subst e0 e1 e2 e3
    exact ⟨⟨n0, n1, n2, n3⟩, A2, a2, A3, a3, rfl, ⟨p2, q2, r2⟩, ⟨p3, q3, r3⟩⟩
end
/-- What a transition system that came in reads as. -/
theorem lts_in {H : Type} {enc : TypeId × Value → H} {W : World} {held : Bool} : Reads enc Tryz.prog W held ltR 25 := by
  have tx : Reads enc Tryz.prog W held txtR 9 := reads_txt Tryz.underlying9
  have txs : Reads enc Tryz.prog W held (listR txtR) 22 := reads_list txtR Tryz.underlying22 (by kernel_rfl) tx
  have ed : Reads enc Tryz.prog W held edR 84 := reads_ed Tryz.underlying84 (by kernel_rfl) (by kernel_rfl) (reads_int Tryz.underlying2) (reads_int Tryz.underlying2) (reads_int Tryz.underlying2)
  exact reads_lt Tryz.underlying25 (by kernel_rfl) (by kernel_rfl) (reads_int Tryz.underlying2) (reads_int Tryz.underlying2) txs (reads_list edR Tryz.underlying23 (by kernel_rfl) ed)
theorem ints_in {H : Type} {enc : TypeId × Value → H} {W : World} {held : Bool} : Reads enc Tryz.prog W held (listR intR) 26 := reads_list intR Tryz.underlying26 (by kernel_rfl) (reads_int Tryz.underlying2)
end Go.Proofs.YtbailpfjgjcbdaaGreatDoor
