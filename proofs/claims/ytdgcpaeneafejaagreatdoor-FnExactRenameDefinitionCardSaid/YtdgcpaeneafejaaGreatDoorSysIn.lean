/- Systems that came in: what their cells read as. -/
import Derived.Test.YtdgcpaeneafejaaGreatDoorLow
import Derived.Test.YtdgcpaeneafejaaGreatDoorSameM
namespace Go.Proofs.YtdgcpaeneafejaaGreatDoor
open Go.RowKit
section
variable {H : Type} {enc : TypeId × Value → H} {P : Program} {W : World} {held : Bool}
theorem reads_sy {t : TypeId} {f0 f1 f2 f3 f4 : Field} (ht : P.underlying t = some (.struct #[f0, f1, f2, f3, f4])) (hone : Go.Deep.oneCellFields P #[f0, f1, f2, f3, f4] = true) (hC : P.cellsOf t = 5) (h0 : Reads enc P W held (listR dfR) f0.type) (h1 : Reads enc P W held (listR cpR) f1.type) (h2 : Reads enc P W held (listR mtR) f2.type) (h3 : Reads enc P W held (listR txtR) f3.type) (h4 : Reads enc P W held (listR txtR) f4.type) : Reads enc P W held syR t := by
  intro fuel cs x hx
  obtain ⟨xs, n, _, rfl, hcl, hxl, hf⟩ := DataW.trod_struct ht hx
  obtain ⟨o0, k0⟩ := Go.Deep.hone_of hone 0 f0 rfl
  obtain ⟨o1, k1⟩ := Go.Deep.hone_of hone 1 f1 rfl
  obtain ⟨o2, k2⟩ := Go.Deep.hone_of hone 2 f2 rfl
  obtain ⟨o3, k3⟩ := Go.Deep.hone_of hone 3 f3 rfl
  obtain ⟨o4, k4⟩ := Go.Deep.hone_of hone 4 f4 rfl
  match xs, hxl, cs, hcl.trans hC with
  | [y0, y1, y2, y3, y4], _, [c0, c1, c2, c3, c4], _ =>
    have g0 := hf 0 f0 rfl
    have g1 := hf 1 f1 rfl
    have g2 := hf 2 f2 rfl
    have g3 := hf 3 f3 rfl
    have g4 := hf 4 f4 rfl
    simp [o0, k0] at g0
    simp [o1, k1] at g1
    simp [o2, k2] at g2
    simp [o3, k3] at g3
    simp [o4, k4] at g4
    obtain ⟨n0, A0, a0, e0, p0, q0, r0⟩ := h0 _ _ _ g0
    obtain ⟨n1, A1, a1, e1, p1, q1, r1⟩ := h1 _ _ _ g1
    obtain ⟨n2, A2, a2, e2, p2, q2, r2⟩ := h2 _ _ _ g2
    obtain ⟨n3, A3, a3, e3, p3, q3, r3⟩ := h3 _ _ _ g3
    obtain ⟨n4, A4, a4, e4, p4, q4, r4⟩ := h4 _ _ _ g4
    injection e0 with e0
    injection e1 with e1
    injection e2 with e2
    injection e3 with e3
    injection e4 with e4
    subst e0 e1 e2 e3 e4
    exact ⟨⟨n0, n1, n2, n3, n4⟩, A0, a0, A1, a1, A2, a2, A3, a3, A4, a4, rfl, ⟨p0, q0, r0⟩, ⟨p1, q1, r1⟩, ⟨p2, q2, r2⟩, ⟨p3, q3, r3⟩, ⟨p4, q4, r4⟩⟩
end
/-- What a system that came in reads as. -/
theorem sys_in {H : Type} {enc : TypeId × Value → H} {W : World} {held : Bool} : Reads enc Tryz.prog W held syR 27 := by
  have tm : Reads enc Tryz.prog W held tmR 221 := reads_tm Tryz.underlying221 (by kernel_rfl) (by kernel_rfl) (reads_int Tryz.underlying2) (reads_int Tryz.underlying2)
  have tms : Reads enc Tryz.prog W held (listR tmR) 209 := reads_list tmR Tryz.underlying209 (by kernel_rfl) tm
  have tmss : Reads enc Tryz.prog W held (listR (listR tmR)) 164 := reads_list (listR tmR) Tryz.underlying164 (by kernel_rfl) tms
  have tx : Reads enc Tryz.prog W held txtR 9 := reads_txt Tryz.underlying9
  have txs : Reads enc Tryz.prog W held (listR txtR) 25 := reads_list txtR Tryz.underlying25 (by kernel_rfl) tx
  have is : Reads enc Tryz.prog W held (listR intR) 39 := reads_list intR Tryz.underlying39 (by kernel_rfl) (reads_int Tryz.underlying2)
  have pt : Reads enc Tryz.prog W held ptR 166 := reads_pt Tryz.underlying166 (by kernel_rfl) (by kernel_rfl) (reads_int Tryz.underlying2) (reads_int Tryz.underlying2) tx tmss
  have pts : Reads enc Tryz.prog W held (listR ptR) 115 := reads_list ptR Tryz.underlying115 (by kernel_rfl) pt
  have df : Reads enc Tryz.prog W held dfR 117 := reads_df Tryz.underlying117 (by kernel_rfl) (by kernel_rfl) tx (reads_int Tryz.underlying2) pts
  have cp : Reads enc Tryz.prog W held cpR 41 := reads_cp Tryz.underlying41 (by kernel_rfl) (by kernel_rfl) (reads_int Tryz.underlying2) is
  have mt : Reads enc Tryz.prog W held mtR 120 := reads_mt Tryz.underlying120 (by kernel_rfl) (by kernel_rfl) tx tx tx
  exact reads_sy Tryz.underlying27 (by kernel_rfl) (by kernel_rfl)
    (reads_list dfR Tryz.underlying22 (by kernel_rfl) df) (reads_list cpR Tryz.underlying23 (by kernel_rfl) cp) (reads_list mtR Tryz.underlying24 (by kernel_rfl) mt) txs txs
end Go.Proofs.YtdgcpaeneafejaaGreatDoor
