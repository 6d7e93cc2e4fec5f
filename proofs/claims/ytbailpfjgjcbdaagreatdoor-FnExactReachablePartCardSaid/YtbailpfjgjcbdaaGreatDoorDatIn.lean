/- Records that came in: what a type's cells read as. -/
import Derived.WalkKit
import Derived.ProofKit
import Derived.Deep.Slices
import Derived.Deep.Fields
import Derived.Lib.Hide
import Derived.Test.YtbailpfjgjcbdaaGreatDoorLow
namespace Go.Proofs.YtbailpfjgjcbdaaGreatDoor
open Go.RowKit
section
variable {H : Type} {enc : TypeId × Value → H} {P : Program} {W : World} {held : Bool}
/-- Whatever can be read as data of the type t is a record of the kind F. -/
def Reads {α : Type} (enc : TypeId × Value → H) (P : Program) (W : World) (held : Bool) (F : Rec α) (t : TypeId) : Prop :=
  ∀ fuel cs x, DataW.trod enc P W 0 (fun _ => true) held fuel t cs = some x → ∃ y, F.R W (· < W.heap.size) y cs
theorem reads_list {α : Type} [Inhabited α] (F : Rec α) {t e : TypeId} (ht : P.underlying t = some (.slice e)) (ce : P.cellsOf e = F.width) (h : Reads enc P W held F e) : Reads enc P W held (listR F) t := by
  intro fuel cs x hx
  have hw := F.pos
  rcases Go.Deep.open_slice ht hx with ⟨rfl, _⟩ | ⟨a, len, cap, m, n, D, Pl, rfl, _, hl, hm, hmm, _, hx2⟩
  · exact ⟨[], none, 0, rfl, Nat.le_refl _, by unfold maxLen; omega, LRow.nil⟩
  · simp only [if_true] at hmm
    rw [ce] at hx2
    have each : ∀ i, i < len → ∃ y : α × List Value, F.R W (· < W.heap.size) y.1 y.2 ∧ ∀ r v, y.2[r]? = some v → W.cell? (a.add (i * F.width + r)) = some v := by
      intro i hi
      obtain ⟨cs', h1, h2⟩ := hx2 i (by omega)
      obtain ⟨y, hy⟩ := h _ _ _ h2
      obtain ⟨_, hlen, hcell⟩ := World.cells?_some h1
      refine ⟨(y, cs'), hy, fun r v hr => ?_⟩
      have hr' := (List.getElem?_eq_some_iff.1 hr).1
      have := hcell r (by simp at hr'; omega)
      rw [Go.Deep.add_add] at this
      rw [this]; exact hr
    obtain ⟨f, hf⟩ := Go.Deep.choose_lt each
    have hlen : ∀ i ∈ List.range len, ((f i).2).length = F.width := fun i hi => F.len (hf i (List.mem_range.1 hi)).1
    have hfl := flat_len (fun i => (f i).2) F.width (List.range len) hlen
    rw [List.length_range] at hfl
    refine ⟨(List.range len).map fun i => (f i).1, some a, cap, by simp, by simpa using hl, hm, (List.range len).flatMap fun i => (f i).2, fun hp => ?_, by simpa using hfl, fun k y hy => ?_⟩
    · have hpos : 0 < len := by
        rcases Nat.eq_zero_or_pos len with h0 | h0
        · subst h0; simp at hp
        · exact h0
      have h0l := hlen 0 (List.mem_range.2 hpos)
      have h00 := (hf 0 hpos).2 0 _ (List.getElem?_eq_getElem (by omega))
      rw [Nat.zero_mul, Nat.zero_add] at h00
      obtain ⟨b, off, rfl, hb⟩ := spot_none h00
      refine ⟨b, off, rfl, hb, fun i v hv => ?_⟩
      have hi := (List.getElem?_eq_some_iff.1 hv).1
      rw [hfl] at hi
      have hk : i / F.width < len := Nat.div_lt_of_lt_mul (by rw [Nat.mul_comm]; exact hi)
      have e : i / F.width * F.width + i % F.width = i := Nat.div_add_mod' i F.width
      have hat := flat_at (fun i => (f i).2) F.width (List.range len) hlen (i / F.width) (i / F.width) (by simp [hk])
      have h1 : ((f (i / F.width)).2)[i % F.width]? = some v := by
        have h2 : ((((List.range len).flatMap fun i => (f i).2).drop (i / F.width * F.width)).take F.width)[i % F.width]? = some v := by
          rw [List.getElem?_take, if_pos (Nat.mod_lt _ hw), List.getElem?_drop, e]; exact hv
        rw [hat] at h2
        exact h2
      have h3 := (hf _ hk).2 _ _ h1
      rw [e, add_lit] at h3
      exact h3
    · obtain ⟨hk, rfl⟩ := range_map_at hy
      have hat := flat_at (fun i => (f i).2) F.width (List.range len) hlen k k (by simp [hk])
      rw [hat]
      exact (hf k hk).1
theorem reads_int {t : TypeId} (q : P.underlying t = some (.int .i64)) : Reads enc P W held intR t := by
  intro fuel cs x hx
  obtain ⟨n, e, _, _⟩ := DataW.trod_int q hx
  exact ⟨n, e⟩
theorem reads_txt {t : TypeId} (q : P.underlying t = some .string) : Reads enc P W held txtR t := by
  intro fuel cs x hx
  obtain ⟨s, e, _, hs⟩ := DataW.trod_string q hx
  exact ⟨s, e, hs⟩
theorem reads_tm {t : TypeId} {f0 f1 : Field} (ht : P.underlying t = some (.struct #[f0, f1])) (hone : Go.Deep.oneCellFields P #[f0, f1] = true) (hC : P.cellsOf t = 2) (h0 : Reads enc P W held intR f0.type) (h1 : Reads enc P W held intR f1.type) : Reads enc P W held tmR t := by
  intro fuel cs x hx
  obtain ⟨xs, n, _, rfl, hcl, hxl, hf⟩ := DataW.trod_struct ht hx
  obtain ⟨o0, k0⟩ := Go.Deep.hone_of hone 0 f0 rfl
  obtain ⟨o1, k1⟩ := Go.Deep.hone_of hone 1 f1 rfl
  match xs, hxl, cs, hcl.trans hC with
  | [y0, y1], _, [c0, c1], _ =>
    have g0 := hf 0 f0 rfl
    have g1 := hf 1 f1 rfl
    simp [o0, k0] at g0
    simp [o1, k1] at g1
    obtain ⟨n0, e0⟩ := h0 _ _ _ g0
    obtain ⟨n1, e1⟩ := h1 _ _ _ g1
    injection e0 with e0
    injection e1 with e1
    subst e0 e1
    exact ⟨⟨n0, n1⟩, rfl⟩
theorem reads_mt {t : TypeId} {f0 f1 f2 : Field} (ht : P.underlying t = some (.struct #[f0, f1, f2])) (hone : Go.Deep.oneCellFields P #[f0, f1, f2] = true) (hC : P.cellsOf t = 3) (h0 : Reads enc P W held txtR f0.type) (h1 : Reads enc P W held txtR f1.type) (h2 : Reads enc P W held txtR f2.type) : Reads enc P W held mtR t := by
  intro fuel cs x hx
  obtain ⟨xs, n, _, rfl, hcl, hxl, hf⟩ := DataW.trod_struct ht hx
  obtain ⟨o0, k0⟩ := Go.Deep.hone_of hone 0 f0 rfl
  obtain ⟨o1, k1⟩ := Go.Deep.hone_of hone 1 f1 rfl
  obtain ⟨o2, k2⟩ := Go.Deep.hone_of hone 2 f2 rfl
  match xs, hxl, cs, hcl.trans hC with
  | [y0, y1, y2], _, [c0, c1, c2], _ =>
    have g0 := hf 0 f0 rfl
    have g1 := hf 1 f1 rfl
    have g2 := hf 2 f2 rfl
    simp [o0, k0] at g0
    simp [o1, k1] at g1
    simp [o2, k2] at g2
    obtain ⟨n0, e0, z0⟩ := h0 _ _ _ g0
    obtain ⟨n1, e1, z1⟩ := h1 _ _ _ g1
    obtain ⟨n2, e2, z2⟩ := h2 _ _ _ g2
    injection e0 with e0
    injection e1 with e1
    injection e2 with e2
    subst e0 e1 e2
    exact ⟨⟨n0, n1, n2⟩, rfl, z0, z1, z2⟩
theorem reads_cp {t : TypeId} {f0 f1 : Field} (ht : P.underlying t = some (.struct #[f0, f1])) (hone : Go.Deep.oneCellFields P #[f0, f1] = true) (hC : P.cellsOf t = 2) (h0 : Reads enc P W held intR f0.type) (h1 : Reads enc P W held (listR intR) f1.type) : Reads enc P W held cpR t := by
  intro fuel cs x hx
  obtain ⟨xs, n, _, rfl, hcl, hxl, hf⟩ := DataW.trod_struct ht hx
  obtain ⟨o0, k0⟩ := Go.Deep.hone_of hone 0 f0 rfl
  obtain ⟨o1, k1⟩ := Go.Deep.hone_of hone 1 f1 rfl
  match xs, hxl, cs, hcl.trans hC with
  | [y0, y1], _, [c0, c1], _ =>
    have g0 := hf 0 f0 rfl
    have g1 := hf 1 f1 rfl
    simp [o0, k0] at g0
    simp [o1, k1] at g1
    obtain ⟨n0, e0⟩ := h0 _ _ _ g0
    obtain ⟨n1, A, c, e1, z1, z2, z3⟩ := h1 _ _ _ g1
    injection e0 with e0
    injection e1 with e1
    subst e0 e1
    exact ⟨⟨n0, n1⟩, A, c, rfl, z1, z2, z3⟩
theorem reads_pt {t : TypeId} {f0 f1 f2 f3 : Field} (ht : P.underlying t = some (.struct #[f0, f1, f2, f3])) (hone : Go.Deep.oneCellFields P #[f0, f1, f2, f3] = true) (hC : P.cellsOf t = 4) (h0 : Reads enc P W held intR f0.type) (h1 : Reads enc P W held intR f1.type) (h2 : Reads enc P W held txtR f2.type) (h3 : Reads enc P W held (listR (listR tmR)) f3.type) : Reads enc P W held ptR t := by
  intro fuel cs x hx
  obtain ⟨xs, n, _, rfl, hcl, hxl, hf⟩ := DataW.trod_struct ht hx
  obtain ⟨o0, k0⟩ := Go.Deep.hone_of hone 0 f0 rfl
  obtain ⟨o1, k1⟩ := Go.Deep.hone_of hone 1 f1 rfl
  obtain ⟨o2, k2⟩ := Go.Deep.hone_of hone 2 f2 rfl
  obtain ⟨o3, k3⟩ := Go.Deep.hone_of hone 3 f3 rfl
  match xs, hxl, cs, hcl.trans hC with
  | [y0, y1, y2, y3], _, [c0, c1, c2, c3], _ =>
    have g0 := hf 0 f0 rfl
    have g1 := hf 1 f1 rfl
    have g2 := hf 2 f2 rfl
    have g3 := hf 3 f3 rfl
    simp [o0, k0] at g0
    simp [o1, k1] at g1
    simp [o2, k2] at g2
    simp [o3, k3] at g3
    obtain ⟨n0, e0⟩ := h0 _ _ _ g0
    obtain ⟨n1, e1⟩ := h1 _ _ _ g1
    obtain ⟨n2, e2, z2⟩ := h2 _ _ _ g2
    obtain ⟨n3, A, c, e3, y1, y2, y3⟩ := h3 _ _ _ g3
    injection e0 with e0
    injection e1 with e1
    injection e2 with e2
    injection e3 with e3
    subst e0 e1 e2 e3
    exact ⟨⟨n0, n1, n2, n3⟩, A, c, rfl, z2, y1, y2, y3⟩
theorem reads_df {t : TypeId} {f0 f1 f2 : Field} (ht : P.underlying t = some (.struct #[f0, f1, f2])) (hone : Go.Deep.oneCellFields P #[f0, f1, f2] = true) (hC : P.cellsOf t = 3) (h0 : Reads enc P W held txtR f0.type) (h1 : Reads enc P W held intR f1.type) (h2 : Reads enc P W held (listR ptR) f2.type) : Reads enc P W held dfR t := by
  intro fuel cs x hx
  obtain ⟨xs, n, _, rfl, hcl, hxl, hf⟩ := DataW.trod_struct ht hx
  obtain ⟨o0, k0⟩ := Go.Deep.hone_of hone 0 f0 rfl
  obtain ⟨o1, k1⟩ := Go.Deep.hone_of hone 1 f1 rfl
  obtain ⟨o2, k2⟩ := Go.Deep.hone_of hone 2 f2 rfl
  match xs, hxl, cs, hcl.trans hC with
  | [y0, y1, y2], _, [c0, c1, c2], _ =>
    have g0 := hf 0 f0 rfl
    have g1 := hf 1 f1 rfl
    have g2 := hf 2 f2 rfl
    simp [o0, k0] at g0
    simp [o1, k1] at g1
    simp [o2, k2] at g2
    obtain ⟨n0, e0, z0⟩ := h0 _ _ _ g0
    obtain ⟨n1, e1⟩ := h1 _ _ _ g1
    obtain ⟨n2, A, c, e2, y1, y2, y3⟩ := h2 _ _ _ g2
    injection e0 with e0
    injection e1 with e1
    injection e2 with e2
    subst e0 e1 e2
    exact ⟨⟨n0, n1, n2⟩, A, c, rfl, z0, y1, y2, y3⟩
end
end Go.Proofs.YtbailpfjgjcbdaaGreatDoor
