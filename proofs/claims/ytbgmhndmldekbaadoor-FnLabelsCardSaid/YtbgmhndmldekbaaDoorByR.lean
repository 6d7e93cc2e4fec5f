/- Bytes that grow behind a text's own: a slice of bytes of the call's own, whose row may bear the mark of a conversion behind its last cell. -/
import Derived.Test.YtbgmhndmldekbaaDoorProg
import Derived.WalkKit
import Derived.ProofKit
import Derived.Outline
import Derived.ArgAppend
import Derived.Lib.AppendStr
import Derived.Lib.LazyBuf
import Derived.Lib.ConvBytes
import Derived.Test.YtbgmhndmldekbaaDoorLow
import Derived.Test.YtbgmhndmldekbaaDoorMath
namespace Go.Proofs.YtbgmhndmldekbaaDoor
open Go.RowKit Go.Lib
/-- v is a slice of the bytes l, its row from block B on; the cells behind them are there and free. -/
def BRow (w : World) (B : Nat) (v : Value) (l : List UInt8) : Prop :=
  ∃ g cap, v = .slice (some ⟨g, 0, none⟩) l.length cap ∧ B ≤ g ∧ g < w.heap.size ∧ l.length ≤ cap ∧ (∀ j u, (bv l)[j]? = some u → w.cell? ⟨g, j, none⟩ = some u) ∧
    ∀ j, l.length ≤ j → j < cap → (w.cell? ⟨g, j, none⟩).isSome = true ∧ w.frozen? ⟨g, j, none⟩ = false
theorem frozen_same {w w' : World} {g : Nat} (h : w'.heap[g]? = w.heap[g]?) (j : Nat) : w'.frozen? ⟨g, j, none⟩ = w.frozen? ⟨g, j, none⟩ := by
  unfold World.frozen?
  simp only [h]
theorem BRow.below {w w' : World} {B : Nat} {v : Value} {l : List UInt8} (h : BRow w B v l) (hb : Below w.heap.size w w') : BRow w' B v l := by
  obtain ⟨g, cap, e, h1, h2, h3, h4, h5⟩ := h
  refine ⟨g, cap, e, h1, Nat.lt_of_lt_of_le h2 hb.size, h3, fun j u hu => (hb.cell (p := ⟨g, j, none⟩) h2).trans (h4 j u hu), fun j hj1 hj2 => ?_⟩
  rw [hb.cell (p := ⟨g, j, none⟩) h2, frozen_same (hb.block g h2)]
  exact h5 j hj1 hj2
theorem BRow.row {w : World} {B : Nat} {v : Value} {l : List UInt8} (h : BRow w B v l) : ∃ g cap, v = .slice (some ⟨g, 0, none⟩) l.length cap ∧ ∀ j u, (bv l)[j]? = some u → w.cell? ⟨g, j, none⟩ = some u := by
  obtain ⟨g, cap, e, _, _, _, h4, _⟩ := h
  exact ⟨g, cap, e, h4⟩
/-- A row of the call's own is one. -/
theorem BRow.of_own {w : World} {B C n : Nat} {v : Value} {l : List UInt8} (h : w.ownsRow C 5 1 v n (bv l)) (hn : l.length = n) (h1 : 1 ≤ n) (hB : B ≤ C) : BRow w B v l := by
  subst hn
  rcases h.2 with ⟨_, h0⟩ | ⟨g, cap, cur, rfl, hg, hh, hnc, hm, hcs, htake⟩
  · omega
  · refine ⟨g, cap, rfl, Nat.le_trans hB hg, (Array.getElem?_eq_some_iff.1 hh).1, hnc, fun j u hu => ?_, fun j _ hj => ?_⟩
    · rw [cell_of_row w g j cur _ (0, 0) hh]
      rw [← htake, List.getElem?_take] at hu
      split at hu
      · simpa using hu
      · cases hu
    · rw [cell_of_row w g j cur _ (0, 0) hh]
      have hjc : j < cur.size := by omega
      refine ⟨by rw [Array.getElem?_eq_getElem hjc]; rfl, ?_⟩
      unfold World.frozen?
      rw [hh]
      simp
/-- Bytes stored behind it, where there is room. -/
theorem BRow.put {w : World} {B g cap : Nat} {l bs : List UInt8} (h : BRow w B (.slice (some ⟨g, 0, none⟩) l.length cap) l) (hr : l.length + bs.length ≤ cap) :
    BRow (w.setCells g l.length (bv bs)) B (.slice (some ⟨g, 0, none⟩) (l.length + bs.length) cap) (l ++ bs) ∧ Below B w (w.setCells g l.length (bv bs)) := by
  obtain ⟨g', cap', e, h1, h2, h3, h4, h5⟩ := h
  injection e with e1 e2 e3
  injection e1 with e1
  injection e1 with e1
  subst e1 e3
  have hthere : ∀ j, j < (bv bs).length → (w.cell? ⟨g, l.length + j, none⟩).isSome = true := fun j hj => by
    rw [bv_len] at hj
    exact (h5 (l.length + j) (by omega) (by omega)).1
  have hB := below_setCells (B := B) (b := g) (a := w) h1 (bv bs) l.length w (Below.refl _ _)
  refine ⟨⟨g, cap, by rw [List.length_append], h1, Nat.lt_of_lt_of_le h2 hB.size, by rw [List.length_append]; exact hr, fun j u hu => ?_, fun j hj1 hj2 => ?_⟩, hB⟩
  · by_cases hj : j < l.length
    · rw [World.cell?_setCells_out g _ _ _ _ (fun _ _ => .inl hj)]
      refine h4 j u ?_
      rw [← bv_app, List.getElem?_append_left (by rw [bv_len]; exact hj)] at hu
      exact hu
    · rw [← bv_app, List.getElem?_append_right (by rw [bv_len]; omega), bv_len] at hu
      obtain ⟨hlt, he⟩ := List.getElem?_eq_some_iff.1 hu
      have := World.cell?_setCells_in g (bv bs) l.length w hthere (j - l.length) hlt
      rw [show l.length + (j - l.length) = j by omega] at this
      rw [this, he]
  · rw [List.length_append] at hj1
    rw [World.cell?_setCells_out g _ _ _ _ (fun _ _ => .inr (by rw [bv_len]; exact hj1)), World.frozen?_setCells]
    exact h5 j (by omega) hj2
theorem bv_one {l : List UInt8} : ∀ u ∈ bv l, u.oneCell' = true := by
  intro u hu
  simp only [bv, List.mem_map] at hu
  obtain ⟨b, _, rfl⟩ := hu
  rfl
theorem info_u8b : (Tryd.prog.info? 5).map (fun i => (i.zero, i.size, i.bytes)) = some (some (.int .u8 0), 1, 1) := by kernel_rfl
/-- append(text, b, ..) at such a slice. -/
theorem wp_append_bytes (w : World) {ops : Array Oper} {rest : List Oper} {o : Oper} {a : Act} {Q : Exit → Act → World → Prop} (hg : o.guard = none) (s x : Operand)
    (hop : o.op = Op.call { callee := Callee.builtin Builtin.append, args := #[s, x], argTypes := #[22, 22] })
    (B : Nat) (v : Value) (l bs : List UInt8) (hs : a.eval s = v) (hrow : BRow w B v l) (ad : Addr) (m c : Nat) (hx : a.eval x = .slice (some ad) m c) (hm : bs.length = m) (h1 : 1 ≤ m) (hc : ∀ j u, (bv bs)[j]? = some u → w.cell? (ad.add j) = some u)
    (hlim : l.length + m ≤ 1048576) (hB : B ≤ w.heap.size)
    (hK : ∀ v' w', BRow w' B v' (l ++ bs) → Below B w w' → wpList Tryd.prog ops Q rest (a.put o.dst v') w') : wpList Tryd.prog ops Q (o :: rest) a w := by
  obtain ⟨i0, hi, hz0, hz1, hz2⟩ := info_parts info_u8b
  obtain ⟨g, cap, rfl, hBg, hgs, hlc, hcells, hspare⟩ := id hrow
  subst hm
  refine wpList_append_arg w hg s x 22 hop 5 i0 (.int .u8 0) 1 1 Tryd.underlying22 hi hz0 hz1 hz2 rfl (by decide) g 0 l.length cap (bv l) hs (by rw [bv_len, Nat.mul_one]) (fun j u hu => by rw [Nat.zero_add]; exact hcells j u hu)
    ad bs.length c (bv bs) hx (by rw [bv_len, Nat.mul_one]) hc bv_one (fun hr j hj => ?_) (by unfold maxLen; omega) (by omega) (fun hr => ?_) (fun _ v' w' ho hgr => ?_)
  · rw [bv_len] at hj
    rw [Nat.zero_add, Nat.mul_one]
    exact hspare (l.length + j) (by omega) (by omega)
  · obtain ⟨p1, p2⟩ := hrow.put hr
    rw [Nat.zero_add, Nat.mul_one]
    exact hK _ _ p1 p2
  · rw [bv_app] at ho
    exact hK _ _ (BRow.of_own ho (by rw [List.length_append]) (by omega) hB) ((Below.refl B w).grown hgr hB (fun k hk => by cases hk))
/-- append(text, s...) at such a slice, s a text. -/
theorem wp_append_text (w : World) {ops : Array Oper} {rest : List Oper} {o : Oper} {a : Act} {Q : Exit → Act → World → Prop} (hg : o.guard = none) (s x : Operand)
    (hop : o.op = Op.call { callee := Callee.builtin Builtin.append, args := #[s, x], argTypes := #[22, 9] })
    (B : Nat) (v : Value) (l bs : List UInt8) (hs : a.eval s = v) (hrow : BRow w B v l) (hx : a.eval x = .string ⟨bs.toArray⟩) (hlim : l.length + bs.length ≤ 1048576) (hB : B ≤ w.heap.size)
    (hK : ∀ v' w', BRow w' B v' (l ++ bs) → Below B w w' → wpList Tryd.prog ops Q rest (a.put o.dst v') w') : wpList Tryd.prog ops Q (o :: rest) a w := by
  obtain ⟨i0, hi, hz0, hz1, hz2⟩ := info_parts info_u8b
  obtain ⟨g, cap, rfl, hBg, hgs, hlc, hcells, hspare⟩ := id hrow
  have hcs : strCells ⟨bs.toArray⟩ = bv bs := by simp [strCells, bv]
  have hsz : (⟨bs.toArray⟩ : ByteArray).size = bs.length := by simp [ByteArray.size]
  have hl1 := bv_len l
  have hb1 := bv_len bs
  refine wpList_plain hg fun K hk => ?_
  by_cases hroom : l.length + bs.length ≤ cap
  · have hf := run_firstCells_string (P := Tryd.prog) w 1 ⟨bs.toArray⟩
    have hst := run_storeCells_cells (P := Tryd.prog) g l.length (bv bs) 0 w
      (fun j hj => by rw [hb1] at hj; simpa using (hspare (l.length + j) (by omega) (by omega)).1) (fun j hj => by rw [hb1] at hj; simpa using (hspare (l.length + j) (by omega) (by omega)).2) bv_one
    rw [hcs, hsz] at hf
    have hr : (Builtin.append_ #[22, 9] o.type #[.slice (some ⟨g, 0, none⟩) l.length cap, .string ⟨bs.toArray⟩]).run Tryd.prog w = .ok (.slice (some ⟨g, 0, none⟩) (l.length + bs.length) cap) (w.setCells g l.length (bv bs)) := by
      simp only [Nat.add_zero] at hst
      simp [Builtin.append_, run_underlying Tryd.underlying22, run_underlying Tryd.underlying9, sizeOf, typeInfo, hi, hz1, Builtin.lenOf, hsz, hroom, hf, Addr.add_lit, hst]
    obtain ⟨p1, p2⟩ := hrow.put hroom
    unfold Oper.wp execOp
    simp only [hop, resolve, invoke, builtin, Sem.run_bind, Sem.run_pure, Result.andThen_ok, List.map_toArray, List.map_cons, List.map_nil, hs, hx, hr]
    exact hk _ _ (hK _ _ p1 p2)
  · have hge := grownCap_ge w (l.length + bs.length) cap 5
    have hr := run_append_grow_string (P := Tryd.prog) w 22 9 o.type 5 i0 (.int .u8 0) Tryd.underlying22 Tryd.underlying9 hi hz0 ⟨g, 0, none⟩ l.length cap (bv l) (by rw [hz1, hl1, Nat.mul_one])
      (fun j u hu => by rw [show (⟨g, 0, none⟩ : Addr).add j = ⟨g, j, none⟩ by unfold Addr.add; split <;> simp_all]; exact hcells j u hu) ⟨bs.toArray⟩ (by rw [hsz]; omega) (by rw [hsz]; omega) (by rw [hz2, hsz]; exact growslice_fits (by omega) (by omega))
    rw [hcs, hsz] at hr
    generalize hC : ((bv l).toArray ++ (bv bs).toArray ++ Builtin.zeroCells (Value.int .u8 0).cells (grownCap w (l.length + bs.length) cap 5 - (l.length + bs.length))) = C at hr
    have hCs : C.size = grownCap w (l.length + bs.length) cap 5 := by
      have hz : (Value.int IntKind.u8 0).cells.size = 1 := rfl
      rw [← hC]
      simp only [Array.size_append, List.size_toArray, size_zeroCells, hz, hl1, hb1]
      omega
    have hnew : (w.drew.alloc (.cells C 5)).heap[w.heap.size]? = some (.cells C 5 (0, 0)) := heap_alloc_new w.drew _
    have hsz2 : (w.drew.alloc (.cells C 5)).heap.size = w.heap.size + 1 := by simp
    have hbel : Below B w (w.drew.alloc (.cells C 5)) := ⟨rfl, rfl, rfl, by omega, fun k hk => heap_alloc_old w.drew _ (Nat.lt_of_lt_of_le hk hB)⟩
    unfold Oper.wp execOp
    simp only [hop, resolve, invoke, builtin, Sem.run_bind, Sem.run_pure, Result.andThen_ok, List.map_toArray, List.map_cons, List.map_nil, hs, hx, hr]
    refine hk _ _ (hK _ _ ⟨w.heap.size, _, by rw [List.length_append], hB, by omega, by rw [List.length_append]; exact hge, fun j u hu => ?_, fun j _ hj => ?_⟩ hbel)
    · rw [cell_of_row _ _ j C _ (0, 0) hnew, ← hC]
      rw [← bv_app] at hu
      rw [Array.getElem?_append_left (by simpa [bv_len] using (List.getElem?_eq_some_iff.1 hu).1)]
      simpa using hu
    · rw [cell_of_row _ _ j C _ (0, 0) hnew]
      have hjc : j < C.size := by omega
      refine ⟨by rw [Array.getElem?_eq_getElem hjc]; rfl, ?_⟩
      unfold World.frozen?
      rw [hnew]
      simp
/-- []byte(s), s a text. -/
theorem BRow.conv (w : World) (s : ByteArray) : BRow (bytesWorld w 5 s) w.heap.size (.slice (some ⟨w.heap.size, 0, none⟩) s.size (grownCap w s.size 0 5)) s.data.toList := by
  have hl : s.data.toList.length = s.size := by simp
  have hnew := bytesWorld_at_new w 5 s
  have hge := grownCap_ge w s.size 0 5
  have hcs : (bytesCells w 5 s).size = grownCap w s.size 0 5 := by
    unfold bytesCells
    simp only [Array.size_append, Array.size_map, Array.size_replicate]
    have : s.data.size = s.size := rfl
    omega
  refine ⟨w.heap.size, _, by rw [hl], Nat.le_refl _, by rw [bytesWorld_size]; omega, by rw [hl]; exact hge, fun j u hu => ?_, fun j _ hj => ?_⟩
  · have hj : j < s.size := by have := (List.getElem?_eq_some_iff.1 hu).1; rw [bv_len, hl] at this; exact this
    rw [bytesWorld_cell w 5 s j hj]
    unfold bv at hu
    rw [List.getElem?_map, List.getElem?_eq_getElem (by rw [hl]; exact hj)] at hu
    rw [List.getD_eq_getElem?_getD, List.getElem?_eq_getElem (by rw [hl]; exact hj)]
    exact hu
  · rw [cell_of_row _ _ j _ _ _ hnew]
    have hjc : j < (bytesCells w 5 s).size := by omega
    refine ⟨by rw [Array.getElem?_eq_getElem hjc]; rfl, ?_⟩
    unfold World.frozen?
    rw [hnew]
    simp
    omega
end Go.Proofs.YtbgmhndmldekbaaDoor
