/- A label's text grows by one value; when there is none. -/
/- Bytes that grow behind a text's own: a slice of bytes of the call's own, whose row may bear the mark of a conversion behind its last cell. -/
/- A small number's digits behind bytes of the call's own: strconv.AppendInt below 100. -/
/- The range test of the model. -/
import Derived.Test.YtbailpfjgjcbdaaGreatDoorMath
import Derived.Test.YtbailpfjgjcbdaaGreatDoorName
import Derived.Test.YtbailpfjgjcbdaaGreatDoorProg
import Derived.WalkKit
import Derived.ProofKit
import Derived.Outline
import Derived.ArgAppend
import Derived.Lib.AppendStr
import Derived.Lib.LazyBuf
import Derived.Lib.ConvBytes
import Derived.Test.YtbailpfjgjcbdaaGreatDoorLow
import Derived.Shelf.Strconv.AppendIntPublic10
import Derived.Shelf.Lay
import Derived.Lib.Hide
namespace Go.Proofs.YtbailpfjgjcbdaaGreatDoor
open Go.Lib
/-- The bytes behind k values, ahead of the last parenthesis. -/
def partL (nm : List UInt8) (vs : List Int) (k : Nat) : List UInt8 := if k = 0 then nm else nm ++ 40 :: decs (vs.take k)
theorem part_zero (nm : List UInt8) (vs : List Int) : partL nm vs 0 = nm := rfl
theorem itoa_small {v : Int} (h : inMod v = true) : ∃ u : Nat, v = (u : Int) ∧ u < 64 ∧ itoa v = decDigits u := by
  simp only [inMod, decide_eq_true_eq] at h
  obtain ⟨u, rfl⟩ := Int.eq_ofNat_of_zero_le h.1
  exact ⟨u, rfl, by omega, itoa_nat u⟩
theorem part_first {nm : List UInt8} {vs : List Int} {u : Nat} (h : vs[0]? = some (u : Int)) : nm ++ [40] ++ decDigits u = partL nm vs 1 := by
  unfold partL
  rw [if_neg (by decide), decs_first vs _ h, itoa_nat]
  simp
theorem part_next {nm : List UInt8} {vs : List Int} {u k : Nat} (hk : k ≠ 0) (h : vs[k]? = some (u : Int)) : partL nm vs k ++ [44] ++ decDigits u = partL nm vs (k + 1) := by
  unfold partL
  rw [if_neg hk, if_neg (by omega), decs_next vs k _ hk h, itoa_nat]
  simp
theorem part_all {nm : List UInt8} {vs : List Int} (h : vs ≠ []) : partL nm vs vs.length ++ [41] = make nm vs := by
  unfold partL make
  rw [if_neg (by rwa [List.length_eq_zero_iff]), if_neg h, List.take_length]
  simp
theorem part_none (nm : List UInt8) : partL nm [] 0 = make nm [] := by simp [partL, make]
theorem part_len {nm : List UInt8} {vs : List Int} (hn : nm.length ≤ 10) (h2 : vs.length ≤ 2) (hv : vs.all inMod = true) (k : Nat) : (partL nm vs k).length ≤ 60 ∧ nm.length ≤ (partL nm vs k).length := by
  have hb := inMod_bounds hv
  have h1 := decs_short (vs.take k) (fun v hm => by have := hb v (List.mem_of_mem_take hm); omega)
  rw [List.length_take] at h1
  unfold partL
  split
  · omega
  · rw [List.length_append, List.length_cons]; omega
theorem ok_name {nm : List UInt8} {vs : List Int} (h : nameB nm = false) : ¬ LabOk nm vs := fun hk => by rw [nameB_yes hk.1] at h; cases h
theorem ok_long {nm : List UInt8} {vs : List Int} (h : 2 < vs.length) : ¬ LabOk nm vs := fun hk => by have := hk.2.1; omega
theorem ok_tau {nm : List UInt8} {vs : List Int} (h : nm = tauB) (hv : vs ≠ []) : ¬ LabOk nm vs := fun hk => hv (hk.2.2.1 h)
theorem ok_val {nm : List UInt8} {vs : List Int} (h : vs.all inMod = false) : ¬ LabOk nm vs := fun hk => by rw [hk.2.2.2] at h; cases h
theorem ok_bad {vs : List Int} {k : Nat} {v : Int} (hk : vs[k]? = some v) (h : inMod v = false) : vs.all inMod = false := by
  rw [Bool.eq_false_iff]
  intro ha
  have := List.all_eq_true.1 ha v (List.mem_of_getElem? hk)
  rw [h] at this; cases this
theorem tau_iff {s : ByteArray} : (s.toList == [116, 97, 117]) = true ↔ s.data.toList = tauB := by
  rw [ByteArray.toList_eq]
  exact beq_iff_eq
theorem tau_no {s : ByteArray} (h : (s.toList == [116, 97, 117]) = false) : s.data.toList ≠ tauB := fun e => by rw [tau_iff.2 e] at h; cases h
theorem tau_name : nameB tauB = true := by
  refine nameB_yes ⟨by decide, by decide, fun i b h => ?_⟩
  unfold goodB
  match i with
  | 0 => injection h with h; subst h; left; rfl
  | 1 => injection h with h; subst h; left; rfl
  | 2 => injection h with h; subst h; left; rfl
  | n + 3 => simp [tauB] at h
theorem lab_str {nm : List UInt8} {vs : List Int} {l : List UInt8} (h : LabOk nm vs) (e : l = make nm vs) : (⟨(labText nm vs).toArray⟩ : ByteArray) = ⟨l.toArray⟩ := by rw [labText_yes h, e]
theorem lab_none {nm : List UInt8} {vs : List Int} (h : ¬ LabOk nm vs) : (⟨(labText nm vs).toArray⟩ : ByteArray) = ⟨#[]⟩ := by rw [labText_no h]
theorem name_le {l : List UInt8} (h : nameB l = true) : 1 ≤ l.length ∧ l.length ≤ 10 := ⟨(nameB_iff.1 h).1, (nameB_iff.1 h).2.1⟩
end Go.Proofs.YtbailpfjgjcbdaaGreatDoor

namespace Go.Proofs.YtbailpfjgjcbdaaGreatDoor
open Go.RowKit Go.Lib
/-- v is a slice of the bytes l, its row from block B on; the cells behind them are there and free. -/
def BRow (w : World) (B : Nat) (v : Value) (l : List UInt8) : Prop :=
  ∃ g cap, v = .slice (some ⟨g, 0, none⟩) l.length cap ∧ B ≤ g ∧ g < w.heap.size ∧ l.length ≤ cap ∧ (∀ j u, (bv l)[j]? = some u → w.cell? ⟨g, j, none⟩ = some u) ∧
    ∀ j, l.length ≤ j → j < cap → (w.cell? ⟨g, j, none⟩).isSome = true ∧ w.frozen? ⟨g, j, none⟩ = false
theorem frozen_same {w w' : World} {g : Nat} (h : w'.heap[g]? = w.heap[g]?) (j : Nat) : w'.frozen? ⟨g, j, none⟩ = w.frozen? ⟨g, j, none⟩ := by
  unfold World.frozen?
  simp only [h]
theorem BRow.below {w w' : World} {B : Nat} {v : Value} {l : List UInt8} (h : BRow w B v l) (hb : Below w.heap.size w w') : BRow w' B v l := by
  obtain ⟨g, cap, e, h1, h2, h3, h4, h5⟩ := h
  refine ⟨g, cap, e, h1, Nat.lt_of_lt_of_le h2 hb.size, h3, fun j u hu => (hb.cell (p := ⟨g, j, none⟩) h2).trans (h4 j u hu), fun j hj1 hj2 => ?_⟩
  rw [hb.cell (p := ⟨g, j, none⟩) h2, frozen_same (hb.block g h2)]
  exact h5 j hj1 hj2
theorem BRow.row {w : World} {B : Nat} {v : Value} {l : List UInt8} (h : BRow w B v l) : ∃ g cap, v = .slice (some ⟨g, 0, none⟩) l.length cap ∧ ∀ j u, (bv l)[j]? = some u → w.cell? ⟨g, j, none⟩ = some u := by
  obtain ⟨g, cap, e, _, _, _, h4, _⟩ := h
  exact ⟨g, cap, e, h4⟩
/-- A row of the call's own is one. -/
theorem BRow.of_own {w : World} {B C n : Nat} {v : Value} {l : List UInt8} (h : w.ownsRow C 5 1 v n (bv l)) (hn : l.length = n) (h1 : 1 ≤ n) (hB : B ≤ C) : BRow w B v l := by
  subst hn
  rcases h.2 with ⟨_, h0⟩ | ⟨g, cap, cur, rfl, hg, hh, hnc, hm, hcs, htake⟩
  · omega
  · refine ⟨g, cap, rfl, Nat.le_trans hB hg, (Array.getElem?_eq_some_iff.1 hh).1, hnc, fun j u hu => ?_, fun j _ hj => ?_⟩
    · rw [cell_of_row w g j cur _ (0, 0) hh]
      rw [← htake, List.getElem?_take] at hu
      split at hu
      · simpa using hu
      · cases hu
    · rw [cell_of_row w g j cur _ (0, 0) hh]
      have hjc : j < cur.size := by omega
      refine ⟨by rw [Array.getElem?_eq_getElem hjc]; rfl, ?_⟩
      unfold World.frozen?
      rw [hh]
      simp
/-- Bytes stored behind it, where there is room. -/
theorem BRow.put {w : World} {B g cap : Nat} {l bs : List UInt8} (h : BRow w B (.slice (some ⟨g, 0, none⟩) l.length cap) l) (hr : l.length + bs.length ≤ cap) :
    BRow (w.setCells g l.length (bv bs)) B (.slice (some ⟨g, 0, none⟩) (l.length + bs.length) cap) (l ++ bs) ∧ Below B w (w.setCells g l.length (bv bs)) := by
  obtain ⟨g', cap', e, h1, h2, h3, h4, h5⟩ := h
  injection e with e1 e2 e3
  injection e1 with e1
  injection e1 with e1
  subst e1 e3
  have hthere : ∀ j, j < (bv bs).length → (w.cell? ⟨g, l.length + j, none⟩).isSome = true := fun j hj => by
    rw [bv_len] at hj
    exact (h5 (l.length + j) (by omega) (by omega)).1
  have hB := below_setCells (B := B) (b := g) (a := w) h1 (bv bs) l.length w (Below.refl _ _)
  refine ⟨⟨g, cap, by rw [List.length_append], h1, Nat.lt_of_lt_of_le h2 hB.size, by rw [List.length_append]; exact hr, fun j u hu => ?_, fun j hj1 hj2 => ?_⟩, hB⟩
  · by_cases hj : j < l.length
    · rw [World.cell?_setCells_out g _ _ _ _ (fun _ _ => .inl hj)]
      refine h4 j u ?_
      rw [← bv_app, List.getElem?_append_left (by rw [bv_len]; exact hj)] at hu
      exact hu
    · rw [← bv_app, List.getElem?_append_right (by rw [bv_len]; omega), bv_len] at hu
      obtain ⟨hlt, he⟩ := List.getElem?_eq_some_iff.1 hu
      have := World.cell?_setCells_in g (bv bs) l.length w hthere (j - l.length) hlt
      rw [show l.length + (j - l.length) = j by omega] at this
      rw [this, he]
  · rw [List.length_append] at hj1
    rw [World.cell?_setCells_out g _ _ _ _ (fun _ _ => .inr (by rw [bv_len]; exact hj1)), World.frozen?_setCells]
    exact h5 j (by omega) hj2
theorem bv_one {l : List UInt8} : ∀ u ∈ bv l, u.oneCell' = true := by
  intro u hu
  simp only [bv, List.mem_map] at hu
  obtain ⟨b, _, rfl⟩ := hu
  rfl
theorem info_u8b : (Tryz.prog.info? 5).map (fun i => (i.zero, i.size, i.bytes)) = some (some (.int .u8 0), 1, 1) := by kernel_rfl
/-- append(text, b, ..) at such a slice. -/
theorem wp_append_bytes (w : World) {ops : Array Oper} {rest : List Oper} {o : Oper} {a : Act} {Q : Exit → Act → World → Prop} (hg : o.guard = none) (s x : Operand)
    (hop : o.op = Op.call { callee := Callee.builtin Builtin.append, args := #[s, x], argTypes := #[101, 101] })
    (B : Nat) (v : Value) (l bs : List UInt8) (hs : a.eval s = v) (hrow : BRow w B v l) (ad : Addr) (m c : Nat) (hx : a.eval x = .slice (some ad) m c) (hm : bs.length = m) (h1 : 1 ≤ m) (hc : ∀ j u, (bv bs)[j]? = some u → w.cell? (ad.add j) = some u)
    (hlim : l.length + m ≤ 1048576) (hB : B ≤ w.heap.size)
    (hK : ∀ v' w', BRow w' B v' (l ++ bs) → Below B w w' → wpList Tryz.prog ops Q rest (a.put o.dst v') w') : wpList Tryz.prog ops Q (o :: rest) a w := by
  obtain ⟨i0, hi, hz0, hz1, hz2⟩ := info_parts info_u8b
  obtain ⟨g, cap, rfl, hBg, hgs, hlc, hcells, hspare⟩ := id hrow
  subst hm
  refine wpList_append_arg w hg s x 101 hop 5 i0 (.int .u8 0) 1 1 Tryz.underlying101 hi hz0 hz1 hz2 rfl (by decide) g 0 l.length cap (bv l) hs (by rw [bv_len, Nat.mul_one]) (fun j u hu => by rw [Nat.zero_add]; exact hcells j u hu)
    ad bs.length c (bv bs) hx (by rw [bv_len, Nat.mul_one]) hc bv_one (fun hr j hj => ?_) (by unfold maxLen; omega) (by omega) (fun hr => ?_) (fun _ v' w' ho hgr => ?_)
  · rw [bv_len] at hj
    rw [Nat.zero_add, Nat.mul_one]
    exact hspare (l.length + j) (by omega) (by omega)
  · obtain ⟨p1, p2⟩ := hrow.put hr
    rw [Nat.zero_add, Nat.mul_one]
    exact hK _ _ p1 p2
  · rw [bv_app] at ho
    exact hK _ _ (BRow.of_own ho (by rw [List.length_append]) (by omega) hB) ((Below.refl B w).grown hgr hB (fun k hk => by cases hk))
/-- append(text, s...) at such a slice, s a text. -/
theorem wp_append_text (w : World) {ops : Array Oper} {rest : List Oper} {o : Oper} {a : Act} {Q : Exit → Act → World → Prop} (hg : o.guard = none) (s x : Operand)
    (hop : o.op = Op.call { callee := Callee.builtin Builtin.append, args := #[s, x], argTypes := #[101, 9] })
    (B : Nat) (v : Value) (l bs : List UInt8) (hs : a.eval s = v) (hrow : BRow w B v l) (hx : a.eval x = .string ⟨bs.toArray⟩) (hlim : l.length + bs.length ≤ 1048576) (hB : B ≤ w.heap.size)
    (hK : ∀ v' w', BRow w' B v' (l ++ bs) → Below B w w' → wpList Tryz.prog ops Q rest (a.put o.dst v') w') : wpList Tryz.prog ops Q (o :: rest) a w := by
  obtain ⟨i0, hi, hz0, hz1, hz2⟩ := info_parts info_u8b
  obtain ⟨g, cap, rfl, hBg, hgs, hlc, hcells, hspare⟩ := id hrow
  have hcs : strCells ⟨bs.toArray⟩ = bv bs := by simp [strCells, bv]
  have hsz : (⟨bs.toArray⟩ : ByteArray).size = bs.length := by simp [ByteArray.size]
  have hl1 := bv_len l
  have hb1 := bv_len bs
  refine wpList_plain hg fun K hk => ?_
  by_cases hroom : l.length + bs.length ≤ cap
  · have hf := run_firstCells_string (P := Tryz.prog) w 1 ⟨bs.toArray⟩
    have hst := run_storeCells_cells (P := Tryz.prog) g l.length (bv bs) 0 w
      (fun j hj => by rw [hb1] at hj; simpa using (hspare (l.length + j) (by omega) (by omega)).1) (fun j hj => by rw [hb1] at hj; simpa using (hspare (l.length + j) (by omega) (by omega)).2) bv_one
    rw [hcs, hsz] at hf
    have hr : (Builtin.append_ #[101, 9] o.type #[.slice (some ⟨g, 0, none⟩) l.length cap, .string ⟨bs.toArray⟩]).run Tryz.prog w = .ok (.slice (some ⟨g, 0, none⟩) (l.length + bs.length) cap) (w.setCells g l.length (bv bs)) := by
      simp only [Nat.add_zero] at hst
      simp [Builtin.append_, run_underlying Tryz.underlying101, run_underlying Tryz.underlying9, sizeOf, typeInfo, hi, hz1, Builtin.lenOf, hsz, hroom, hf, Addr.add_lit, hst]
    obtain ⟨p1, p2⟩ := hrow.put hroom
    unfold Oper.wp execOp
    simp only [hop, resolve, invoke, builtin, Sem.run_bind, Sem.run_pure, Result.andThen_ok, List.map_toArray, List.map_cons, List.map_nil, hs, hx, hr]
    exact hk _ _ (hK _ _ p1 p2)
  · have hge := grownCap_ge w (l.length + bs.length) cap 5
    have hr := run_append_grow_string (P := Tryz.prog) w 101 9 o.type 5 i0 (.int .u8 0) Tryz.underlying101 Tryz.underlying9 hi hz0 ⟨g, 0, none⟩ l.length cap (bv l) (by rw [hz1, hl1, Nat.mul_one])
      (fun j u hu => by rw [show (⟨g, 0, none⟩ : Addr).add j = ⟨g, j, none⟩ by unfold Addr.add; split <;> simp_all]; exact hcells j u hu) ⟨bs.toArray⟩ (by rw [hsz]; omega) (by rw [hsz]; omega) (by rw [hz2, hsz]; exact growslice_fits (by omega) (by omega))
    rw [hcs, hsz] at hr
    generalize hC : ((bv l).toArray ++ (bv bs).toArray ++ Builtin.zeroCells (Value.int .u8 0).cells (grownCap w (l.length + bs.length) cap 5 - (l.length + bs.length))) = C at hr
    have hCs : C.size = grownCap w (l.length + bs.length) cap 5 := by
      have hz : (Value.int IntKind.u8 0).cells.size = 1 := rfl
      rw [← hC]
      simp only [Array.size_append, List.size_toArray, size_zeroCells, hz, hl1, hb1]
      omega
    have hnew : (w.drew.alloc (.cells C 5)).heap[w.heap.size]? = some (.cells C 5 (0, 0)) := heap_alloc_new w.drew _
    have hsz2 : (w.drew.alloc (.cells C 5)).heap.size = w.heap.size + 1 := by simp
    have hbel : Below B w (w.drew.alloc (.cells C 5)) := ⟨rfl, rfl, rfl, by omega, fun k hk => heap_alloc_old w.drew _ (Nat.lt_of_lt_of_le hk hB)⟩
    unfold Oper.wp execOp
    simp only [hop, resolve, invoke, builtin, Sem.run_bind, Sem.run_pure, Result.andThen_ok, List.map_toArray, List.map_cons, List.map_nil, hs, hx, hr]
    refine hk _ _ (hK _ _ ⟨w.heap.size, _, by rw [List.length_append], hB, by omega, by rw [List.length_append]; exact hge, fun j u hu => ?_, fun j _ hj => ?_⟩ hbel)
    · rw [cell_of_row _ _ j C _ (0, 0) hnew, ← hC]
      rw [← bv_app] at hu
      rw [Array.getElem?_append_left (by simpa [bv_len] using (List.getElem?_eq_some_iff.1 hu).1)]
      simpa using hu
    · rw [cell_of_row _ _ j C _ (0, 0) hnew]
      have hjc : j < C.size := by omega
      refine ⟨by rw [Array.getElem?_eq_getElem hjc]; rfl, ?_⟩
      unfold World.frozen?
      rw [hnew]
      simp
/-- []byte(s), s a text. -/
theorem BRow.conv (w : World) (s : ByteArray) : BRow (bytesWorld w 5 s) w.heap.size (.slice (some ⟨w.heap.size, 0, none⟩) s.size (grownCap w s.size 0 5)) s.data.toList := by
  have hl : s.data.toList.length = s.size := by simp
  have hnew := bytesWorld_at_new w 5 s
  have hge := grownCap_ge w s.size 0 5
  have hcs : (bytesCells w 5 s).size = grownCap w s.size 0 5 := by
    unfold bytesCells
    simp only [Array.size_append, Array.size_map, Array.size_replicate]
    have : s.data.size = s.size := rfl
    omega
  refine ⟨w.heap.size, _, by rw [hl], Nat.le_refl _, by rw [bytesWorld_size]; omega, by rw [hl]; exact hge, fun j u hu => ?_, fun j _ hj => ?_⟩
  · have hj : j < s.size := by have := (List.getElem?_eq_some_iff.1 hu).1; rw [bv_len, hl] at this; exact this
    rw [bytesWorld_cell w 5 s j hj]
    unfold bv at hu
    rw [List.getElem?_map, List.getElem?_eq_getElem (by rw [hl]; exact hj)] at hu
    rw [List.getD_eq_getElem?_getD, List.getElem?_eq_getElem (by rw [hl]; exact hj)]
    exact hu
  · rw [cell_of_row _ _ j _ _ _ hnew]
    have hjc : j < (bytesCells w 5 s).size := by omega
    refine ⟨by rw [Array.getElem?_eq_getElem hjc]; rfl, ?_⟩
    unfold World.frozen?
    rw [hnew]
    simp
    omega
end Go.Proofs.YtbailpfjgjcbdaaGreatDoor

namespace Go.Proofs
open Go.Shelf
shelf_lay Lays.n283 Nm 283 at Tryz as Tryz.laysSmall
end Go.Proofs
namespace Go.Proofs.YtbailpfjgjcbdaaGreatDoor
open Go.RowKit Go.Lib
theorem small_call (u : Nat) (h : u < 100) (w : World) : Calls Tryz.prog 179 #[.int .i64 u] w fun e w' => e = .returned (.string ⟨(decDigits u).toArray⟩) ∧ w' = w :=
  Any.internal_strconv_small Tryz.laysSmall u h w
theorem small_len {u : Nat} (h : u < 100) : (decDigits u).length ≤ 2 := by
  rw [decDigits_length]
  by_cases h10 : u < 10
  · rw [nDigits_small h10]; omega
  · rw [nDigits_big h10, nDigits_small (show u / 10 < 10 by omega)]; omega
set_option maxHeartbeats 1600000 in
set_option maxRecDepth 100000 in
theorem appendUint_small (B u : Nat) (hu : u < 100) (v : Value) (l : List UInt8) (w : World) (hr : BRow w B v l) (hlim : l.length ≤ 1000000) (hB : B ≤ w.heap.size) :
    Calls Tryz.prog 165 #[v, .int .u64 u, .int .i64 10] w fun e w' => ∃ v', e = .returned v' ∧ BRow w' B v' (l ++ decDigits u) ∧ Below B w w' := by
  have HS := Lib.hid (small_len hu)
  have HR := Lib.hid hr
  clear hr
  go_enter Tryz.func165, Tryz.ntmps165
  go_wp2_with (first
    | (go_at_call 179; refine (small_call u hu _).mono ?_; rintro e w' ⟨rfl, rfl⟩)
    | (at_builtin; refine wp_append_text _ rfl _ _ rfl B v l (decDigits u) rfl HR.out rfl (by have := HS.out; omega) hB ?_; intro v' w1 hr1 hb1; have HR1 := Lib.hid hr1; have HB1 := Lib.hid hb1; clear hr1 hb1))
  go_ret
  exact ⟨v', rfl, HR1.out, HB1.out⟩
set_option maxHeartbeats 800000 in
set_option maxRecDepth 100000 in
theorem appendIntIn_small (B u : Nat) (hu : u < 100) (v : Value) (l : List UInt8) (w : World) (hr : BRow w B v l) (hlim : l.length ≤ 1000000) (hB : B ≤ w.heap.size) :
    Calls Tryz.prog 146 #[v, .int .i64 u, .int .i64 10] w fun e w' => ∃ v', e = .returned v' ∧ BRow w' B v' (l ++ decDigits u) ∧ Below B w w' := by
  have HC := Lib.hid (appendUint_small B u hu v l w hr hlim hB)
  clear hr
  go_enter Tryz.func146, Tryz.ntmps146
  go_wp2_with fail
  refine HC.out.mono ?_; rintro e w1 ⟨v', rfl, hr1, hb1⟩
  have HR1 := Lib.hid hr1
  have HB1 := Lib.hid hb1
  clear hr1 hb1
  go_wp2
  go_ret
  exact ⟨v', rfl, HR1.out, HB1.out⟩
set_option maxHeartbeats 800000 in
set_option maxRecDepth 100000 in
theorem appendInt_small (B u : Nat) (hu : u < 100) (v : Value) (l : List UInt8) (w : World) (hr : BRow w B v l) (hlim : l.length ≤ 1000000) (hB : B ≤ w.heap.size) :
    Calls Tryz.prog 127 #[v, .int .i64 u, .int .i64 10] w fun e w' => ∃ v', e = .returned v' ∧ BRow w' B v' (l ++ decDigits u) ∧ Below B w w' := by
  have HC := Lib.hid (appendIntIn_small B u hu v l w hr hlim hB)
  clear hr
  go_enter Tryz.func127, Tryz.ntmps127
  go_wp2_with fail
  refine HC.out.mono ?_; rintro e w1 ⟨v', rfl, hr1, hb1⟩
  have HR1 := Lib.hid hr1
  have HB1 := Lib.hid hb1
  clear hr1 hb1
  go_wp2
  go_ret
  exact ⟨v', rfl, HR1.out, HB1.out⟩
end Go.Proofs.YtbailpfjgjcbdaaGreatDoor

namespace Go.Proofs.YtbailpfjgjcbdaaGreatDoor
open Go.RowKit
theorem l00In_yes (x a b : Int) (h : a ≤ x ∧ x ≤ b) (w : World) :
    Calls Tryz.prog 57 #[.int .i64 x, .int .i64 a, .int .i64 b] w fun e w' => e = .returned (.bool true) ∧ w = w' := by
  obtain ⟨h1, h2⟩ := h
  go_enter Tryz.func57, Tryz.ntmps57
  go_wp2
  go_ret
  exact ⟨rfl, rfl⟩
theorem l00In_no (x a b : Int) (h : x < a ∨ b < x) (w : World) :
    Calls Tryz.prog 57 #[.int .i64 x, .int .i64 a, .int .i64 b] w fun e w' => e = .returned (.bool false) ∧ w = w' := by
  by_cases h1 : a ≤ x
  · have h2 : ¬ x ≤ b := by omega
    go_enter Tryz.func57, Tryz.ntmps57
    go_wp2
    go_ret
    exact ⟨rfl, rfl⟩
  · go_enter Tryz.func57, Tryz.ntmps57
    go_wp2
    go_ret
    exact ⟨rfl, rfl⟩
end Go.Proofs.YtbailpfjgjcbdaaGreatDoor
