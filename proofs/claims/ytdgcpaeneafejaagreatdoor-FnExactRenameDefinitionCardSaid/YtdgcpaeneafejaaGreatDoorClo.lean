/- The program's copies of parts, definitions and components. -/
import Derived.BigQuiet
import Derived.Outline
import Derived.Conc.MuLone
import Derived.Test.YtdgcpaeneafejaaGreatDoorAppR
import Derived.Test.YtdgcpaeneafejaaGreatDoorDatI
namespace Go.Proofs.YtdgcpaeneafejaaGreatDoor
open Go.RowKit
theorem infoMTms : (Tryz.prog.info? 182).map (fun i => (i.zero, i.size, i.bytes)) = some (some (.slice none 0 0), 1, 24) := by kernel_rfl
set_option maxRecDepth 100000 in
set_option maxHeartbeats 2000000 in
theorem mapOTms_any (A : Option Addr) (n c : Nat) (xs : List (List Tm)) (w : World) (S : Nat → Prop) (h : LRow (listR tmR) w S A xs) (hS : ∀ b, S b → b < w.heap.size) (l : xs.length = n) (m : okList (okList okAny) xs) :
    Calls Tryz.prog 147 #[.slice A n c, .func (.func 148) #[] #[]] w (MadeLO (listO tmO 186) 182 (xs) w) := by
  obtain ⟨i0, hi, hz0, hz1, hz2⟩ := info_parts infoMTms
  have hn : n ≤ 1048576 := by have := m.1; omega
  have L := Lib.hid l
  have LY := Lib.hid (show (xs).length = n by exact l)
  have M := Lib.hid m.2
  have HC := Lib.hid (fun (args : Array Value) (W : World) => Go.MuLone.run_callFunc_enter Tryz.func148 rfl rfl args W)
  clear l m
  go_enter Tryz.func147, Tryz.ntmps147
  go_wp2_with (at_make; refine wpList_make_full _ rfl _ _ _ rfl w.heap.size 182 i0 (.slice none 0 0) 1 Tryz.underlying148 hi hz0 hz1 .i64 .i64 _ _ n rfl rfl rfl rfl (by rw [hz2]; omega) (by unfold maxLen; omega) (Nat.le_refl _) ?_; intro w1 hown1 hg1)
  have H0 := Lib.hid (show w1.ownsRow w.heap.size 182 1 (.slice (some ⟨w.heap.size, 0, none⟩) n n) n ([] ++ (madeCells #[.slice none 0 0] ((n - 0) * 1)).toList) from hown1)
  have hb1 := Lib.hid (show Below w.heap.size w w1 from (Below.refl _ _).grown hg1 (Nat.le_refl _) (by simp))
  clear hown1 hg1 hi hz0 hz1 hz2
  go_loopw [6, 7, 13] (fun _ _ i wr => ∃ (k : Nat) (vs : List Value), k ≤ n ∧ i = .int .i64 k ∧ Hid (vs.length = k * 1) ∧ Hid (MadeO (listO tmO 186) wr w.heap.size k vs (xs)) ∧ Hid (Below w.heap.size w wr) ∧ Hid (wr.ownsRow w.heap.size 182 1 (.slice (some ⟨w.heap.size, 0, none⟩) n n) n (vs ++ (madeCells #[.slice none 0 0] ((n - k) * 1)).toList))) (fun _ _ i _ => n - (intOf i).toNat)
  case atStart => exact ⟨0, [], Nat.zero_le _, rfl, Lib.hid (by simp), Lib.hid (MadeO.zero _ _ _ _ _), hb1, H0⟩
  case round =>
    obtain ⟨k, vs, hk, rfl, HV, HE, HB, HO⟩ := hrel
    obtain ⟨wo, rfl⟩ : ∃ wo : World, wo = wr := ⟨_, rfl⟩
    clear H0 hb1
    by_cases hlt : k < n
    · obtain ⟨b, o, cs, x, rfl, hbS, hR, hx, hc⟩ := (h.keep (SameOn.of_below HB.out hS)).at_ (k := k) (by rw [L.out]; exact hlt)
      have hbw0 := hS b hbS
      have hM := M.out x (List.mem_of_getElem? hx.out)
      have HYX := Lib.hid (show (xs)[k]? = some (x) from hx.out)
      have hws : w.heap.size + 1 ≤ wo.heap.size := by
        have := (HO.out.lt _ rfl).2
        exact this
      obtain ⟨A', c', rfl, hlc', hcm', hr'⟩ := hR
      have hc0 : wo.cell? ⟨b, o + k, none⟩ = some (.slice A' x.length c') := (by have := hc 0 _ rfl; simpa [listR] using this)
      clear hc
      have C := Lib.hid (fun (W : World) (hW : Below wo.heap.size wo W) => (Calls.mono (cloneTm_any A' x.length c' x W S (hr'.keep (SameOn.of_below hW fun b hb => Nat.lt_of_lt_of_le (hS b hb) (by omega))) (fun b hb => Nat.lt_of_lt_of_le (hS b hb) (by have := hW.size; omega)) rfl hM.1) (fun e w' ⟨A2, c2, he, hO, hb⟩ => (⟨A2, c2, he, hO.more (fun b h => ⟨Nat.le_trans hW.size h.1, h.2⟩), hW.trans (Below.mono hb hW.size)⟩ : ∃ A2 c2, e = Ending.returned (.slice A2 x.length c2) ∧ OL tmO 186 w' (In wo.heap.size w'.heap.size) A2 x.length c2 x ∧ Below wo.heap.size wo w'))))
      clear hr' hM h
      go_wp2_with fail
      refine (C.out _ (by repeat (first | exact Below.refl _ _ | refine Below.alloc ?_ (by simp <;> omega) _))).mono ?_
      rintro e w2 ⟨A2, c2, rfl, ol, b2⟩
      have HR := Lib.hid (show ((listO tmO 186)).O w2 (In wo.heap.size w2.heap.size) x [.slice A2 x.length c2] from ⟨_, _, rfl, ol⟩)
      obtain ⟨⟨old0, hx0⟩, hf0⟩ := own_some (own_below' HO.out b2) (k := k) (by omega)
      have HO2 := Lib.hid (own_below' HO.out b2)
      have B2 := Lib.hid b2
      clear b2 ol
      go_wp2
      go_roundw
      case rel =>
        have st0 := HO2.out.stored (k) (.slice A2 x.length c2)
        obtain ⟨ml, me⟩ := madeO_step (listO tmO 186) (lo := w.heap.size) HV.out HR.out HYX.out HE.out B2.out hws st0.2
        refine ⟨k + 1, _, by omega, by go_num, Lib.hid ml, Lib.hid me, Lib.hid ((HB.out.trans (B2.out.mono (by omega))).setCell (Nat.le_refl _) _), Lib.hid ?_⟩
        have e := set_next (F := 1) (z := #[.slice none 0 0]) (n := n) HV.out rfl (((listR tmR)).len (((listO tmO 186)).rd HR.out)) hlt
        rw [← e]
        simpa [setAll] using st0.1
      case measure => simp [intOf]; omega
    · obtain rfl : k = n := by omega
      have hown := HO.out
      have e0 : (madeCells #[.slice none 0 0] ((k - k) * 1)).toList = [] := by simp [madeCells]
      rw [e0, List.append_nil] at hown
      have HD := Lib.hid (madeO_done (listO tmO 186) LY.out hown HE.out)
      have HLN := Lib.hid (show (.returned (.slice (some ⟨w.heap.size, 0, none⟩) k k) : Ending) = .returned (.slice (some ⟨w.heap.size, 0, none⟩) (xs).length (xs).length) by rw [LY.out])
      clear hown e0
      go_wp2
      go_ret
      exact ⟨HLN.out, (by have h1 := HD.out; rw [← LY.out] at h1; exact h1), HB.out⟩
set_option maxRecDepth 100000 in
set_option maxHeartbeats 2000000 in
theorem clonePart_any (x : Pt) (A : Option Addr) (c : Nat) (w : World) (S : Nat → Prop) (z2 : x.nm.size ≤ maxLen) (hr : LRow (listR tmR) w S A x.args) (hS : ∀ b, S b → b < w.heap.size) (m : okList (okList okAny) x.args) :
    Calls Tryz.prog 125 #[.agg #[.int .i64 x.k, .int .i64 x.n, .string x.nm, .slice A x.args.length c]] w (MadeRO ptO x w) := by
  have C := Lib.hid (fun (W : World) (hW : Below w.heap.size w W) => mapOTms_any A (x.args).length c (x.args) W S (hr.keep (SameOn.of_below hW hS)) (fun b hb => Nat.lt_of_lt_of_le (hS b hb) hW.size) rfl m)
  clear hr m
  go_enter Tryz.func125, Tryz.ntmps125
  go_wp2_with fail
  refine (C.out _ (by repeat (first | exact Below.refl _ _ | refine Below.alloc ?_ (by simp <;> omega) _))).mono ?_
  rintro e w2 HQ
  obtain ⟨A2, c2, rfl, hl, b2⟩ : ∃ A2 c2, e = .returned (.slice A2 (x.args).length c2) ∧ OL (listO tmO 186) 182 w2 (In (w.heap.size + 2) w2.heap.size) A2 (x.args).length c2 (x.args) ∧ Below (w.heap.size + 2) ((w.alloc (.cells #[.int .i64 x.k, .int .i64 x.n, .string x.nm, .slice A x.args.length c] 150)).alloc (.cells #[.int .i64 0, .int .i64 0, .string ⟨#[]⟩, .slice none 0 0] 150)) w2 := by
    first
      | (obtain ⟨rfl, hl, b2⟩ := HQ; exact ⟨_, _, rfl, by simpa using hl, by simpa using b2⟩)
      | (obtain ⟨A2, c2, rfl, hl, b2⟩ := HQ; exact ⟨_, _, rfl, by simpa using hl, by simpa using b2⟩)
  have hs2 := b2.size
  simp at hs2
  have y0 : w2.cell? ⟨w.heap.size, 0, none⟩ = some (.int .i64 x.k) := (b2.cell (p := ⟨w.heap.size, 0, none⟩) (show w.heap.size < w.heap.size + 2 by omega)).trans (by simp [go_sem])
  have y1 : w2.cell? ⟨w.heap.size, 1, none⟩ = some (.int .i64 x.n) := (b2.cell (p := ⟨w.heap.size, 1, none⟩) (show w.heap.size < w.heap.size + 2 by omega)).trans (by simp [go_sem])
  have y2 : w2.cell? ⟨w.heap.size, 2, none⟩ = some (.string x.nm) := (b2.cell (p := ⟨w.heap.size, 2, none⟩) (show w.heap.size < w.heap.size + 2 by omega)).trans (by simp [go_sem])
  have y3 : w2.cell? ⟨w.heap.size, 3, none⟩ = some (.slice A x.args.length c) := (b2.cell (p := ⟨w.heap.size, 3, none⟩) (show w.heap.size < w.heap.size + 2 by omega)).trans (by simp [go_sem])
  have f3 : w2.frozen? ⟨w.heap.size, 3, none⟩ = false := (b2.frozen (p := ⟨w.heap.size, 3, none⟩) (show w.heap.size < w.heap.size + 2 by omega)).trans (by simp [go_sem])
  have o0 : w2.cell? ⟨w.heap.size + 1, 0, none⟩ = some (.int .i64 0) := (b2.cell (p := ⟨w.heap.size + 1, 0, none⟩) (show w.heap.size + 1 < w.heap.size + 2 by omega)).trans (by simp [go_sem])
  have g0 : w2.frozen? ⟨w.heap.size + 1, 0, none⟩ = false := (b2.frozen (p := ⟨w.heap.size + 1, 0, none⟩) (show w.heap.size + 1 < w.heap.size + 2 by omega)).trans (by simp [go_sem])
  have o1 : w2.cell? ⟨w.heap.size + 1, 1, none⟩ = some (.int .i64 0) := (b2.cell (p := ⟨w.heap.size + 1, 1, none⟩) (show w.heap.size + 1 < w.heap.size + 2 by omega)).trans (by simp [go_sem])
  have g1 : w2.frozen? ⟨w.heap.size + 1, 1, none⟩ = false := (b2.frozen (p := ⟨w.heap.size + 1, 1, none⟩) (show w.heap.size + 1 < w.heap.size + 2 by omega)).trans (by simp [go_sem])
  have o2 : w2.cell? ⟨w.heap.size + 1, 2, none⟩ = some (.string ⟨#[]⟩) := (b2.cell (p := ⟨w.heap.size + 1, 2, none⟩) (show w.heap.size + 1 < w.heap.size + 2 by omega)).trans (by simp [go_sem])
  have g2 : w2.frozen? ⟨w.heap.size + 1, 2, none⟩ = false := (b2.frozen (p := ⟨w.heap.size + 1, 2, none⟩) (show w.heap.size + 1 < w.heap.size + 2 by omega)).trans (by simp [go_sem])
  have o3 : w2.cell? ⟨w.heap.size + 1, 3, none⟩ = some (.slice none 0 0) := (b2.cell (p := ⟨w.heap.size + 1, 3, none⟩) (show w.heap.size + 1 < w.heap.size + 2 by omega)).trans (by simp [go_sem])
  have g3 : w2.frozen? ⟨w.heap.size + 1, 3, none⟩ = false := (b2.frozen (p := ⟨w.heap.size + 1, 3, none⟩) (show w.heap.size + 1 < w.heap.size + 2 by omega)).trans (by simp [go_sem])
  have HL := Lib.hid hl
  have B2 := Lib.hid (show Below w.heap.size w w2 from (((Below.refl w.heap.size w).alloc (Nat.le_refl _) _).alloc (by simp) _).trans (b2.mono (by omega)))
  clear hl b2
  go_wp2
  have SO : ∀ S : Nat → Prop, ¬ S w.heap.size → ¬ S (w.heap.size + 1) → SameB S w2 (((((w2.setCell ⟨w.heap.size, 3, none⟩ (.slice A2 (x.args).length c2)).setCell ⟨w.heap.size + 1, 0, none⟩ (.int .i64 x.k)).setCell ⟨w.heap.size + 1, 1, none⟩ (.int .i64 x.n)).setCell ⟨w.heap.size + 1, 2, none⟩ (.string x.nm)).setCell ⟨w.heap.size + 1, 3, none⟩ (.slice A2 (x.args).length c2)) := fun S n0 n1 => (((((SameB.refl S w2).setCell n0).setCell n1).setCell n1).setCell n1).setCell n1
  have BW : Below w.heap.size w (((((w2.setCell ⟨w.heap.size, 3, none⟩ (.slice A2 (x.args).length c2)).setCell ⟨w.heap.size + 1, 0, none⟩ (.int .i64 x.k)).setCell ⟨w.heap.size + 1, 1, none⟩ (.int .i64 x.n)).setCell ⟨w.heap.size + 1, 2, none⟩ (.string x.nm)).setCell ⟨w.heap.size + 1, 3, none⟩ (.slice A2 (x.args).length c2)) := ((((B2.out.setCell (Nat.le_refl _) _).setCell (by simp) _).setCell (by simp) _).setCell (by simp) _).setCell (by simp) _
  have r0 : (((((w2.setCell ⟨w.heap.size, 3, none⟩ (.slice A2 (x.args).length c2)).setCell ⟨w.heap.size + 1, 0, none⟩ (.int .i64 x.k)).setCell ⟨w.heap.size + 1, 1, none⟩ (.int .i64 x.n)).setCell ⟨w.heap.size + 1, 2, none⟩ (.string x.nm)).setCell ⟨w.heap.size + 1, 3, none⟩ (.slice A2 (x.args).length c2)).cell? ⟨w.heap.size + 1, 0, none⟩ = some (.int .i64 x.k) := by simp [go_sem, o0]
  have r1 : (((((w2.setCell ⟨w.heap.size, 3, none⟩ (.slice A2 (x.args).length c2)).setCell ⟨w.heap.size + 1, 0, none⟩ (.int .i64 x.k)).setCell ⟨w.heap.size + 1, 1, none⟩ (.int .i64 x.n)).setCell ⟨w.heap.size + 1, 2, none⟩ (.string x.nm)).setCell ⟨w.heap.size + 1, 3, none⟩ (.slice A2 (x.args).length c2)).cell? ⟨w.heap.size + 1, 1, none⟩ = some (.int .i64 x.n) := by simp [go_sem, o1]
  have r2 : (((((w2.setCell ⟨w.heap.size, 3, none⟩ (.slice A2 (x.args).length c2)).setCell ⟨w.heap.size + 1, 0, none⟩ (.int .i64 x.k)).setCell ⟨w.heap.size + 1, 1, none⟩ (.int .i64 x.n)).setCell ⟨w.heap.size + 1, 2, none⟩ (.string x.nm)).setCell ⟨w.heap.size + 1, 3, none⟩ (.slice A2 (x.args).length c2)).cell? ⟨w.heap.size + 1, 2, none⟩ = some (.string x.nm) := by simp [go_sem, o2]
  have r3 : (((((w2.setCell ⟨w.heap.size, 3, none⟩ (.slice A2 (x.args).length c2)).setCell ⟨w.heap.size + 1, 0, none⟩ (.int .i64 x.k)).setCell ⟨w.heap.size + 1, 1, none⟩ (.int .i64 x.n)).setCell ⟨w.heap.size + 1, 2, none⟩ (.string x.nm)).setCell ⟨w.heap.size + 1, 3, none⟩ (.slice A2 (x.args).length c2)).cell? ⟨w.heap.size + 1, 3, none⟩ = some (.slice A2 (x.args).length c2) := by simp [go_sem, o3]
  have hsz : (((((w2.setCell ⟨w.heap.size, 3, none⟩ (.slice A2 (x.args).length c2)).setCell ⟨w.heap.size + 1, 0, none⟩ (.int .i64 x.k)).setCell ⟨w.heap.size + 1, 1, none⟩ (.int .i64 x.n)).setCell ⟨w.heap.size + 1, 2, none⟩ (.string x.nm)).setCell ⟨w.heap.size + 1, 3, none⟩ (.slice A2 (x.args).length c2)).heap.size = w2.heap.size := by simp [World.setCell]
  clear y0 y1 y2 y3 o0 g0 o1 g1 o2 g2 o3 g3 f3
  generalize (((((w2.setCell ⟨w.heap.size, 3, none⟩ (.slice A2 (x.args).length c2)).setCell ⟨w.heap.size + 1, 0, none⟩ (.int .i64 x.k)).setCell ⟨w.heap.size + 1, 1, none⟩ (.int .i64 x.n)).setCell ⟨w.heap.size + 1, 2, none⟩ (.string x.nm)).setCell ⟨w.heap.size + 1, 3, none⟩ (.slice A2 (x.args).length c2)) = WF at *
  refine bodyPost_ret (v := .agg #[.int .i64 x.k, .int .i64 x.n, .string x.nm, .slice A2 (x.args).length c2]) (by simp [results, Tryz.results125, go_sem, r0, r1, r2, r3]; (try rfl)) rfl ⟨[.int .i64 x.k, .int .i64 x.n, .string x.nm, .slice A2 (x.args).length c2], rfl, ⟨A2, c2, rfl, z2, ?_⟩, BW⟩
  refine OL.more (OL.keep HL.out (SO _ (fun h => by have := h.1; omega) (fun h => by have := h.1; omega))) fun b hb => ⟨by have := hb.1; omega, by rw [hsz]; exact hb.2⟩
theorem infoMPart : (Tryz.prog.info? 150).map (fun i => (i.zero, i.size, i.bytes)) = some (some (.agg #[.int .i64 0, .int .i64 0, .string ⟨#[]⟩, .slice none 0 0]), 4, 56) := by kernel_rfl
set_option maxRecDepth 100000 in
set_option maxHeartbeats 2000000 in
theorem mapOPart_any (A : Option Addr) (n c : Nat) (xs : List (Pt)) (w : World) (S : Nat → Prop) (h : LRow ptR w S A xs) (hS : ∀ b, S b → b < w.heap.size) (l : xs.length = n) (m : okList okPt xs) :
    Calls Tryz.prog 124 #[.slice A n c, .func (.func 125) #[] #[]] w (MadeLO ptO 150 (xs) w) := by
  obtain ⟨i0, hi, hz0, hz1, hz2⟩ := info_parts infoMPart
  have hn : n ≤ 1048576 := by have := m.1; omega
  have L := Lib.hid l
  have LY := Lib.hid (show (xs).length = n by exact l)
  have M := Lib.hid m.2
  have HC := Lib.hid (fun (args : Array Value) (W : World) => Go.MuLone.run_callFunc_enter Tryz.func125 rfl rfl args W)
  clear l m
  go_enter Tryz.func124, Tryz.ntmps124
  go_wp2_with (at_make; refine wpList_make_full _ rfl _ _ _ rfl w.heap.size 150 i0 (.agg #[.int .i64 0, .int .i64 0, .string ⟨#[]⟩, .slice none 0 0]) 4 Tryz.underlying86 hi hz0 hz1 .i64 .i64 _ _ n rfl rfl rfl rfl (by rw [hz2]; omega) (by unfold maxLen; omega) (Nat.le_refl _) ?_; intro w1 hown1 hg1)
  have H0 := Lib.hid (show w1.ownsRow w.heap.size 150 4 (.slice (some ⟨w.heap.size, 0, none⟩) n n) n ([] ++ (madeCells #[.int .i64 0, .int .i64 0, .string ⟨#[]⟩, .slice none 0 0] ((n - 0) * 4)).toList) from hown1)
  have hb1 := Lib.hid (show Below w.heap.size w w1 from (Below.refl _ _).grown hg1 (Nat.le_refl _) (by simp))
  clear hown1 hg1 hi hz0 hz1 hz2
  go_loopw [6, 7, 13] (fun _ _ i wr => ∃ (k : Nat) (vs : List Value), k ≤ n ∧ i = .int .i64 k ∧ Hid (vs.length = k * 4) ∧ Hid (MadeO ptO wr w.heap.size k vs (xs)) ∧ Hid (Below w.heap.size w wr) ∧ Hid (wr.ownsRow w.heap.size 150 4 (.slice (some ⟨w.heap.size, 0, none⟩) n n) n (vs ++ (madeCells #[.int .i64 0, .int .i64 0, .string ⟨#[]⟩, .slice none 0 0] ((n - k) * 4)).toList))) (fun _ _ i _ => n - (intOf i).toNat)
  case atStart => exact ⟨0, [], Nat.zero_le _, rfl, Lib.hid (by simp), Lib.hid (MadeO.zero _ _ _ _ _), hb1, H0⟩
  case round =>
    obtain ⟨k, vs, hk, rfl, HV, HE, HB, HO⟩ := hrel
    obtain ⟨wo, rfl⟩ : ∃ wo : World, wo = wr := ⟨_, rfl⟩
    clear H0 hb1
    by_cases hlt : k < n
    · obtain ⟨b, o, cs, x, rfl, hbS, hR, hx, hc⟩ := (h.keep (SameOn.of_below HB.out hS)).at_ (k := k) (by rw [L.out]; exact hlt)
      have hbw0 := hS b hbS
      have hM := M.out x (List.mem_of_getElem? hx.out)
      have HYX := Lib.hid (show (xs)[k]? = some (x) from hx.out)
      have hws : w.heap.size + 1 ≤ wo.heap.size := by
        have := (HO.out.lt _ rfl).2
        exact this
      obtain ⟨A', c', rfl, hz'2, hlc', hcm', hr'⟩ := hR
      have hc0 : wo.cell? ⟨b, o + k * 4, none⟩ = some (.int .i64 x.k) := hc 0 _ rfl
      have hc1 : wo.cell? ⟨b, o + k * 4 + 1, none⟩ = some (.int .i64 x.n) := hc 1 _ rfl
      have hc2 : wo.cell? ⟨b, o + k * 4 + 2, none⟩ = some (.string x.nm) := hc 2 _ rfl
      have hc3 : wo.cell? ⟨b, o + k * 4 + 3, none⟩ = some (.slice A' x.args.length c') := hc 3 _ rfl
      clear hc
      have C := Lib.hid (fun (W : World) (hW : Below wo.heap.size wo W) => (Calls.mono (clonePart_any x A' c' W S hz'2 (hr'.keep (SameOn.of_below hW fun b hb => Nat.lt_of_lt_of_le (hS b hb) (by omega))) (fun b hb => Nat.lt_of_lt_of_le (hS b hb) (by have := hW.size; omega)) hM.2) (fun e w' ⟨cs2, he, hO, hb⟩ => (⟨cs2, he, (ptO).more hO (fun b h => ⟨Nat.le_trans hW.size h.1, h.2⟩), hW.trans (Below.mono hb hW.size)⟩ : ∃ cs2 : List Value, e = Ending.returned (.agg cs2.toArray) ∧ (ptO).O w' (In wo.heap.size w'.heap.size) (x) cs2 ∧ Below wo.heap.size wo w'))))
      clear hr' hz'2 hM h
      go_wp2_with fail
      refine (C.out _ (by repeat (first | exact Below.refl _ _ | refine Below.alloc ?_ (by simp <;> omega) _))).mono ?_
      rintro e w2 ⟨cs2, rfl, hR2, b2⟩
      have HR := Lib.hid hR2
      obtain ⟨A2, c2, rfl, hz22, hr2⟩ := hR2
      obtain ⟨⟨old0, hx0⟩, hf0⟩ := own_some (own_below' HO.out b2) (k := k * 4) (by omega); obtain ⟨⟨old1, hx1⟩, hf1⟩ := own_some (own_below' HO.out b2) (k := k * 4 + 1) (by omega); obtain ⟨⟨old2, hx2⟩, hf2⟩ := own_some (own_below' HO.out b2) (k := k * 4 + 2) (by omega); obtain ⟨⟨old3, hx3⟩, hf3⟩ := own_some (own_below' HO.out b2) (k := k * 4 + 3) (by omega)
      have HO2 := Lib.hid (own_below' HO.out b2)
      have B2 := Lib.hid b2
      clear b2 hr2
      go_wp2
      go_roundw
      case rel =>
        have st0 := HO2.out.stored (k * 4) (.int .i64 x.k)
        have st1 := st0.1.stored (k * 4 + 1) (.int .i64 x.n)
        have st2 := st1.1.stored (k * 4 + 2) (.string x.nm)
        have st3 := st2.1.stored (k * 4 + 3) (.slice A2 x.args.length c2)
        obtain ⟨ml, me⟩ := madeO_step ptO (lo := w.heap.size) HV.out HR.out HYX.out HE.out B2.out hws (grown_trans (grown_trans (grown_trans st0.2 st1.2) st2.2) st3.2)
        refine ⟨k + 1, _, by omega, by go_num, Lib.hid ml, Lib.hid me, Lib.hid (((((HB.out.trans (B2.out.mono (by omega))).setCell (Nat.le_refl _) _).setCell (Nat.le_refl _) _).setCell (Nat.le_refl _) _).setCell (Nat.le_refl _) _), Lib.hid ?_⟩
        have e := set_next (F := 4) (z := #[.int .i64 0, .int .i64 0, .string ⟨#[]⟩, .slice none 0 0]) (n := n) HV.out rfl ((ptR).len ((ptO).rd HR.out)) hlt
        rw [← e]
        exact st3.1
      case measure => simp [intOf]; omega
    · obtain rfl : k = n := by omega
      have hown := HO.out
      have e0 : (madeCells #[.int .i64 0, .int .i64 0, .string ⟨#[]⟩, .slice none 0 0] ((k - k) * 4)).toList = [] := by simp [madeCells]
      rw [e0, List.append_nil] at hown
      have HD := Lib.hid (madeO_done ptO LY.out hown HE.out)
      have HLN := Lib.hid (show (.returned (.slice (some ⟨w.heap.size, 0, none⟩) k k) : Ending) = .returned (.slice (some ⟨w.heap.size, 0, none⟩) (xs).length (xs).length) by rw [LY.out])
      clear hown e0
      go_wp2
      go_ret
      exact ⟨HLN.out, (by have h1 := HD.out; rw [← LY.out] at h1; exact h1), HB.out⟩
set_option maxRecDepth 100000 in
set_option maxHeartbeats 2000000 in
theorem cloneDefinition_any (x : Df) (A : Option Addr) (c : Nat) (w : World) (S : Nat → Prop) (z0 : x.nm.size ≤ maxLen) (hr : LRow ptR w S A x.body) (hS : ∀ b, S b → b < w.heap.size) (m : okList okPt x.body) :
    Calls Tryz.prog 97 #[.agg #[.string x.nm, .int .i64 x.ps, .slice A x.body.length c]] w (MadeRO dfO x w) := by
  have C := Lib.hid (fun (W : World) (hW : Below w.heap.size w W) => mapOPart_any A (x.body).length c (x.body) W S (hr.keep (SameOn.of_below hW hS)) (fun b hb => Nat.lt_of_lt_of_le (hS b hb) hW.size) rfl m)
  clear hr m
  go_enter Tryz.func97, Tryz.ntmps97
  go_wp2_with fail
  refine (C.out _ (by repeat (first | exact Below.refl _ _ | refine Below.alloc ?_ (by simp <;> omega) _))).mono ?_
  rintro e w2 HQ
  obtain ⟨A2, c2, rfl, hl, b2⟩ : ∃ A2 c2, e = .returned (.slice A2 (x.body).length c2) ∧ OL ptO 150 w2 (In (w.heap.size + 2) w2.heap.size) A2 (x.body).length c2 (x.body) ∧ Below (w.heap.size + 2) ((w.alloc (.cells #[.string x.nm, .int .i64 x.ps, .slice A x.body.length c] 88)).alloc (.cells #[.string ⟨#[]⟩, .int .i64 0, .slice none 0 0] 88)) w2 := by
    first
      | (obtain ⟨rfl, hl, b2⟩ := HQ; exact ⟨_, _, rfl, by simpa using hl, by simpa using b2⟩)
      | (obtain ⟨A2, c2, rfl, hl, b2⟩ := HQ; exact ⟨_, _, rfl, by simpa using hl, by simpa using b2⟩)
  have hs2 := b2.size
  simp at hs2
  have y0 : w2.cell? ⟨w.heap.size, 0, none⟩ = some (.string x.nm) := (b2.cell (p := ⟨w.heap.size, 0, none⟩) (show w.heap.size < w.heap.size + 2 by omega)).trans (by simp [go_sem])
  have y1 : w2.cell? ⟨w.heap.size, 1, none⟩ = some (.int .i64 x.ps) := (b2.cell (p := ⟨w.heap.size, 1, none⟩) (show w.heap.size < w.heap.size + 2 by omega)).trans (by simp [go_sem])
  have y2 : w2.cell? ⟨w.heap.size, 2, none⟩ = some (.slice A x.body.length c) := (b2.cell (p := ⟨w.heap.size, 2, none⟩) (show w.heap.size < w.heap.size + 2 by omega)).trans (by simp [go_sem])
  have f2 : w2.frozen? ⟨w.heap.size, 2, none⟩ = false := (b2.frozen (p := ⟨w.heap.size, 2, none⟩) (show w.heap.size < w.heap.size + 2 by omega)).trans (by simp [go_sem])
  have o0 : w2.cell? ⟨w.heap.size + 1, 0, none⟩ = some (.string ⟨#[]⟩) := (b2.cell (p := ⟨w.heap.size + 1, 0, none⟩) (show w.heap.size + 1 < w.heap.size + 2 by omega)).trans (by simp [go_sem])
  have g0 : w2.frozen? ⟨w.heap.size + 1, 0, none⟩ = false := (b2.frozen (p := ⟨w.heap.size + 1, 0, none⟩) (show w.heap.size + 1 < w.heap.size + 2 by omega)).trans (by simp [go_sem])
  have o1 : w2.cell? ⟨w.heap.size + 1, 1, none⟩ = some (.int .i64 0) := (b2.cell (p := ⟨w.heap.size + 1, 1, none⟩) (show w.heap.size + 1 < w.heap.size + 2 by omega)).trans (by simp [go_sem])
  have g1 : w2.frozen? ⟨w.heap.size + 1, 1, none⟩ = false := (b2.frozen (p := ⟨w.heap.size + 1, 1, none⟩) (show w.heap.size + 1 < w.heap.size + 2 by omega)).trans (by simp [go_sem])
  have o2 : w2.cell? ⟨w.heap.size + 1, 2, none⟩ = some (.slice none 0 0) := (b2.cell (p := ⟨w.heap.size + 1, 2, none⟩) (show w.heap.size + 1 < w.heap.size + 2 by omega)).trans (by simp [go_sem])
  have g2 : w2.frozen? ⟨w.heap.size + 1, 2, none⟩ = false := (b2.frozen (p := ⟨w.heap.size + 1, 2, none⟩) (show w.heap.size + 1 < w.heap.size + 2 by omega)).trans (by simp [go_sem])
  have HL := Lib.hid hl
  have B2 := Lib.hid (show Below w.heap.size w w2 from (((Below.refl w.heap.size w).alloc (Nat.le_refl _) _).alloc (by simp) _).trans (b2.mono (by omega)))
  clear hl b2
  go_wp2
  have SO : ∀ S : Nat → Prop, ¬ S w.heap.size → ¬ S (w.heap.size + 1) → SameB S w2 ((((w2.setCell ⟨w.heap.size, 2, none⟩ (.slice A2 (x.body).length c2)).setCell ⟨w.heap.size + 1, 0, none⟩ (.string x.nm)).setCell ⟨w.heap.size + 1, 1, none⟩ (.int .i64 x.ps)).setCell ⟨w.heap.size + 1, 2, none⟩ (.slice A2 (x.body).length c2)) := fun S n0 n1 => ((((SameB.refl S w2).setCell n0).setCell n1).setCell n1).setCell n1
  have BW : Below w.heap.size w ((((w2.setCell ⟨w.heap.size, 2, none⟩ (.slice A2 (x.body).length c2)).setCell ⟨w.heap.size + 1, 0, none⟩ (.string x.nm)).setCell ⟨w.heap.size + 1, 1, none⟩ (.int .i64 x.ps)).setCell ⟨w.heap.size + 1, 2, none⟩ (.slice A2 (x.body).length c2)) := (((B2.out.setCell (Nat.le_refl _) _).setCell (by simp) _).setCell (by simp) _).setCell (by simp) _
  have r0 : ((((w2.setCell ⟨w.heap.size, 2, none⟩ (.slice A2 (x.body).length c2)).setCell ⟨w.heap.size + 1, 0, none⟩ (.string x.nm)).setCell ⟨w.heap.size + 1, 1, none⟩ (.int .i64 x.ps)).setCell ⟨w.heap.size + 1, 2, none⟩ (.slice A2 (x.body).length c2)).cell? ⟨w.heap.size + 1, 0, none⟩ = some (.string x.nm) := by simp [go_sem, o0]
  have r1 : ((((w2.setCell ⟨w.heap.size, 2, none⟩ (.slice A2 (x.body).length c2)).setCell ⟨w.heap.size + 1, 0, none⟩ (.string x.nm)).setCell ⟨w.heap.size + 1, 1, none⟩ (.int .i64 x.ps)).setCell ⟨w.heap.size + 1, 2, none⟩ (.slice A2 (x.body).length c2)).cell? ⟨w.heap.size + 1, 1, none⟩ = some (.int .i64 x.ps) := by simp [go_sem, o1]
  have r2 : ((((w2.setCell ⟨w.heap.size, 2, none⟩ (.slice A2 (x.body).length c2)).setCell ⟨w.heap.size + 1, 0, none⟩ (.string x.nm)).setCell ⟨w.heap.size + 1, 1, none⟩ (.int .i64 x.ps)).setCell ⟨w.heap.size + 1, 2, none⟩ (.slice A2 (x.body).length c2)).cell? ⟨w.heap.size + 1, 2, none⟩ = some (.slice A2 (x.body).length c2) := by simp [go_sem, o2]
  have hsz : ((((w2.setCell ⟨w.heap.size, 2, none⟩ (.slice A2 (x.body).length c2)).setCell ⟨w.heap.size + 1, 0, none⟩ (.string x.nm)).setCell ⟨w.heap.size + 1, 1, none⟩ (.int .i64 x.ps)).setCell ⟨w.heap.size + 1, 2, none⟩ (.slice A2 (x.body).length c2)).heap.size = w2.heap.size := by simp [World.setCell]
  clear y0 y1 y2 o0 g0 o1 g1 o2 g2 f2
  generalize ((((w2.setCell ⟨w.heap.size, 2, none⟩ (.slice A2 (x.body).length c2)).setCell ⟨w.heap.size + 1, 0, none⟩ (.string x.nm)).setCell ⟨w.heap.size + 1, 1, none⟩ (.int .i64 x.ps)).setCell ⟨w.heap.size + 1, 2, none⟩ (.slice A2 (x.body).length c2)) = WF at *
  refine bodyPost_ret (v := .agg #[.string x.nm, .int .i64 x.ps, .slice A2 (x.body).length c2]) (by simp [results, Tryz.results97, go_sem, r0, r1, r2]; (try rfl)) rfl ⟨[.string x.nm, .int .i64 x.ps, .slice A2 (x.body).length c2], rfl, ⟨A2, c2, rfl, z0, ?_⟩, BW⟩
  refine OL.more (OL.keep HL.out (SO _ (fun h => by have := h.1; omega) (fun h => by have := h.1; omega))) fun b hb => ⟨by have := hb.1; omega, by rw [hsz]; exact hb.2⟩
theorem infoMDefinition : (Tryz.prog.info? 88).map (fun i => (i.zero, i.size, i.bytes)) = some (some (.agg #[.string ⟨#[]⟩, .int .i64 0, .slice none 0 0]), 3, 48) := by kernel_rfl
set_option maxRecDepth 100000 in
set_option maxHeartbeats 2000000 in
theorem mapODefinition_any (A : Option Addr) (n c : Nat) (xs : List (Df)) (w : World) (S : Nat → Prop) (h : LRow dfR w S A xs) (hS : ∀ b, S b → b < w.heap.size) (l : xs.length = n) (m : okList okDf xs) :
    Calls Tryz.prog 96 #[.slice A n c, .func (.func 97) #[] #[]] w (MadeLO dfO 88 (xs) w) := by
  obtain ⟨i0, hi, hz0, hz1, hz2⟩ := info_parts infoMDefinition
  have hn : n ≤ 1048576 := by have := m.1; omega
  have L := Lib.hid l
  have LY := Lib.hid (show (xs).length = n by exact l)
  have M := Lib.hid m.2
  have HC := Lib.hid (fun (args : Array Value) (W : World) => Go.MuLone.run_callFunc_enter Tryz.func97 rfl rfl args W)
  clear l m
  go_enter Tryz.func96, Tryz.ntmps96
  go_wp2_with (at_make; refine wpList_make_full _ rfl _ _ _ rfl w.heap.size 88 i0 (.agg #[.string ⟨#[]⟩, .int .i64 0, .slice none 0 0]) 3 Tryz.underlying31 hi hz0 hz1 .i64 .i64 _ _ n rfl rfl rfl rfl (by rw [hz2]; omega) (by unfold maxLen; omega) (Nat.le_refl _) ?_; intro w1 hown1 hg1)
  have H0 := Lib.hid (show w1.ownsRow w.heap.size 88 3 (.slice (some ⟨w.heap.size, 0, none⟩) n n) n ([] ++ (madeCells #[.string ⟨#[]⟩, .int .i64 0, .slice none 0 0] ((n - 0) * 3)).toList) from hown1)
  have hb1 := Lib.hid (show Below w.heap.size w w1 from (Below.refl _ _).grown hg1 (Nat.le_refl _) (by simp))
  clear hown1 hg1 hi hz0 hz1 hz2
  go_loopw [6, 7, 13] (fun _ _ i wr => ∃ (k : Nat) (vs : List Value), k ≤ n ∧ i = .int .i64 k ∧ Hid (vs.length = k * 3) ∧ Hid (MadeO dfO wr w.heap.size k vs (xs)) ∧ Hid (Below w.heap.size w wr) ∧ Hid (wr.ownsRow w.heap.size 88 3 (.slice (some ⟨w.heap.size, 0, none⟩) n n) n (vs ++ (madeCells #[.string ⟨#[]⟩, .int .i64 0, .slice none 0 0] ((n - k) * 3)).toList))) (fun _ _ i _ => n - (intOf i).toNat)
  case atStart => exact ⟨0, [], Nat.zero_le _, rfl, Lib.hid (by simp), Lib.hid (MadeO.zero _ _ _ _ _), hb1, H0⟩
  case round =>
    obtain ⟨k, vs, hk, rfl, HV, HE, HB, HO⟩ := hrel
    obtain ⟨wo, rfl⟩ : ∃ wo : World, wo = wr := ⟨_, rfl⟩
    clear H0 hb1
    by_cases hlt : k < n
    · obtain ⟨b, o, cs, x, rfl, hbS, hR, hx, hc⟩ := (h.keep (SameOn.of_below HB.out hS)).at_ (k := k) (by rw [L.out]; exact hlt)
      have hbw0 := hS b hbS
      have hM := M.out x (List.mem_of_getElem? hx.out)
      have HYX := Lib.hid (show (xs)[k]? = some (x) from hx.out)
      have hws : w.heap.size + 1 ≤ wo.heap.size := by
        have := (HO.out.lt _ rfl).2
        exact this
      obtain ⟨A', c', rfl, hz'0, hlc', hcm', hr'⟩ := hR
      have hc0 : wo.cell? ⟨b, o + k * 3, none⟩ = some (.string x.nm) := hc 0 _ rfl
      have hc1 : wo.cell? ⟨b, o + k * 3 + 1, none⟩ = some (.int .i64 x.ps) := hc 1 _ rfl
      have hc2 : wo.cell? ⟨b, o + k * 3 + 2, none⟩ = some (.slice A' x.body.length c') := hc 2 _ rfl
      clear hc
      have C := Lib.hid (fun (W : World) (hW : Below wo.heap.size wo W) => (Calls.mono (cloneDefinition_any x A' c' W S hz'0 (hr'.keep (SameOn.of_below hW fun b hb => Nat.lt_of_lt_of_le (hS b hb) (by omega))) (fun b hb => Nat.lt_of_lt_of_le (hS b hb) (by have := hW.size; omega)) hM.2) (fun e w' ⟨cs2, he, hO, hb⟩ => (⟨cs2, he, (dfO).more hO (fun b h => ⟨Nat.le_trans hW.size h.1, h.2⟩), hW.trans (Below.mono hb hW.size)⟩ : ∃ cs2 : List Value, e = Ending.returned (.agg cs2.toArray) ∧ (dfO).O w' (In wo.heap.size w'.heap.size) (x) cs2 ∧ Below wo.heap.size wo w'))))
      clear hr' hz'0 hM h
      go_wp2_with fail
      refine (C.out _ (by repeat (first | exact Below.refl _ _ | refine Below.alloc ?_ (by simp <;> omega) _))).mono ?_
      rintro e w2 ⟨cs2, rfl, hR2, b2⟩
      have HR := Lib.hid hR2
      obtain ⟨A2, c2, rfl, hz20, hr2⟩ := hR2
      obtain ⟨⟨old0, hx0⟩, hf0⟩ := own_some (own_below' HO.out b2) (k := k * 3) (by omega); obtain ⟨⟨old1, hx1⟩, hf1⟩ := own_some (own_below' HO.out b2) (k := k * 3 + 1) (by omega); obtain ⟨⟨old2, hx2⟩, hf2⟩ := own_some (own_below' HO.out b2) (k := k * 3 + 2) (by omega)
      have HO2 := Lib.hid (own_below' HO.out b2)
      have B2 := Lib.hid b2
      clear b2 hr2
      go_wp2
      go_roundw
      case rel =>
        have st0 := HO2.out.stored (k * 3) (.string x.nm)
        have st1 := st0.1.stored (k * 3 + 1) (.int .i64 x.ps)
        have st2 := st1.1.stored (k * 3 + 2) (.slice A2 x.body.length c2)
        obtain ⟨ml, me⟩ := madeO_step dfO (lo := w.heap.size) HV.out HR.out HYX.out HE.out B2.out hws (grown_trans (grown_trans st0.2 st1.2) st2.2)
        refine ⟨k + 1, _, by omega, by go_num, Lib.hid ml, Lib.hid me, Lib.hid ((((HB.out.trans (B2.out.mono (by omega))).setCell (Nat.le_refl _) _).setCell (Nat.le_refl _) _).setCell (Nat.le_refl _) _), Lib.hid ?_⟩
        have e := set_next (F := 3) (z := #[.string ⟨#[]⟩, .int .i64 0, .slice none 0 0]) (n := n) HV.out rfl ((dfR).len ((dfO).rd HR.out)) hlt
        rw [← e]
        exact st2.1
      case measure => simp [intOf]; omega
    · obtain rfl : k = n := by omega
      have hown := HO.out
      have e0 : (madeCells #[.string ⟨#[]⟩, .int .i64 0, .slice none 0 0] ((k - k) * 3)).toList = [] := by simp [madeCells]
      rw [e0, List.append_nil] at hown
      have HD := Lib.hid (madeO_done dfO LY.out hown HE.out)
      have HLN := Lib.hid (show (.returned (.slice (some ⟨w.heap.size, 0, none⟩) k k) : Ending) = .returned (.slice (some ⟨w.heap.size, 0, none⟩) (xs).length (xs).length) by rw [LY.out])
      clear hown e0
      go_wp2
      go_ret
      exact ⟨HLN.out, (by have h1 := HD.out; rw [← LY.out] at h1; exact h1), HB.out⟩
set_option maxRecDepth 100000 in
set_option maxHeartbeats 2000000 in
theorem cloneComponent_any (x : Cp) (A : Option Addr) (c : Nat) (w : World) (S : Nat → Prop) (hr : LRow intR w S A x.vs) (hS : ∀ b, S b → b < w.heap.size) (m : okList okAny x.vs) :
    Calls Tryz.prog 59 #[.agg #[.int .i64 x.d, .slice A x.vs.length c]] w (MadeRO cpO x w) := by
  have C := Lib.hid (fun (W : World) (hW : Below w.heap.size w W) => cloneInt_any A (x.vs).length c (x.vs) W S (hr.keep (SameOn.of_below hW hS)) (fun b hb => Nat.lt_of_lt_of_le (hS b hb) hW.size) rfl m.1)
  clear hr m
  go_enter Tryz.func59, Tryz.ntmps59
  go_wp2_with fail
  refine (C.out _ (by repeat (first | exact Below.refl _ _ | refine Below.alloc ?_ (by simp <;> omega) _))).mono ?_
  rintro e w2 HQ
  obtain ⟨A2, c2, rfl, hl, b2⟩ : ∃ A2 c2, e = .returned (.slice A2 (x.vs).length c2) ∧ OL intO 2 w2 (In (w.heap.size + 2) w2.heap.size) A2 (x.vs).length c2 (x.vs) ∧ Below (w.heap.size + 2) ((w.alloc (.cells #[.int .i64 x.d, .slice A x.vs.length c] 45)).alloc (.cells #[.int .i64 0, .slice none 0 0] 45)) w2 := by
    first
      | (obtain ⟨rfl, hl, b2⟩ := HQ; exact ⟨_, _, rfl, by simpa using hl, by simpa using b2⟩)
      | (obtain ⟨A2, c2, rfl, hl, b2⟩ := HQ; exact ⟨_, _, rfl, by simpa using hl, by simpa using b2⟩)
  have hs2 := b2.size
  simp at hs2
  have y0 : w2.cell? ⟨w.heap.size, 0, none⟩ = some (.int .i64 x.d) := (b2.cell (p := ⟨w.heap.size, 0, none⟩) (show w.heap.size < w.heap.size + 2 by omega)).trans (by simp [go_sem])
  have y1 : w2.cell? ⟨w.heap.size, 1, none⟩ = some (.slice A x.vs.length c) := (b2.cell (p := ⟨w.heap.size, 1, none⟩) (show w.heap.size < w.heap.size + 2 by omega)).trans (by simp [go_sem])
  have f1 : w2.frozen? ⟨w.heap.size, 1, none⟩ = false := (b2.frozen (p := ⟨w.heap.size, 1, none⟩) (show w.heap.size < w.heap.size + 2 by omega)).trans (by simp [go_sem])
  have o0 : w2.cell? ⟨w.heap.size + 1, 0, none⟩ = some (.int .i64 0) := (b2.cell (p := ⟨w.heap.size + 1, 0, none⟩) (show w.heap.size + 1 < w.heap.size + 2 by omega)).trans (by simp [go_sem])
  have g0 : w2.frozen? ⟨w.heap.size + 1, 0, none⟩ = false := (b2.frozen (p := ⟨w.heap.size + 1, 0, none⟩) (show w.heap.size + 1 < w.heap.size + 2 by omega)).trans (by simp [go_sem])
  have o1 : w2.cell? ⟨w.heap.size + 1, 1, none⟩ = some (.slice none 0 0) := (b2.cell (p := ⟨w.heap.size + 1, 1, none⟩) (show w.heap.size + 1 < w.heap.size + 2 by omega)).trans (by simp [go_sem])
  have g1 : w2.frozen? ⟨w.heap.size + 1, 1, none⟩ = false := (b2.frozen (p := ⟨w.heap.size + 1, 1, none⟩) (show w.heap.size + 1 < w.heap.size + 2 by omega)).trans (by simp [go_sem])
  have HL := Lib.hid hl
  have B2 := Lib.hid (show Below w.heap.size w w2 from (((Below.refl w.heap.size w).alloc (Nat.le_refl _) _).alloc (by simp) _).trans (b2.mono (by omega)))
  clear hl b2
  go_wp2
  have SO : ∀ S : Nat → Prop, ¬ S w.heap.size → ¬ S (w.heap.size + 1) → SameB S w2 (((w2.setCell ⟨w.heap.size, 1, none⟩ (.slice A2 (x.vs).length c2)).setCell ⟨w.heap.size + 1, 0, none⟩ (.int .i64 x.d)).setCell ⟨w.heap.size + 1, 1, none⟩ (.slice A2 (x.vs).length c2)) := fun S n0 n1 => (((SameB.refl S w2).setCell n0).setCell n1).setCell n1
  have BW : Below w.heap.size w (((w2.setCell ⟨w.heap.size, 1, none⟩ (.slice A2 (x.vs).length c2)).setCell ⟨w.heap.size + 1, 0, none⟩ (.int .i64 x.d)).setCell ⟨w.heap.size + 1, 1, none⟩ (.slice A2 (x.vs).length c2)) := ((B2.out.setCell (Nat.le_refl _) _).setCell (by simp) _).setCell (by simp) _
  have r0 : (((w2.setCell ⟨w.heap.size, 1, none⟩ (.slice A2 (x.vs).length c2)).setCell ⟨w.heap.size + 1, 0, none⟩ (.int .i64 x.d)).setCell ⟨w.heap.size + 1, 1, none⟩ (.slice A2 (x.vs).length c2)).cell? ⟨w.heap.size + 1, 0, none⟩ = some (.int .i64 x.d) := by simp [go_sem, o0]
  have r1 : (((w2.setCell ⟨w.heap.size, 1, none⟩ (.slice A2 (x.vs).length c2)).setCell ⟨w.heap.size + 1, 0, none⟩ (.int .i64 x.d)).setCell ⟨w.heap.size + 1, 1, none⟩ (.slice A2 (x.vs).length c2)).cell? ⟨w.heap.size + 1, 1, none⟩ = some (.slice A2 (x.vs).length c2) := by simp [go_sem, o1]
  have hsz : (((w2.setCell ⟨w.heap.size, 1, none⟩ (.slice A2 (x.vs).length c2)).setCell ⟨w.heap.size + 1, 0, none⟩ (.int .i64 x.d)).setCell ⟨w.heap.size + 1, 1, none⟩ (.slice A2 (x.vs).length c2)).heap.size = w2.heap.size := by simp [World.setCell]
  clear y0 y1 o0 g0 o1 g1 f1
  generalize (((w2.setCell ⟨w.heap.size, 1, none⟩ (.slice A2 (x.vs).length c2)).setCell ⟨w.heap.size + 1, 0, none⟩ (.int .i64 x.d)).setCell ⟨w.heap.size + 1, 1, none⟩ (.slice A2 (x.vs).length c2)) = WF at *
  refine bodyPost_ret (v := .agg #[.int .i64 x.d, .slice A2 (x.vs).length c2]) (by simp [results, Tryz.results59, go_sem, r0, r1]; (try rfl)) rfl ⟨[.int .i64 x.d, .slice A2 (x.vs).length c2], rfl, ⟨A2, c2, rfl, ?_⟩, BW⟩
  refine OL.more (OL.keep HL.out (SO _ (fun h => by have := h.1; omega) (fun h => by have := h.1; omega))) fun b hb => ⟨by have := hb.1; omega, by rw [hsz]; exact hb.2⟩
theorem infoMComponent : (Tryz.prog.info? 45).map (fun i => (i.zero, i.size, i.bytes)) = some (some (.agg #[.int .i64 0, .slice none 0 0]), 2, 32) := by kernel_rfl
set_option maxRecDepth 100000 in
set_option maxHeartbeats 2000000 in
theorem mapOComponent_any (A : Option Addr) (n c : Nat) (xs : List (Cp)) (w : World) (S : Nat → Prop) (h : LRow cpR w S A xs) (hS : ∀ b, S b → b < w.heap.size) (l : xs.length = n) (m : okList okCp xs) :
    Calls Tryz.prog 98 #[.slice A n c, .func (.func 59) #[] #[]] w (MadeLO cpO 45 (xs) w) := by
  obtain ⟨i0, hi, hz0, hz1, hz2⟩ := info_parts infoMComponent
  have hn : n ≤ 1048576 := by have := m.1; omega
  have L := Lib.hid l
  have LY := Lib.hid (show (xs).length = n by exact l)
  have M := Lib.hid m.2
  have HC := Lib.hid (fun (args : Array Value) (W : World) => Go.MuLone.run_callFunc_enter Tryz.func59 rfl rfl args W)
  clear l m
  go_enter Tryz.func98, Tryz.ntmps98
  go_wp2_with (at_make; refine wpList_make_full _ rfl _ _ _ rfl w.heap.size 45 i0 (.agg #[.int .i64 0, .slice none 0 0]) 2 Tryz.underlying32 hi hz0 hz1 .i64 .i64 _ _ n rfl rfl rfl rfl (by rw [hz2]; omega) (by unfold maxLen; omega) (Nat.le_refl _) ?_; intro w1 hown1 hg1)
  have H0 := Lib.hid (show w1.ownsRow w.heap.size 45 2 (.slice (some ⟨w.heap.size, 0, none⟩) n n) n ([] ++ (madeCells #[.int .i64 0, .slice none 0 0] ((n - 0) * 2)).toList) from hown1)
  have hb1 := Lib.hid (show Below w.heap.size w w1 from (Below.refl _ _).grown hg1 (Nat.le_refl _) (by simp))
  clear hown1 hg1 hi hz0 hz1 hz2
  go_loopw [6, 7, 13] (fun _ _ i wr => ∃ (k : Nat) (vs : List Value), k ≤ n ∧ i = .int .i64 k ∧ Hid (vs.length = k * 2) ∧ Hid (MadeO cpO wr w.heap.size k vs (xs)) ∧ Hid (Below w.heap.size w wr) ∧ Hid (wr.ownsRow w.heap.size 45 2 (.slice (some ⟨w.heap.size, 0, none⟩) n n) n (vs ++ (madeCells #[.int .i64 0, .slice none 0 0] ((n - k) * 2)).toList))) (fun _ _ i _ => n - (intOf i).toNat)
  case atStart => exact ⟨0, [], Nat.zero_le _, rfl, Lib.hid (by simp), Lib.hid (MadeO.zero _ _ _ _ _), hb1, H0⟩
  case round =>
    obtain ⟨k, vs, hk, rfl, HV, HE, HB, HO⟩ := hrel
    obtain ⟨wo, rfl⟩ : ∃ wo : World, wo = wr := ⟨_, rfl⟩
    clear H0 hb1
    by_cases hlt : k < n
    · obtain ⟨b, o, cs, x, rfl, hbS, hR, hx, hc⟩ := (h.keep (SameOn.of_below HB.out hS)).at_ (k := k) (by rw [L.out]; exact hlt)
      have hbw0 := hS b hbS
      have hM := M.out x (List.mem_of_getElem? hx.out)
      have HYX := Lib.hid (show (xs)[k]? = some (x) from hx.out)
      have hws : w.heap.size + 1 ≤ wo.heap.size := by
        have := (HO.out.lt _ rfl).2
        exact this
      obtain ⟨A', c', rfl, hlc', hcm', hr'⟩ := hR
      have hc0 : wo.cell? ⟨b, o + k * 2, none⟩ = some (.int .i64 x.d) := hc 0 _ rfl
      have hc1 : wo.cell? ⟨b, o + k * 2 + 1, none⟩ = some (.slice A' x.vs.length c') := hc 1 _ rfl
      clear hc
      have C := Lib.hid (fun (W : World) (hW : Below wo.heap.size wo W) => (Calls.mono (cloneComponent_any x A' c' W S (hr'.keep (SameOn.of_below hW fun b hb => Nat.lt_of_lt_of_le (hS b hb) (by omega))) (fun b hb => Nat.lt_of_lt_of_le (hS b hb) (by have := hW.size; omega)) hM) (fun e w' ⟨cs2, he, hO, hb⟩ => (⟨cs2, he, (cpO).more hO (fun b h => ⟨Nat.le_trans hW.size h.1, h.2⟩), hW.trans (Below.mono hb hW.size)⟩ : ∃ cs2 : List Value, e = Ending.returned (.agg cs2.toArray) ∧ (cpO).O w' (In wo.heap.size w'.heap.size) (x) cs2 ∧ Below wo.heap.size wo w'))))
      clear hr' hM h
      go_wp2_with fail
      refine (C.out _ (by repeat (first | exact Below.refl _ _ | refine Below.alloc ?_ (by simp <;> omega) _))).mono ?_
      rintro e w2 ⟨cs2, rfl, hR2, b2⟩
      have HR := Lib.hid hR2
      obtain ⟨A2, c2, rfl, hr2⟩ := hR2
      obtain ⟨⟨old0, hx0⟩, hf0⟩ := own_some (own_below' HO.out b2) (k := k * 2) (by omega); obtain ⟨⟨old1, hx1⟩, hf1⟩ := own_some (own_below' HO.out b2) (k := k * 2 + 1) (by omega)
      have HO2 := Lib.hid (own_below' HO.out b2)
      have B2 := Lib.hid b2
      clear b2 hr2
      go_wp2
      go_roundw
      case rel =>
        have st0 := HO2.out.stored (k * 2) (.int .i64 x.d)
        have st1 := st0.1.stored (k * 2 + 1) (.slice A2 x.vs.length c2)
        obtain ⟨ml, me⟩ := madeO_step cpO (lo := w.heap.size) HV.out HR.out HYX.out HE.out B2.out hws (grown_trans st0.2 st1.2)
        refine ⟨k + 1, _, by omega, by go_num, Lib.hid ml, Lib.hid me, Lib.hid (((HB.out.trans (B2.out.mono (by omega))).setCell (Nat.le_refl _) _).setCell (Nat.le_refl _) _), Lib.hid ?_⟩
        have e := set_next (F := 2) (z := #[.int .i64 0, .slice none 0 0]) (n := n) HV.out rfl ((cpR).len ((cpO).rd HR.out)) hlt
        rw [← e]
        exact st1.1
      case measure => simp [intOf]; omega
    · obtain rfl : k = n := by omega
      have hown := HO.out
      have e0 : (madeCells #[.int .i64 0, .slice none 0 0] ((k - k) * 2)).toList = [] := by simp [madeCells]
      rw [e0, List.append_nil] at hown
      have HD := Lib.hid (madeO_done cpO LY.out hown HE.out)
      have HLN := Lib.hid (show (.returned (.slice (some ⟨w.heap.size, 0, none⟩) k k) : Ending) = .returned (.slice (some ⟨w.heap.size, 0, none⟩) (xs).length (xs).length) by rw [LY.out])
      clear hown e0
      go_wp2
      go_ret
      exact ⟨HLN.out, (by have h1 := HD.out; rw [← LY.out] at h1; exact h1), HB.out⟩
end Go.Proofs.YtdgcpaeneafejaaGreatDoor
