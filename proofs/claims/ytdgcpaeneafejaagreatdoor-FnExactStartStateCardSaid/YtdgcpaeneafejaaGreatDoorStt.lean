/- StartState, both sides. -/
import Derived.StillTailTactics
import Derived.BigQuiet
import Derived.Outline
import Derived.Deep.RegionWith
import Derived.Deep.RegionLaw
import Derived.Deep.RegionHeld3
import Derived.Test.YtdgcpaeneafejaaGreatDoorClo
import Derived.Test.YtdgcpaeneafejaaGreatDoorGrow
import Derived.Test.YtdgcpaeneafejaaGreatDoorSfLow
import Derived.Test.YtdgcpaeneafejaaGreatDoorSfU
import Derived.Test.YtdgcpaeneafejaaGreatDoorSfL
namespace Go.Proofs.YtdgcpaeneafejaaGreatDoor
open Go.RowKit
def cpPn (x : Cp) : Pn := ⟨x.d, 0, x.vs⟩
noncomputable def stL (s : Sy) : List Pn := if vsB s = true then s.cs.map cpPn else []
noncomputable def stC (s : Sy) : Int := if vsB s = true then 0 else 1
theorem stL_no {s : Sy} (h : vsB s = false) : stL s = [] := by unfold stL; rw [h]; rfl
theorem stL_yes {s : Sy} (h : vsB s = true) : stL s = s.cs.map cpPn := by unfold stL; rw [h]; rfl
theorem stC_no {s : Sy} (h : vsB s = false) : stC s = 1 := by unfold stC; rw [h]; rfl
theorem stC_yes {s : Sy} (h : vsB s = true) : stC s = 0 := by unfold stC; rw [h]; rfl
theorem ok_st {s : Sy} (ok : okSy s) : okList okPn (stL s) := by
  rcases tv : vsB s with _ | _
  · rw [stL_no tv]; exact ⟨by simp, fun x h => by simp at h⟩
  · rw [stL_yes tv]
    refine ⟨by rw [List.length_map]; exact ok.2.1.1, fun x h => ?_⟩
    obtain ⟨y, hy, rfl⟩ := List.mem_map.1 h
    exact ok.2.1.2 y hy
theorem wt_st (s : Sy) : wL wtPn (stL s) ≤ wtSy s := by
  rcases tv : vsB s with _ | _
  · rw [stL_no tv]; exact Nat.zero_le _
  · rw [stL_yes tv]
    have h : ∀ xs : List Cp, sW wtPn (xs.map cpPn) = sW wtCp xs := by
      intro xs
      induction xs with
      | nil => rfl
      | cons x xs ih => simp only [List.map_cons, sW, ih]; rfl
    have h2 : wL wtPn (s.cs.map cpPn) = wL wtCp s.cs := by unfold wL; rw [h, List.length_map]
    rw [h2]
    unfold wtSy
    omega
theorem cnt_pn (xs : List Pn) : cntL pnM xs ≤ 3 * wL wtPn xs := cntL_le (a := 2) (fun x => by show 2 + cntL intM x.vs ≤ 2 + 3 * wL wtZ x.vs; have := cnt_int x.vs; omega) (by decide) xs
/-- A list of points of the call's own, and a code. -/
def RetP2 (xs : List Pn) (code : Int) (w : World) (e : Ending) (w' : World) : Prop :=
  ∃ A c, e = .returned (.tuple #[.slice A xs.length c, .int .i64 code]) ∧ OL pnO 106 w' (In w.heap.size w'.heap.size) A xs.length c xs ∧ Below w.heap.size w w'
theorem RetP2.nil {xs : List Pn} {code q : Int} {w w' : World} (h : xs = []) (hq : code = q) (hb : Below w.heap.size w w') : RetP2 xs code w (.returned (.tuple #[.slice none 0 0, .int .i64 q])) w' := by
  subst h hq
  exact ⟨none, 0, rfl, OL.nil, hb⟩
theorem RetP2.mk' {xs ys : List Pn} {code q : Int} {w w' : World} {A : Option Addr} {n c lo : Nat} (h : xs = ys) (hq : code = q) (ho : OL pnO 106 w' (In lo w'.heap.size) A n c ys) (hlo : w.heap.size ≤ lo) (hb : Below w.heap.size w w') : RetP2 xs code w (.returned (.tuple #[.slice A n c, .int .i64 q])) w' := by
  subst h hq
  obtain rfl := ho.len
  exact ⟨A, c, rfl, ho.more fun b k => ⟨Nat.le_trans hlo k.1, k.2⟩, hb⟩
set_option maxRecDepth 100000 in
set_option maxHeartbeats 1000000 in
theorem start_any (x : Cp) (A : Option Addr) (c : Nat) (w : World) (S : Nat → Prop) (hr : LRow intR w S A x.vs) (hS : ∀ b, S b → b < w.heap.size) (m : okList okAny x.vs) :
    Calls Tryz.prog 82 #[.agg #[.int .i64 x.d, .slice A x.vs.length c]] w (MadeRO pnO (cpPn x) w) := by
  have C := Lib.hid (fun (W : World) (hW : Below w.heap.size w W) => cloneInt_any A x.vs.length c x.vs W S (hr.keep (SameOn.of_below hW hS)) (fun b hb => Nat.lt_of_lt_of_le (hS b hb) hW.size) rfl m.1)
  clear hr m
  go_enter Tryz.func82, Tryz.ntmps82
  go_wp2
  have q0 : ((w.alloc (.cells #[.int .i64 x.d, .slice A x.vs.length c] 45)).alloc (.cells #[.int .i64 0, .int .i64 0, .slice none 0 0] 106)).drew.cell? ⟨w.heap.size, 0, none⟩ = some (.int .i64 x.d) := by simp [go_sem]
  have q1 : ((w.alloc (.cells #[.int .i64 x.d, .slice A x.vs.length c] 45)).alloc (.cells #[.int .i64 0, .int .i64 0, .slice none 0 0] 106)).drew.cell? ⟨w.heap.size, 1, none⟩ = some (.slice A x.vs.length c) := by simp [go_sem]
  have o0 : ((w.alloc (.cells #[.int .i64 x.d, .slice A x.vs.length c] 45)).alloc (.cells #[.int .i64 0, .int .i64 0, .slice none 0 0] 106)).cell? ⟨w.heap.size + 1, 0, none⟩ = some (.int .i64 0) := by simp [go_sem]
  have o1 : ((w.alloc (.cells #[.int .i64 x.d, .slice A x.vs.length c] 45)).alloc (.cells #[.int .i64 0, .int .i64 0, .slice none 0 0] 106)).cell? ⟨w.heap.size + 1, 1, none⟩ = some (.int .i64 0) := by simp [go_sem]
  have o2 : ((w.alloc (.cells #[.int .i64 x.d, .slice A x.vs.length c] 45)).alloc (.cells #[.int .i64 0, .int .i64 0, .slice none 0 0] 106)).cell? ⟨w.heap.size + 1, 2, none⟩ = some (.slice none 0 0) := by simp [go_sem]
  have g0 : ∀ j, ((w.alloc (.cells #[.int .i64 x.d, .slice A x.vs.length c] 45)).alloc (.cells #[.int .i64 0, .int .i64 0, .slice none 0 0] 106)).frozen? ⟨w.heap.size + 1, j, none⟩ = false := fun j => by simp [go_sem]
  have b0 : Below w.heap.size w ((w.alloc (.cells #[.int .i64 x.d, .slice A x.vs.length c] 45)).alloc (.cells #[.int .i64 0, .int .i64 0, .slice none 0 0] 106)) := ((Below.refl w.heap.size w).alloc (Nat.le_refl _) _).alloc (by simp) _
  have z0 : ((w.alloc (.cells #[.int .i64 x.d, .slice A x.vs.length c] 45)).alloc (.cells #[.int .i64 0, .int .i64 0, .slice none 0 0] 106)).heap.size = w.heap.size + 2 := by simp
  generalize ((w.alloc (.cells #[.int .i64 x.d, .slice A x.vs.length c] 45)).alloc (.cells #[.int .i64 0, .int .i64 0, .slice none 0 0] 106)) = W0 at *
  have C2 : Calls Tryz.prog 101 #[.slice A x.vs.length c] W0.drew (fun e w2 => ∃ A2 c2, e = .returned (.slice A2 x.vs.length c2) ∧ Hid (OL intO 2 w2 (In (w.heap.size + 2) w2.heap.size) A2 x.vs.length c2 x.vs) ∧ Hid (Below w.heap.size w w2) ∧ w.heap.size + 2 ≤ w2.heap.size ∧ w2.cell? ⟨w.heap.size + 1, 0, none⟩ = some (.int .i64 0) ∧ w2.cell? ⟨w.heap.size + 1, 1, none⟩ = some (.int .i64 0) ∧ w2.cell? ⟨w.heap.size + 1, 2, none⟩ = some (.slice none 0 0) ∧ w2.frozen? ⟨w.heap.size + 1, 0, none⟩ = false ∧ w2.frozen? ⟨w.heap.size + 1, 1, none⟩ = false ∧ w2.frozen? ⟨w.heap.size + 1, 2, none⟩ = false ∧ w2.cell? ⟨w.heap.size, 0, none⟩ = some (.int .i64 x.d)) := by
    refine (C.out _ b0.drew).mono ?_
    rintro e w2 ⟨A2, c2, rfl, hl, b2⟩
    have b2 : Below W0.heap.size W0 w2 := ((Below.refl _ _).drew).trans b2
    have hl : OL intO 2 w2 (In W0.heap.size w2.heap.size) A2 x.vs.length c2 x.vs := hl
    have hs2 := b2.size
    rw [z0] at hl b2 hs2
    have k : ∀ j, w2.cell? ⟨w.heap.size + 1, j, none⟩ = W0.cell? ⟨w.heap.size + 1, j, none⟩ := fun j => b2.cell (p := ⟨w.heap.size + 1, j, none⟩) (show w.heap.size + 1 < w.heap.size + 2 by omega)
    have k2 : ∀ j, w2.frozen? ⟨w.heap.size + 1, j, none⟩ = false := fun j => (b2.frozen (p := ⟨w.heap.size + 1, j, none⟩) (show w.heap.size + 1 < w.heap.size + 2 by omega)).trans (g0 j)
    exact ⟨A2, c2, rfl, Lib.hid hl, Lib.hid (b0.trans (b2.mono (by omega))), hs2, (k 0).trans o0, (k 1).trans o1, (k 2).trans o2, k2 0, k2 1, k2 2, (b2.cell (p := ⟨w.heap.size, 0, none⟩) (show w.heap.size < w.heap.size + 2 by omega)).trans q0⟩
  have CC := Lib.hid C2
  clear C2
  go_region_with (go_at_call 101; refine (CC.out).mono ?_; rintro e w2 ⟨A2, c2, rfl, HL, B2, hs2, y0, y1, y2, f0, f1, f2, p0⟩)
  all_goals
  clear b0 q0 q1 o0 o1 o2 g0
  go_wp2
  have SO : ∀ S : Nat → Prop, ¬ S (w.heap.size + 1) → SameB S w2 (((w2.setCell ⟨w.heap.size + 1, 0, none⟩ (.int .i64 x.d)).setCell ⟨w.heap.size + 1, 1, none⟩ (.int .i64 0)).setCell ⟨w.heap.size + 1, 2, none⟩ (.slice A2 x.vs.length c2)) := fun S n1 => (((SameB.refl S w2).setCell n1).setCell n1).setCell n1
  have BW : Below w.heap.size w (((w2.setCell ⟨w.heap.size + 1, 0, none⟩ (.int .i64 x.d)).setCell ⟨w.heap.size + 1, 1, none⟩ (.int .i64 0)).setCell ⟨w.heap.size + 1, 2, none⟩ (.slice A2 x.vs.length c2)) := ((B2.out.setCell (by simp) _).setCell (by simp) _).setCell (by simp) _
  have r0 : (((w2.setCell ⟨w.heap.size + 1, 0, none⟩ (.int .i64 x.d)).setCell ⟨w.heap.size + 1, 1, none⟩ (.int .i64 0)).setCell ⟨w.heap.size + 1, 2, none⟩ (.slice A2 x.vs.length c2)).cell? ⟨w.heap.size + 1, 0, none⟩ = some (.int .i64 x.d) := by simp [go_sem, y0]
  have r1 : (((w2.setCell ⟨w.heap.size + 1, 0, none⟩ (.int .i64 x.d)).setCell ⟨w.heap.size + 1, 1, none⟩ (.int .i64 0)).setCell ⟨w.heap.size + 1, 2, none⟩ (.slice A2 x.vs.length c2)).cell? ⟨w.heap.size + 1, 1, none⟩ = some (.int .i64 0) := by simp [go_sem, y1]
  have r2 : (((w2.setCell ⟨w.heap.size + 1, 0, none⟩ (.int .i64 x.d)).setCell ⟨w.heap.size + 1, 1, none⟩ (.int .i64 0)).setCell ⟨w.heap.size + 1, 2, none⟩ (.slice A2 x.vs.length c2)).cell? ⟨w.heap.size + 1, 2, none⟩ = some (.slice A2 x.vs.length c2) := by simp [go_sem, y2]
  have hsz : (((w2.setCell ⟨w.heap.size + 1, 0, none⟩ (.int .i64 x.d)).setCell ⟨w.heap.size + 1, 1, none⟩ (.int .i64 0)).setCell ⟨w.heap.size + 1, 2, none⟩ (.slice A2 x.vs.length c2)).heap.size = w2.heap.size := by simp [World.setCell]
  clear y0 y1 y2 f0 f1 f2
  generalize (((w2.setCell ⟨w.heap.size + 1, 0, none⟩ (.int .i64 x.d)).setCell ⟨w.heap.size + 1, 1, none⟩ (.int .i64 0)).setCell ⟨w.heap.size + 1, 2, none⟩ (.slice A2 x.vs.length c2)) = WF at *
  refine bodyPost_ret (v := .agg #[.int .i64 x.d, .int .i64 0, .slice A2 x.vs.length c2]) (by simp [results, Tryz.results82, go_sem, r0, r1, r2]; (try rfl)) rfl ⟨[.int .i64 x.d, .int .i64 0, .slice A2 x.vs.length c2], rfl, ⟨A2, c2, rfl, ?_⟩, BW⟩
  exact OL.more (OL.keep HL.out (SO _ (fun h => by have := h.1; omega))) fun b hb => ⟨by have := hb.1; omega, by rw [hsz]; exact hb.2⟩
theorem infoMStart : (Tryz.prog.info? 106).map (fun i => (i.zero, i.size, i.bytes)) = some (some (.agg #[.int .i64 0, .int .i64 0, .slice none 0 0]), 3, 40) := by kernel_rfl
set_option maxRecDepth 100000 in
set_option maxHeartbeats 2000000 in
theorem mapOStart_any (A : Option Addr) (n c : Nat) (xs : List (Cp)) (w : World) (S : Nat → Prop) (h : LRow cpR w S A xs) (hS : ∀ b, S b → b < w.heap.size) (l : xs.length = n) (m : okList okCp xs) :
    Calls Tryz.prog 81 #[.slice A n c, .func (.func 82) #[] #[]] w (MadeLO pnO 106 (xs.map cpPn) w) := by
  obtain ⟨i0, hi, hz0, hz1, hz2⟩ := info_parts infoMStart
  have hn : n ≤ 1048576 := by have := m.1; omega
  have L := Lib.hid l
  have LY := Lib.hid (show (xs.map cpPn).length = n by rw [List.length_map]; exact l)
  have M := Lib.hid m.2
  have HC := Lib.hid (fun (args : Array Value) (W : World) => Go.MuLone.run_callFunc_enter Tryz.func82 rfl rfl args W)
  clear l m
  go_enter Tryz.func81, Tryz.ntmps81
  go_wp2_with (at_make; refine wpList_make_full _ rfl _ _ _ rfl w.heap.size 106 i0 (.agg #[.int .i64 0, .int .i64 0, .slice none 0 0]) 3 Tryz.underlying58 hi hz0 hz1 .i64 .i64 _ _ n rfl rfl rfl rfl (by rw [hz2]; omega) (by unfold maxLen; omega) (Nat.le_refl _) ?_; intro w1 hown1 hg1)
  have H0 := Lib.hid (show w1.ownsRow w.heap.size 106 3 (.slice (some ⟨w.heap.size, 0, none⟩) n n) n ([] ++ (madeCells #[.int .i64 0, .int .i64 0, .slice none 0 0] ((n - 0) * 3)).toList) from hown1)
  have hb1 := Lib.hid (show Below w.heap.size w w1 from (Below.refl _ _).grown hg1 (Nat.le_refl _) (by simp))
  clear hown1 hg1 hi hz0 hz1 hz2
  go_loopw [6, 7, 13] (fun _ _ i wr => ∃ (k : Nat) (vs : List Value), k ≤ n ∧ i = .int .i64 k ∧ Hid (vs.length = k * 3) ∧ Hid (MadeO pnO wr w.heap.size k vs (xs.map cpPn)) ∧ Hid (Below w.heap.size w wr) ∧ Hid (wr.ownsRow w.heap.size 106 3 (.slice (some ⟨w.heap.size, 0, none⟩) n n) n (vs ++ (madeCells #[.int .i64 0, .int .i64 0, .slice none 0 0] ((n - k) * 3)).toList))) (fun _ _ i _ => n - (intOf i).toNat)
  case atStart => exact ⟨0, [], Nat.zero_le _, rfl, Lib.hid (by simp), Lib.hid (MadeO.zero _ _ _ _ _), hb1, H0⟩
  case round =>
    obtain ⟨k, vs, hk, rfl, HV, HE, HB, HO⟩ := hrel
    obtain ⟨wo, rfl⟩ : ∃ wo : World, wo = wr := ⟨_, rfl⟩
    clear H0 hb1
    by_cases hlt : k < n
    · obtain ⟨b, o, cs, x, rfl, hbS, hR, hx, hc⟩ := (h.keep (SameOn.of_below HB.out hS)).at_ (k := k) (by rw [L.out]; exact hlt)
      have hbw0 := hS b hbS
      have hM := M.out x (List.mem_of_getElem? hx.out)
      have HYX := Lib.hid (show (xs.map cpPn)[k]? = some (cpPn x) from (by rw [List.getElem?_map, hx.out]; rfl))
      have hws : w.heap.size + 1 ≤ wo.heap.size := by
        have := (HO.out.lt _ rfl).2
        exact this
      obtain ⟨A', c', rfl, hlc', hcm', hr'⟩ := hR
      have hc0 : wo.cell? ⟨b, o + k * 2, none⟩ = some (.int .i64 x.d) := hc 0 _ rfl
      have hc1 : wo.cell? ⟨b, o + k * 2 + 1, none⟩ = some (.slice A' x.vs.length c') := hc 1 _ rfl
      clear hc
      have C := Lib.hid (fun (W : World) (hW : Below wo.heap.size wo W) => (Calls.mono (start_any x A' c' W S (hr'.keep (SameOn.of_below hW fun b hb => Nat.lt_of_lt_of_le (hS b hb) (by omega))) (fun b hb => Nat.lt_of_lt_of_le (hS b hb) (by have := hW.size; omega)) hM) (fun e w' ⟨cs2, he, hO, hb⟩ => (⟨cs2, he, (pnO).more hO (fun b h => ⟨Nat.le_trans hW.size h.1, h.2⟩), hW.trans (Below.mono hb hW.size)⟩ : ∃ cs2 : List Value, e = Ending.returned (.agg cs2.toArray) ∧ (pnO).O w' (In wo.heap.size w'.heap.size) (cpPn x) cs2 ∧ Below wo.heap.size wo w'))))
      clear hr' hM h
      go_wp2_with fail
      refine (C.out _ (by repeat (first | exact Below.refl _ _ | refine Below.alloc ?_ (by simp <;> omega) _))).mono ?_
      rintro e w2 ⟨cs2, rfl, hR2, b2⟩
      have HR := Lib.hid hR2
      obtain ⟨A2, c2, e2, hr2⟩ := hR2
      have e2 : cs2 = [.int .i64 x.d, .int .i64 0, .slice A2 x.vs.length c2] := e2
      subst e2
      obtain ⟨⟨old0, hx0⟩, hf0⟩ := own_some (own_below' HO.out b2) (k := k * 3) (by omega); obtain ⟨⟨old1, hx1⟩, hf1⟩ := own_some (own_below' HO.out b2) (k := k * 3 + 1) (by omega); obtain ⟨⟨old2, hx2⟩, hf2⟩ := own_some (own_below' HO.out b2) (k := k * 3 + 2) (by omega)
      have HO2 := Lib.hid (own_below' HO.out b2)
      have B2 := Lib.hid b2
      clear b2 hr2
      go_wp2
      go_roundw
      case rel =>
        have st0 := HO2.out.stored (k * 3) (.int .i64 x.d)
        have st1 := st0.1.stored (k * 3 + 1) (.int .i64 0)
        have st2 := st1.1.stored (k * 3 + 2) (.slice A2 x.vs.length c2)
        obtain ⟨ml, me⟩ := madeO_step pnO (lo := w.heap.size) HV.out HR.out HYX.out HE.out B2.out hws (grown_trans (grown_trans st0.2 st1.2) st2.2)
        refine ⟨k + 1, _, by omega, by go_num, Lib.hid ml, Lib.hid me, Lib.hid ((((HB.out.trans (B2.out.mono (by omega))).setCell (Nat.le_refl _) _).setCell (Nat.le_refl _) _).setCell (Nat.le_refl _) _), Lib.hid ?_⟩
        have e := set_next (F := 3) (z := #[.int .i64 0, .int .i64 0, .slice none 0 0]) (n := n) HV.out rfl ((pnR).len ((pnO).rd HR.out)) hlt
        rw [← e]
        exact st2.1
      case measure => simp [intOf]; omega
    · obtain rfl : k = n := by omega
      have hown := HO.out
      have e0 : (madeCells #[.int .i64 0, .int .i64 0, .slice none 0 0] ((k - k) * 3)).toList = [] := by simp [madeCells]
      rw [e0, List.append_nil] at hown
      have HD := Lib.hid (madeO_done pnO LY.out hown HE.out)
      have HLN := Lib.hid (show (.returned (.slice (some ⟨w.heap.size, 0, none⟩) k k) : Ending) = .returned (.slice (some ⟨w.heap.size, 0, none⟩) (xs.map cpPn).length (xs.map cpPn).length) by rw [LY.out])
      clear hown e0
      go_wp2
      go_ret
      exact ⟨HLN.out, (by have h1 := HD.out; rw [← LY.out] at h1; exact h1), HB.out⟩
set_option maxRecDepth 100000 in
set_option maxHeartbeats 1000000 in
theorem specStartL_any (p : Nat) (s : Sy) (A2 : Option Addr) (c2 : Nat) (w : World) (S : Nat → Prop) (g : LRow cpR w S A2 s.cs) (hS : ∀ b, S b → b < w.heap.size) (m : okList okCp s.cs) (z1 : w.cell? ⟨p, 1, none⟩ = some (.slice A2 s.cs.length c2)) :
    Calls Tryz.prog 80 #[.pointer (some ⟨p, 0, none⟩)] w fun e w' => ∃ A c, e = .returned (.slice A s.cs.length c) ∧ OL pnO 106 w' (In w.heap.size w'.heap.size) A s.cs.length c (s.cs.map cpPn) ∧ Below w.heap.size w w' := by
  have hml := m.1
  have hp : p < w.heap.size := World.block_lt_of_cell? w _ z1
  have H2 := Lib.hid g
  have HS := Lib.hid hS
  have M := Lib.hid m.2
  have Z1 := Lib.hid z1
  have G0 := Lib.hid (GrowO.made pnO 106 w w.heap.size (Nat.le_refl _))
  clear g hS m
  go_enter Tryz.func80, Tryz.ntmps80
  go_wp2
  clear z1
  go_loopw [3, 4] (fun v i wr => ∃ k : Nat, k ≤ s.cs.length ∧ i = .int .i64 k ∧ Hid (Below w.heap.size w wr) ∧ wr.cell? ⟨p, 1, none⟩ = some (.slice A2 s.cs.length c2) ∧ Hid (GrowO pnO 106 wr w.heap.size v k ((s.cs.take k).map cpPn))) (fun _ i _ => s.cs.length - (intOf i).toNat)
  case atStart => exact ⟨0, Nat.zero_le _, rfl, Lib.hid ((Below.refl _ _).alloc (Nat.le_refl _) _), by simpa [go_sem, hp] using Z1.out, G0⟩
  case round =>
    obtain ⟨k, hk, rfl, HB, y1, HG⟩ := hrel
    obtain ⟨wo, rfl⟩ : ∃ wo : World, wo = wr := ⟨_, rfl⟩
    have hsz := HB.out.size
    have hpr : p < wo.heap.size := by omega
    obtain ⟨AG, cG, rfl⟩ := HG.out.form
    clear G0
    by_cases hlt : k < s.cs.length
    · obtain ⟨b, o, cs0, x, rfl, hb, hR, hx, hc⟩ := (H2.out.keep (SameOn.of_below HB.out HS.out)).at_ (k := k) hlt
      obtain ⟨V, cv, rfl, hlv, hcv, hrv⟩ := hR
      have r0 : wo.cell? ⟨b, o + k * 2, none⟩ = some (.int .i64 x.d) := hc 0 _ rfl
      have r1 : wo.cell? ⟨b, o + k * 2 + 1, none⟩ = some (.slice V x.vs.length cv) := hc 1 _ rfl
      have lb : b < wo.heap.size := World.block_lt_of_cell? wo _ r0
      have hxv := (M.out x (List.mem_of_getElem? hx.out)).1
      have CO := Lib.hid (fun (W : World) (hW : Below wo.heap.size wo W) => cloneIntS_any V x.vs.length cv x.vs W S (hrv.keep (SameOn.of_below hW fun b h => Nat.lt_of_lt_of_le (HS.out b h) hsz)) (fun b h => Nat.lt_of_lt_of_le (HS.out b h) (Nat.le_trans hsz hW.size)) rfl hxv)
      have HN := Lib.hid (show (s.cs.take (k + 1)).map cpPn = (s.cs.take k).map cpPn ++ [cpPn x] by rw [take_one _ _ _ hx.out, List.map_append]; rfl)
      clear hc hrv
      go_wp2
      have q0 : (wo.alloc (.cells #[.int .i64 x.d, .slice V x.vs.length cv] 45)).drew.cell? ⟨wo.heap.size, 0, none⟩ = some (.int .i64 x.d) := by simp [go_sem]
      have q1 : (wo.alloc (.cells #[.int .i64 x.d, .slice V x.vs.length cv] 45)).drew.cell? ⟨wo.heap.size, 1, none⟩ = some (.slice V x.vs.length cv) := by simp [go_sem]
      have b0 : Below wo.heap.size wo (wo.alloc (.cells #[.int .i64 x.d, .slice V x.vs.length cv] 45)).drew := ((Below.refl _ _).alloc (Nat.le_refl _) _).drew
      generalize (wo.alloc (.cells #[.int .i64 x.d, .slice V x.vs.length cv] 45)) = W0 at *
      go_region_law (first
        | (go_simp; go_at_call 55; refine (CO.out _ b0).mono ?_; rintro e w2 ⟨A3, c3, rfl, hl, b2⟩; have HO := Lib.hid (show pnO.O w2 (In wo.heap.size w2.heap.size) (cpPn x) [.int .i64 x.d, .int .i64 0, .slice A3 x.vs.length c3] from ⟨A3, c3, rfl, hl.more fun b h => ⟨Nat.le_trans b0.size h.1, h.2⟩⟩); have p0 : w2.cell? ⟨wo.heap.size, 0, none⟩ = some (.int .i64 x.d) := (b2.cell (p := ⟨wo.heap.size, 0, none⟩) (World.block_lt_of_cell? _ _ q0)).trans q0; have B2 := Lib.hid (b0.trans (b2.mono b0.size)); clear hl b2)
        | (refine step_append_new el_pn rfl (.tmp 23) (.tmp 30) rfl wo w2 w.heap.size (.slice AG k cG) k ((s.cs.take k).map cpPn) (cpPn x) [.int .i64 x.d, .int .i64 0, .slice A3 x.vs.length c3] rfl HG.out rfl B2.out HO.out (fun u hu => by simp at hu; rcases hu with rfl | rfl | rfl <;> rfl) (by omega) hsz ?_; intro A' c' w' hg hb' hs' _; have HG2 := Lib.hid hg; have HB2 := Lib.hid ((HB.out.trans (B2.out.mono hsz)).trans hb'); have y2 := (hb'.cell (p := ⟨p, 1, none⟩) hp).trans ((B2.out.cell (p := ⟨p, 1, none⟩) hpr).trans y1); clear hg hb'))
      all_goals
        go_wp2
        go_roundw
        case rel => exact ⟨k + 1, by omega, by go_num, HB2, y2, Lib.hid (by rw [HN.out]; exact HG2.out)⟩
        case measure => simp [intOf]; omega
    · obtain rfl : k = s.cs.length := by omega
      have HF := Lib.hid (show OL pnO 106 wo (In w.heap.size wo.heap.size) AG s.cs.length cG (s.cs.map cpPn) by
        have := HG.out.ol
        rwa [List.take_length] at this)
      go_wp2
      go_ret
      exact ⟨AG, cG, rfl, HF.out, HB.out⟩
set_option maxRecDepth 100000 in
set_option maxHeartbeats 1000000 in
theorem specStart_any (s : Sy) (A1 A2 A3 A4 A5 : Option Addr) (c1 c2 c3 c4 c5 : Nat) (w : World) (S : Nat → Prop) (h1 : LRow dfR w S A1 s.ds) (h2 : LRow cpR w S A2 s.cs) (h3 : LRow mtR w S A3 s.ms) (h4 : LRow txtR w S A4 s.al) (h5 : LRow txtR w S A5 s.hd) (hS : ∀ b, S b → b < w.heap.size) (ok : okSy s) :
    Calls Tryz.prog 31 #[.agg #[.slice A1 s.ds.length c1, .slice A2 s.cs.length c2, .slice A3 s.ms.length c3, .slice A4 s.al.length c4, .slice A5 s.hd.length c5]] w (RetP2 (stL s) (stC s) w) := by
  have C1 := Lib.hid (fun (W : World) (hW : Below w.heap.size w W) (p : Nat) z0 z1 z2 z3 z4 => (Calls.mono (specIs_any p s A1 A2 A3 A4 A5 c1 c2 c3 c4 c5 W S (h1.keep (SameOn.of_below hW hS)) (h2.keep (SameOn.of_below hW hS)) (h3.keep (SameOn.of_below hW hS)) (h4.keep (SameOn.of_below hW hS)) (h5.keep (SameOn.of_below hW hS)) (fun b hb => Nat.lt_of_lt_of_le (hS b hb) hW.size) ok z0 z1 z2 z3 z4) (fun e w' ⟨he, hb⟩ => (⟨he, hW.trans (Below.mono hb hW.size), hb⟩ : e = Ending.returned (.bool (vsB s)) ∧ Below w.heap.size w w' ∧ Below W.heap.size W w'))))
  rcases tv : vsB s with _ | _
  · have HF := Lib.hid (stL_no tv)
    have HF2 := Lib.hid (stC_no tv)
    rw [tv] at C1
    clear tv h1 h2 h3 h4 h5 hS ok
    go_enter Tryz.func31, Tryz.ntmps31
    go_wp2_with fail
    refine (C1.out _ (by repeat (first | exact Below.refl _ _ | refine Below.setCell ?_ (by simp) _ | refine Below.alloc ?_ (by simp <;> omega) _)) _ (by simp [go_sem]) (by simp [go_sem]) (by simp [go_sem]) (by simp [go_sem]) (by simp [go_sem])).mono ?_
    rintro e w1 ⟨rfl, b2, b3⟩
    have B2 := Lib.hid b2
    clear b2 b3
    go_wp2
    go_ret2
    exact RetP2.nil HF.out HF2.out B2.out
  have HF := Lib.hid (stL_yes tv)
  have HF2 := Lib.hid (stC_yes tv)
  have C2 := Lib.hid (fun (W : World) (hW : Below w.heap.size w W) (p : Nat) z1 => specStartL_any p s A2 c2 W S (h2.keep (SameOn.of_below hW hS)) (fun b hb => Nat.lt_of_lt_of_le (hS b hb) hW.size) ok.2.1 z1)
  rw [tv] at C1
  clear tv h1 h2 h3 h4 h5 hS ok
  go_enter Tryz.func31, Tryz.ntmps31
  go_wp2_with fail
  refine (C1.out _ (by repeat (first | exact Below.refl _ _ | refine Below.setCell ?_ (by simp) _ | refine Below.alloc ?_ (by simp <;> omega) _)) _ (by simp [go_sem]) (by simp [go_sem]) (by simp [go_sem]) (by simp [go_sem]) (by simp [go_sem])).mono ?_
  rintro e w1 ⟨rfl, b2, b3⟩
  have BX := Lib.hid ((Bx.of (b := w.heap.size) (v0 := .slice A1 s.ds.length c1) (v1 := .slice A2 s.cs.length c2) (v2 := .slice A3 s.ms.length c3) (v3 := .slice A4 s.al.length c4) (v4 := .slice A5 s.hd.length c5) (by simp <;> omega) (by simp [go_sem]) (by simp [go_sem]) (by simp [go_sem]) (by simp [go_sem]) (by simp [go_sem])).next b3)
  have B2 := Lib.hid b2
  clear b2 b3
  obtain ⟨a0, a1, a2, a3, a4⟩ := BX.out.five
  have hp : w.heap.size < w1.heap.size := BX.out.1
  go_wp2_with fail
  refine (C2.out _ B2.out _ a1).mono ?_
  rintro e w2 ⟨A6, c6, rfl, hl, hb⟩
  have HL := Lib.hid hl
  have B3 := Lib.hid (B2.out.trans (hb.mono B2.out.size))
  have hw1 := B2.out.size
  clear hl hb
  go_wp2
  go_ret2
  exact RetP2.mk' HF.out HF2.out HL.out hw1 B3.out
set_option maxRecDepth 100000 in
set_option maxHeartbeats 1000000 in
theorem implStart_any (s : Sy) (A1 A2 A3 A4 A5 : Option Addr) (c1 c2 c3 c4 c5 : Nat) (w : World) (S : Nat → Prop) (h1 : LRow dfR w S A1 s.ds) (h2 : LRow cpR w S A2 s.cs) (h3 : LRow mtR w S A3 s.ms) (h4 : LRow txtR w S A4 s.al) (h5 : LRow txtR w S A5 s.hd) (hS : ∀ b, S b → b < w.heap.size) (ok : okSy s) (ht : FormTab w) :
    Calls Tryz.prog 32 #[.agg #[.slice A1 s.ds.length c1, .slice A2 s.cs.length c2, .slice A3 s.ms.length c3, .slice A4 s.al.length c4, .slice A5 s.hd.length c5]] w (RetP2 (stL s) (stC s) w) := by
  have C1 := Lib.hid (fun (W : World) (hW : Below w.heap.size w W) => (Calls.mono (implValidSys_any s A1 A2 A3 A4 A5 c1 c2 c3 c4 c5 W S (h1.keep (SameOn.of_below hW hS)) (h2.keep (SameOn.of_below hW hS)) (h3.keep (SameOn.of_below hW hS)) (h4.keep (SameOn.of_below hW hS)) (h5.keep (SameOn.of_below hW hS)) (fun b hb => Nat.lt_of_lt_of_le (hS b hb) hW.size) ok (ht.below hW)) (fun e w' ⟨he, hb⟩ => (⟨he, hW.trans (Below.mono hb hW.size), hb⟩ : e = Ending.returned (.bool (vsB s)) ∧ Below w.heap.size w w' ∧ Below W.heap.size W w'))))
  rcases tv : vsB s with _ | _
  · have HF := Lib.hid (stL_no tv)
    have HF2 := Lib.hid (stC_no tv)
    rw [tv] at C1
    clear tv h1 h2 h3 h4 h5 hS ok ht
    go_enter Tryz.func32, Tryz.ntmps32
    go_wp2_with fail
    refine (C1.out _ (by repeat (first | exact Below.refl _ _ | refine Below.setCell ?_ (by simp) _ | refine Below.alloc ?_ (by simp <;> omega) _))).mono ?_
    rintro e w1 ⟨rfl, b2, b3⟩
    have B2 := Lib.hid b2
    clear b2 b3
    go_wp2
    go_ret2
    exact RetP2.nil HF.out HF2.out B2.out
  have HF := Lib.hid (stL_yes tv)
  have HF2 := Lib.hid (stC_yes tv)
  have C2 := Lib.hid (fun (W : World) (hW : Below w.heap.size w W) => mapOStart_any A2 s.cs.length c2 s.cs W S (h2.keep (SameOn.of_below hW hS)) (fun b hb => Nat.lt_of_lt_of_le (hS b hb) hW.size) rfl ok.2.1)
  rw [tv] at C1
  clear tv h1 h2 h3 h4 h5 hS ok ht
  go_enter Tryz.func32, Tryz.ntmps32
  go_wp2_with fail
  refine (C1.out _ (by repeat (first | exact Below.refl _ _ | refine Below.setCell ?_ (by simp) _ | refine Below.alloc ?_ (by simp <;> omega) _))).mono ?_
  rintro e w1 ⟨rfl, b2, b3⟩
  have BX := Lib.hid ((Bx.of (b := w.heap.size) (v0 := .slice A1 s.ds.length c1) (v1 := .slice A2 s.cs.length c2) (v2 := .slice A3 s.ms.length c3) (v3 := .slice A4 s.al.length c4) (v4 := .slice A5 s.hd.length c5) (by simp <;> omega) (by simp [go_sem]) (by simp [go_sem]) (by simp [go_sem]) (by simp [go_sem]) (by simp [go_sem])).next b3)
  have B2 := Lib.hid b2
  clear b2 b3
  obtain ⟨a0, a1, a2, a3, a4⟩ := BX.out.five
  have hp : w.heap.size < w1.heap.size := BX.out.1
  go_wp2_with fail
  refine (C2.out _ B2.out).mono ?_
  rintro e w2 ⟨rfl, hl, hb⟩
  have HL := Lib.hid hl
  have B3 := Lib.hid (B2.out.trans (hb.mono B2.out.size))
  have hw1 := B2.out.size
  clear hl hb
  go_wp2
  go_ret2
  exact RetP2.mk' HF.out HF2.out (by have h := HL.out; rw [List.length_map] at h; exact h) hw1 B3.out
theorem sStartR {x : Sy} {cs : List Value} {w : World} {S : Nat → Prop} (h : syR.R w S x cs) (hS : ∀ b, S b → b < w.heap.size) (ok : okSy x) :
    Calls Tryz.prog 31 #[.agg cs.toArray] w (RetP2 (stL x) (stC x) w) := by
  obtain ⟨A1, c1, A2, c2, A3, c3, A4, c4, A5, c5, rfl, ⟨p1, q1, r1⟩, ⟨p2, q2, r2⟩, ⟨p3, q3, r3⟩, ⟨p4, q4, r4⟩, ⟨p5, q5, r5⟩⟩ := h
  exact specStart_any x A1 A2 A3 A4 A5 c1 c2 c3 c4 c5 w S r1 r2 r3 r4 r5 hS ok
theorem iStartR {x : Sy} {cs : List Value} {w : World} {S : Nat → Prop} (h : syR.R w S x cs) (hS : ∀ b, S b → b < w.heap.size) (ok : okSy x) (ht : FormTab w) :
    Calls Tryz.prog 32 #[.agg cs.toArray] w (RetP2 (stL x) (stC x) w) := by
  obtain ⟨A1, c1, A2, c2, A3, c3, A4, c4, A5, c5, rfl, ⟨p1, q1, r1⟩, ⟨p2, q2, r2⟩, ⟨p3, q3, r3⟩, ⟨p4, q4, r4⟩, ⟨p5, q5, r5⟩⟩ := h
  exact implStart_any x A1 A2 A3 A4 A5 c1 c2 c3 c4 c5 w S r1 r2 r3 r4 r5 hS ok ht
end Go.Proofs.YtdgcpaeneafejaaGreatDoor
