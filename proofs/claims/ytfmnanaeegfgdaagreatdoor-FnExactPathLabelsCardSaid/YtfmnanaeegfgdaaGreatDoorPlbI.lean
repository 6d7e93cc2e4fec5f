/- The labels of a path: both sides. -/
import Derived.Conc.MuLone
import Derived.Test.YtfmnanaeegfgdaaGreatDoorPthS
import Derived.Test.YtfmnanaeegfgdaaGreatDoorDatI
import Derived.Test.YtfmnanaeegfgdaaGreatDoorHeldL
namespace Go.Proofs.YtfmnanaeegfgdaaGreatDoor
open Go.RowKit
set_option linter.unusedVariables false
set_option linter.unusedSimpArgs false
def labE (x : Lt) (i : Int) : ByteArray := x.ls.getD (edAt x i).l.toNat ⟨#[]⟩
def labP (x : Lt) (p : List Int) : List ByteArray := p.map (labE x)
noncomputable def labR (x : Lt) (p : List Int) : List ByteArray := if pathC x p = 0 then labP x p else []
theorem labR_ok {x : Lt} {p : List Int} (h : pathC x p = 0) : labR x p = labP x p := by unfold labR; rw [if_pos h]
theorem labR_no {x : Lt} {p : List Int} (h : ¬ pathC x p = 0) : labR x p = [] := by unfold labR; rw [if_neg h]
theorem labP_len (x : Lt) (p : List Int) : (labP x p).length = p.length := by simp [labP]
theorem pathC_parts {x : Lt} {p : List Int} (h : pathC x p = 0) : ltB x = true ∧ rngB x p = true := by
  unfold pathC at h
  split at h
  · split at h
    · exact ⟨by assumption, by assumption⟩
    · cases h
  · cases h
/-- An edge of a path has one of the labels. -/
theorem lab_in {x : Lt} (hv : ltB x = true) {q : Nat} {e : Ed} (he : x.es[q]? = some e) : ∃ k : Nat, e.l = (k : Int) ∧ k < x.ls.length := by
  have h := List.all_eq_true.1 (ltB_parts hv).2.2.2.2.2 e (List.mem_of_getElem? he)
  obtain ⟨_, ⟨h1, h2⟩, _⟩ := inE_iff.1 h
  exact ⟨e.l.toNat, by omega, by omega⟩
theorem labE_of {x : Lt} {q k : Nat} {e : Ed} {u : ByteArray} (he : x.es[q]? = some e) (hk : e.l = (k : Int)) (hu : x.ls[k]? = some u) : labE x (q : Int) = u := by
  unfold labE
  rw [edAt_of he, hk, Int.toNat_natCast, List.getD_eq_getElem?_getD, hu]; rfl
theorem labP_ok {x : Lt} {p : List Int} (hv : ltB x = true) (hr : rngB x p = true) (ok : okLt x) : ∀ u ∈ labP x p, okTx u := by
  intro u hu
  obtain ⟨i, hi, rfl⟩ := List.mem_map.1 hu
  obtain ⟨j, hj⟩ := List.getElem?_of_mem hi
  obtain ⟨h0, h1⟩ := rngB_at hr hj
  obtain ⟨q, rfl⟩ : ∃ q : Nat, i = (q : Int) := ⟨i.toNat, by omega⟩
  have he : x.es[q]? = some x.es[q] := List.getElem?_eq_getElem (by omega)
  obtain ⟨k, hk, hkl⟩ := lab_in hv he
  have hu2 : x.ls[k]? = some x.ls[k] := List.getElem?_eq_getElem hkl
  rw [labE_of he hk hu2]
  exact ok.1.2 _ (List.mem_of_getElem? hu2)
theorem ok_lab {x : Lt} {p : List Int} (ok : okLt x) (okp : okList okAny p) : okList okTx (labR x p) := by
  by_cases h : pathC x p = 0
  · obtain ⟨hv, hr⟩ := pathC_parts h
    rw [labR_ok h]
    exact ⟨by rw [labP_len]; exact okp.1, labP_ok hv hr ok⟩
  · rw [labR_no h]
    exact ⟨by simp, fun u hu => by cases hu⟩
theorem cnt_lab {x : Lt} {p : List Int} (okp : okList okAny p) : cntL txtM (labR x p) ≤ 100000000 := by
  have h1 := cnt_txt (labR x p)
  have h2 := wL_z (labR x p)
  have h3 : (labR x p).length ≤ p.length := by
    by_cases h : pathC x p = 0
    · rw [labR_ok h, labP_len]; exact Nat.le_refl _
    · rw [labR_no h]; exact Nat.zero_le _
  have h4 := okp.1
  omega
/-- A row of texts of the call's own. -/
theorem ol_str {w : World} {lo n c : Nat} {A : Option Addr} {xs : List ByteArray} {T : TypeId} (h : w.ownsRow lo T 1 (.slice A n c) n (xs.map Value.string)) (hs : ∀ u ∈ xs, okTx u) : OL txtO T w (In lo w.heap.size) A n c xs := by
  have hl : xs.length = n := by have := h.1; simp at this; omega
  refine ⟨hl, fun g hg => ?_, xs.map Value.string, fun _ _ => False, own_low h (Nat.zero_le _), fun j x hx => ?_, fun j b _ e => e.elim, fun i j b _ _ _ e => e.elim⟩
  · exact h.lt g hg
  · have e : ((xs.map Value.string).drop (j * 1)).take 1 = [Value.string x] := by
      rw [Nat.mul_one, drop_one _ _ _ (show (xs.map Value.string)[j]? = some (Value.string x) by rw [List.getElem?_map, hx]; rfl)]
      rfl
    show txtR.R w (fun _ => False) x (((xs.map Value.string).drop (j * 1)).take 1)
    rw [e]
    refine ⟨rfl, ?_⟩
    have := hs x (List.mem_of_getElem? hx)
    unfold okTx at this
    unfold maxLen; omega
theorem info_strP : (Tryz.prog.info? 9).map (fun i => (i.zero, i.size, i.bytes)) = some (some (.string ⟨#[]⟩), 1, 16) := by kernel_rfl
/-- A text laid behind a row of the call's own. -/
theorem wpList_append_s {ops : Array Oper} {rest : List Oper} {o : Oper} {a : Act} {Q : Exit → Act → World → Prop} (hgd : o.guard = none) (s x : Operand)
    (ho : o.op = .call { callee := .builtin .append, args := #[s, x], argTypes := #[22, 22] })
    (w : World) (base : Nat) (v : Value) (n : Nat) (xs : List ByteArray) (hs : a.eval s = v) (hown : w.ownsRow base 9 1 v n (xs.map Value.string))
    (b c : Nat) (u : ByteArray) (hx : a.eval x = .slice (some ⟨b, 0, none⟩) 1 c) (hc : w.cell? ⟨b, 0, none⟩ = some (.string u)) (hlen : n + 1 ≤ 8000000) (hbase : base ≤ w.heap.size)
    (h : ∀ A' c' w', w'.ownsRow base 9 1 (.slice A' (n + 1) c') (n + 1) ((xs ++ [u]).map Value.string) → w.grownBy w' v.ownBlock → wpList Tryz.prog ops Q rest (a.put o.dst (.slice A' (n + 1) c')) w') :
    wpList Tryz.prog ops Q (o :: rest) a w := by
  obtain ⟨i0, hi, hz0, hz1, hz2⟩ := info_parts info_strP
  refine wpList_append_own w hgd s x 22 ho base 9 i0 (.string ⟨#[]⟩) 1 16 Tryz.underlying22 hi hz0 hz1 hz2 rfl (by decide) v n (xs.map Value.string) hs hown ⟨b, 0, none⟩ 1 c [.string u] hx rfl ?_ ?_ (by unfold maxLen; omega) (by omega) hbase ?_
  · intro j y hj
    match j, hj with
    | 0, hj => simp at hj; subst hj; simpa [Addr.add] using hc
  · intro y hy; simp at hy; subst hy; rfl
  · intro v' w' ho' hg _
    rcases ho'.2 with ⟨e, h0⟩ | ⟨g, cap, cur, e, _⟩
    · omega
    · subst e; exact h _ _ w' (by simpa using ho') hg
/-- The label of an edge, read through the box of the system. -/
theorem labC_any (x : Lt) (bx : Nat) (A1 A2 : Option Addr) (c1 c2 q k : Nat) (v : Ed) (u : ByteArray) (w : World) (S : Nat → Prop) (y2 : w.cell? ⟨bx, 2, none⟩ = some (.slice A1 x.ls.length c1)) (y3 : w.cell? ⟨bx, 3, none⟩ = some (.slice A2 x.es.length c2)) (h1 : LRow txtR w S A1 x.ls) (h2 : LRow edR w S A2 x.es) (hS : ∀ b, S b → b < w.heap.size) (he : x.es[q]? = some v) (hk : v.l = (k : Int)) (hu : x.ls[k]? = some u) :
    Calls Tryz.prog 33 #[.int .i64 (q : Int), .pointer (some ⟨bx, 0, none⟩)] w fun e w' => e = .returned (.string u) ∧ Drawn w w' := by
  have hq := (List.getElem?_eq_some_iff.1 he).1
  have hkl := (List.getElem?_eq_some_iff.1 hu).1
  obtain ⟨b, o, cs, v', rfl, hb, hR, hv, hc⟩ := h2.at_ (k := q) hq
  obtain rfl : v' = v := by have := hv.out.symm.trans he; injection this
  have hR : cs = [Value.int .i64 v'.f, Value.int .i64 v'.l, Value.int .i64 v'.t] := hR
  subst hR
  have f1 : w.cell? ⟨b, o + q * 3 + 1, none⟩ = some (.int .i64 (k : Int)) := by rw [← hk]; exact hc 1 _ rfl
  obtain ⟨b2, o2, cs2, u', rfl, hb2, hR2, hu2, hc2⟩ := h1.at_ (k := k) hkl
  obtain rfl : u' = u := by have := hu2.out.symm.trans hu; injection this
  obtain ⟨rfl, _⟩ := hR2
  have g0 : w.cell? ⟨b2, o2 + k, none⟩ = some (.string u') := by have := hc2 0 _ rfl; simpa [txtR] using this
  have l1 := World.block_lt_of_cell? w _ y2
  have l2 := hS b hb
  have l3 := hS b2 hb2
  clear hc hc2 h1 h2 hS he hu hk hv hu2 hb hb2
  go_enter Tryz.func33, Tryz.ntmps33
  go_wp2
  go_quiet (fail)
  go_wp2
  go_ret
  exact ⟨rfl, by repeat (first | exact Drawn.refl _ | apply Drawn.drewN)⟩
set_option maxRecDepth 100000 in
set_option maxHeartbeats 2000000 in
theorem mapLab_any (x : Lt) (bx : Nat) (A1 A2 : Option Addr) (c1 c2 : Nat) (B : Option Addr) (n d : Nat) (p : List Int) (w : World) (S S2 : Nat → Prop) (y2 : w.cell? ⟨bx, 2, none⟩ = some (.slice A1 x.ls.length c1)) (y3 : w.cell? ⟨bx, 3, none⟩ = some (.slice A2 x.es.length c2)) (h1 : LRow txtR w S A1 x.ls) (h2 : LRow edR w S A2 x.es) (hp : LRow intR w S2 B p) (hS : ∀ b, S b → b < w.heap.size) (hS2 : ∀ b, S2 b → b < w.heap.size) (l : p.length = n) (m : n ≤ 1048576) (hv : ltB x = true) (hr : rngB x p = true) (ok : okLt x) :
    Calls Tryz.prog 32 #[.slice B n d, .func (.func 33) #[] #[.pointer (some ⟨bx, 0, none⟩)]] w (MadeLO txtO 9 (labP x p) w) := by
  obtain ⟨i0, hi, hz0, hz1, hz2⟩ := info_parts info_strP
  have hbx := World.block_lt_of_cell? w _ y2
  have L := Lib.hid l
  have LY := Lib.hid (show (labP x p).length = n by rw [labP_len]; exact l)
  have HY := Lib.hid (fun (W : World) (hW : Below w.heap.size w W) => (⟨(hW.cell (p := ⟨bx, 2, none⟩) hbx).trans y2, (hW.cell (p := ⟨bx, 3, none⟩) hbx).trans y3⟩ : W.cell? ⟨bx, 2, none⟩ = some (.slice A1 x.ls.length c1) ∧ W.cell? ⟨bx, 3, none⟩ = some (.slice A2 x.es.length c2)))
  have H1 := Lib.hid h1
  have H2 := Lib.hid h2
  have HP := Lib.hid hp
  have HS := Lib.hid hS
  have HS2 := Lib.hid hS2
  have HV := Lib.hid hv
  have HRG := Lib.hid hr
  have HOK := Lib.hid (labP_ok hv hr ok)
  clear l h1 h2 hp hS hS2 hv hr ok y2 y3
  go_enter Tryz.func32, Tryz.ntmps32
  go_wp2_with (at_make; refine wpList_make_full _ rfl _ _ _ rfl w.heap.size 9 i0 (.string ⟨#[]⟩) 1 Tryz.underlying22 hi hz0 hz1 .i64 .i64 _ _ n rfl rfl rfl rfl (by rw [hz2]; omega) (by unfold maxLen; omega) (Nat.le_refl _) ?_; intro w1 hown1 hg1)
  have H0 := Lib.hid (show w1.ownsRow w.heap.size 9 1 (.slice (some ⟨w.heap.size, 0, none⟩) n n) n ([] ++ (madeCells #[.string ⟨#[]⟩] ((n - 0) * 1)).toList) from hown1)
  have hb1 := Lib.hid (show Below w.heap.size w w1 from (Below.refl _ _).grown hg1 (Nat.le_refl _) (by simp))
  clear hown1 hg1 hi hz0 hz1 hz2
  go_loopw [6, 7, 13] (fun _ _ i wr => ∃ (k : Nat) (vs : List Value), k ≤ n ∧ i = .int .i64 k ∧ Hid (vs.length = k * 1) ∧ Hid (MadeO txtO wr w.heap.size k vs (labP x p)) ∧ Hid (Below w.heap.size w wr) ∧ Hid (wr.ownsRow w.heap.size 9 1 (.slice (some ⟨w.heap.size, 0, none⟩) n n) n (vs ++ (madeCells #[.string ⟨#[]⟩] ((n - k) * 1)).toList))) (fun _ _ i _ => n - (intOf i).toNat)
  case atStart => exact ⟨0, [], Nat.zero_le _, rfl, Lib.hid (by simp), Lib.hid (MadeO.zero _ _ _ _ _), hb1, H0⟩
  case round =>
    obtain ⟨k, vs, hk, rfl, HVS, HE, HB, HO⟩ := hrel
    obtain ⟨wo, rfl⟩ : ∃ wo : World, wo = wr := ⟨_, rfl⟩
    clear H0 hb1
    by_cases hlt : k < n
    · obtain ⟨b, o, i, rfl, hb, r0, hi⟩ := int_at (HP.out.keep (SameOn.of_below HB.out HS2.out)) (k := k) (by rw [L.out]; exact hlt)
      obtain ⟨hi0, hi1⟩ := rngB_at HRG.out hi.out
      obtain ⟨q, rfl⟩ : ∃ q : Nat, i = (q : Int) := ⟨i.toNat, by omega⟩
      have he : x.es[q]? = some x.es[q] := List.getElem?_eq_getElem (by omega)
      obtain ⟨kl, hkl, hkk⟩ := lab_in HV.out he
      have hu : x.ls[kl]? = some x.ls[kl] := List.getElem?_eq_getElem hkk
      obtain ⟨u, hue⟩ : ∃ u, u = x.ls[kl] := ⟨_, rfl⟩
      rw [← hue] at hu
      have HYX := Lib.hid (show (labP x p)[k]? = some u by unfold labP; rw [List.getElem?_map, hi.out]; exact congrArg some (labE_of he hkl hu))
      have hws : w.heap.size + 1 ≤ wo.heap.size := by
        have := (HO.out.lt _ rfl).2
        exact this
      obtain ⟨z2, z3⟩ := HY.out _ HB.out
      have C := Lib.hid (labC_any x bx A1 A2 c1 c2 q kl _ u wo S z2 z3 (H1.out.keep (SameOn.of_below HB.out HS.out)) (H2.out.keep (SameOn.of_below HB.out HS.out)) (fun b hb => Nat.lt_of_lt_of_le (HS.out b hb) (by omega)) he hkl hu)
      clear he hu hue z2 z3 hi
      go_wp2_with fail
      refine (C.out).mono ?_
      rintro e w2 ⟨rfl, hd2⟩
      have b2 : Below wo.heap.size wo w2 := hd2.below _
      have hsz : w2.heap.size = wo.heap.size := by obtain ⟨m, rfl⟩ := hd2; rfl
      obtain ⟨⟨old0, hx0⟩, hf0⟩ := own_some (own_below' HO.out b2) (k := k) (by omega)
      have HR := Lib.hid (show (txtO).O w2 (In wo.heap.size w2.heap.size) u [.string u] from ⟨rfl, by have := HOK.out u (List.mem_of_getElem? HYX.out); unfold okTx at this; unfold maxLen; omega⟩)
      have HO2 := Lib.hid (own_below' HO.out b2)
      have B2 := Lib.hid b2
      clear b2 hd2
      go_wp2
      go_roundw
      case rel =>
        have st0 := HO2.out.stored (k) (.string u)
        obtain ⟨ml, me⟩ := madeO_step txtO (lo := w.heap.size) HVS.out HR.out HYX.out HE.out B2.out hws st0.2
        refine ⟨k + 1, _, by omega, by go_num, Lib.hid ml, Lib.hid me, Lib.hid ((HB.out.trans (B2.out.mono (by omega))).setCell (Nat.le_refl _) _), Lib.hid ?_⟩
        have e := set_next (F := 1) (z := #[.string ⟨#[]⟩]) (n := n) HVS.out rfl ((txtR).len ((txtO).rd HR.out)) hlt
        rw [← e]
        simpa [setAll] using st0.1
      case measure => simp [intOf]; omega
    · obtain rfl : k = n := by omega
      have hown := HO.out
      have e0 : (madeCells #[.string ⟨#[]⟩] ((k - k) * 1)).toList = [] := by simp [madeCells]
      rw [e0, List.append_nil] at hown
      have HD := Lib.hid (madeO_done txtO LY.out hown HE.out)
      have HLN := Lib.hid (show (.returned (.slice (some ⟨w.heap.size, 0, none⟩) k k) : Ending) = .returned (.slice (some ⟨w.heap.size, 0, none⟩) (labP x p).length (labP x p).length) by rw [LY.out])
      clear hown e0
      go_wp2
      go_ret
      exact ⟨HLN.out, (by have h1 := HD.out; rw [← LY.out] at h1; exact h1), HB.out⟩
set_option maxRecDepth 100000 in
set_option maxHeartbeats 4000000 in
theorem l10Labels_any (x : Lt) (pt : Nat) (A1 A2 : Option Addr) (c1 c2 : Nat) (B : Option Addr) (n d : Nat) (p : List Int) (w : World) (S S2 : Nat → Prop) (y2 : w.cell? ⟨pt, 2, none⟩ = some (.slice A1 x.ls.length c1)) (y3 : w.cell? ⟨pt, 3, none⟩ = some (.slice A2 x.es.length c2)) (h1 : LRow txtR w S A1 x.ls) (h2 : LRow edR w S A2 x.es) (hp : LRow intR w S2 B p) (hS : ∀ b, S b → b < w.heap.size) (hS2 : ∀ b, S2 b → b < w.heap.size) (l : p.length = n) (m : n ≤ 1048576) (hv : ltB x = true) (hr : rngB x p = true) (ok : okLt x) :
    Calls Tryz.prog 31 #[.pointer (some ⟨pt, 0, none⟩), .slice B n d] w fun e w' => ∃ A c, e = .returned (.slice A (labP x p).length c) ∧ OL txtO 9 w' (In w.heap.size w'.heap.size) A (labP x p).length c (labP x p) ∧ Below w.heap.size w w' := by
  have hbx := World.block_lt_of_cell? w _ y2
  have L := Lib.hid l
  have LY := Lib.hid (show (labP x p).length = n by rw [labP_len]; exact l)
  have HY := Lib.hid (fun (W : World) (hW : Below w.heap.size w W) => (⟨(hW.cell (p := ⟨pt, 2, none⟩) hbx).trans y2, (hW.cell (p := ⟨pt, 3, none⟩) hbx).trans y3, Nat.lt_of_lt_of_le hbx hW.size⟩ : W.cell? ⟨pt, 2, none⟩ = some (.slice A1 x.ls.length c1) ∧ W.cell? ⟨pt, 3, none⟩ = some (.slice A2 x.es.length c2) ∧ pt < W.heap.size))
  have H1 := Lib.hid h1
  have H2 := Lib.hid h2
  have HP := Lib.hid hp
  have HS := Lib.hid hS
  have HS2 := Lib.hid hS2
  have HV := Lib.hid hv
  have HRG := Lib.hid hr
  have HOK := Lib.hid (labP_ok hv hr ok)
  have H0 := Lib.hid (World.ownsRow_made w #[] 0 (e := 9) (size := 1) (base := w.heap.size) (Nat.le_refl _) (Nat.zero_le _) rfl)
  have HB0 := Lib.hid ((Below.refl w.heap.size w).alloc (Nat.le_refl _) (.cells #[] 9))
  clear l h1 h2 hp hS hS2 hv hr ok y2 y3
  go_enter Tryz.func31, Tryz.ntmps31
  go_wp2
  go_loopw [5, 6] (fun v i wr => ∃ (k : Nat) (A : Option Addr) (c : Nat), k ≤ n ∧ i = .int .i64 (k : Int) ∧ v = .slice A k c ∧ Hid (wr.ownsRow w.heap.size 9 1 (.slice A k c) k (((labP x p).take k).map Value.string)) ∧ Hid (Below w.heap.size w wr)) (fun _ i _ => n - (intOf i).toNat)
  case atStart => exact ⟨0, _, _, Nat.zero_le _, rfl, rfl, Lib.hid H0.out, HB0⟩
  case round =>
    obtain ⟨k, A3, c3, hk, rfl, rfl, HO, HB⟩ := hrel
    clear H0 HB0
    have hsz := HB.out.size
    by_cases hlt : k < n
    · obtain ⟨b, o, i, rfl, hb, r0, hi⟩ := int_at HP.out (k := k) (by rw [L.out]; exact hlt)
      obtain ⟨hi0, hi1⟩ := rngB_at HRG.out hi.out
      obtain ⟨q, rfl⟩ : ∃ q : Nat, i = (q : Int) := ⟨i.toNat, by omega⟩
      have hq : q < x.es.length := by omega
      obtain ⟨b2, o2, cs, v, rfl, hb2, hR, he, hc⟩ := H2.out.at_ (k := q) hq
      have hR : cs = [Value.int .i64 v.f, Value.int .i64 v.l, Value.int .i64 v.t] := hR
      subst hR
      obtain ⟨kl, hkl, hkk⟩ := lab_in HV.out he.out
      have f1 : w.cell? ⟨b2, o2 + q * 3 + 1, none⟩ = some (.int .i64 (kl : Int)) := by rw [← hkl]; exact hc 1 _ rfl
      obtain ⟨b4, o4, cs4, u, rfl, hb4, hR4, hu, hc4⟩ := H1.out.at_ (k := kl) hkk
      obtain ⟨rfl, _⟩ := hR4
      have g0 : w.cell? ⟨b4, o4 + kl, none⟩ = some (.string u) := by have := hc4 0 _ rfl; simpa [txtR] using this
      obtain ⟨z2, z3, _⟩ := HY.out _ (Below.refl _ _)
      have HYX := Lib.hid (show (labP x p)[k]? = some u by unfold labP; rw [List.getElem?_map, hi.out]; exact congrArg some (labE_of he.out hkl hu.out))
      have HT := Lib.hid (show (labP x p).take (k + 1) = (labP x p).take k ++ [u] from take_one _ _ _ HYX.out)
      have lb := World.block_lt_of_cell? w _ r0
      have lb2 := World.block_lt_of_cell? w _ f1
      have lb4 := World.block_lt_of_cell? w _ g0
      have HO2 := Lib.hid (fun o1 : Obj => (HO.out.drew).alloc o1)
      have HSX := Lib.hid (fun (W : World) (hW : Below w.heap.size w W) => (⟨hW, (hW.cell (p := ⟨pt, 2, none⟩) hbx).trans z2, (hW.cell (p := ⟨pt, 3, none⟩) hbx).trans z3, (hW.cell (p := ⟨b, o + k, none⟩) lb).trans r0, (hW.cell (p := ⟨b2, o2 + q * 3 + 1, none⟩) lb2).trans f1, (hW.cell (p := ⟨b4, o4 + kl, none⟩) lb4).trans g0⟩ : Below w.heap.size w W ∧ W.cell? ⟨pt, 2, none⟩ = some (.slice (some ⟨b4, o4, none⟩) x.ls.length c1) ∧ W.cell? ⟨pt, 3, none⟩ = some (.slice (some ⟨b2, o2, none⟩) x.es.length c2) ∧ W.cell? ⟨b, o + k, none⟩ = some (.int .i64 (q : Int)) ∧ W.cell? ⟨b2, o2 + q * 3 + 1, none⟩ = some (.int .i64 (kl : Int)) ∧ W.cell? ⟨b4, o4 + kl, none⟩ = some (.string u)))
      obtain ⟨i0, hi0', hz0, hz1, hz2⟩ := info_parts info_strP
      have hpr := Nat.lt_of_lt_of_le hbx hsz
      have lbw := Nat.lt_of_lt_of_le lb hsz
      clear hc hc4 hi he hu hkl hi0 hi1
      have hi := hi0'
      clear z2 z3 r0 f1 g0
      go_wp2
      refine wp_region_held_drew (S := (fun W => Below w.heap.size w W ∧ W.cell? ⟨pt, 2, none⟩ = some (.slice (some ⟨b4, o4, none⟩) x.ls.length c1) ∧ W.cell? ⟨pt, 3, none⟩ = some (.slice (some ⟨b2, o2, none⟩) x.es.length c2) ∧ W.cell? ⟨b, o + k, none⟩ = some (.int .i64 (q : Int)) ∧ W.cell? ⟨b2, o2 + q * 3 + 1, none⟩ = some (.int .i64 (kl : Int)) ∧ W.cell? ⟨b4, o4 + kl, none⟩ = some (.string u))) (by kernel_rfl) (HSX.out _ HB.out.drew) (fun hHeld => ?_)
      refine takeR 0 (v := ?_) rfl (by kernel_rfl) (by kernel_rfl) (by kernel_rfl) (fun _ _ _ h => h) (by rfl) ?_ hHeld ?_
      rotate_left
      · intro W hSw; (try dsimp only at hSw); go_simp; (try with_reducible rfl)
      (try simp only [Act.put, List.setIfInBounds_toArray, List.set_cons_zero, List.set_cons_succ])
      refine takeR 1 (v := ?_) rfl (by kernel_rfl) (by kernel_rfl) (by kernel_rfl) (fun _ _ _ h => h) (by rfl) ?_ hHeld ?_
      rotate_left
      · intro W hSw; (try dsimp only at hSw); go_simp; (try with_reducible rfl)
      (try simp only [Act.put, List.setIfInBounds_toArray, List.set_cons_zero, List.set_cons_succ])
      refine takeR 2 (v := ?_) rfl (by kernel_rfl) (by kernel_rfl) (by kernel_rfl) (fun _ _ _ h => h) (by rfl) ?_ hHeld ?_
      rotate_left
      · intro W hSw; (try dsimp only at hSw); go_simp; (try with_reducible rfl)
      (try simp only [Act.put, List.setIfInBounds_toArray, List.set_cons_zero, List.set_cons_succ])
      refine takeR 3 (v := ?_) rfl (by kernel_rfl) (by kernel_rfl) (by kernel_rfl) (fun _ _ _ h => h) (by rfl) ?_ hHeld ?_
      rotate_left
      · intro W hSw; (try dsimp only at hSw); go_simp; (try with_reducible rfl)
      (try simp only [Act.put, List.setIfInBounds_toArray, List.set_cons_zero, List.set_cons_succ])
      refine takeR 4 (v := ?_) rfl (by kernel_rfl) (by kernel_rfl) (by kernel_rfl) (fun _ _ _ h => h) (by rfl) ?_ hHeld ?_
      rotate_left
      · intro W hSw; (try dsimp only at hSw); go_simp; (try with_reducible rfl)
      (try simp only [Act.put, List.setIfInBounds_toArray, List.set_cons_zero, List.set_cons_succ])
      refine takeR 5 (v := ?_) rfl (by kernel_rfl) (by kernel_rfl) (by kernel_rfl) (fun _ _ _ h => h) (by rfl) ?_ hHeld ?_
      rotate_left
      · intro W hSw; (try dsimp only at hSw); go_simp; (try with_reducible rfl)
      (try simp only [Act.put, List.setIfInBounds_toArray, List.set_cons_zero, List.set_cons_succ])
      refine takeR 6 (v := ?_) rfl (by kernel_rfl) (by kernel_rfl) (by kernel_rfl) (fun _ _ _ h => h) (by rfl) ?_ hHeld ?_
      rotate_left
      · intro W hSw; (try dsimp only at hSw); go_simp; (try with_reducible rfl)
      (try simp only [Act.put, List.setIfInBounds_toArray, List.set_cons_zero, List.set_cons_succ])
      refine takeR 7 (v := ?_) rfl (by kernel_rfl) (by kernel_rfl) (by kernel_rfl) (fun _ _ _ h => h) (by rfl) ?_ hHeld ?_
      rotate_left
      · intro W hSw; (try dsimp only at hSw); go_simp; (try with_reducible rfl)
      (try simp only [Act.put, List.setIfInBounds_toArray, List.set_cons_zero, List.set_cons_succ])
      refine takeR 8 (v := ?_) rfl (by kernel_rfl) (by kernel_rfl) (by kernel_rfl) (fun _ _ _ h => h) (by rfl) ?_ hHeld ?_
      rotate_left
      · intro W hSw; (try dsimp only at hSw); go_simp; (try with_reducible rfl)
      (try simp only [Act.put, List.setIfInBounds_toArray, List.set_cons_zero, List.set_cons_succ])
      refine takeR 9 (v := ?_) rfl (by kernel_rfl) (by kernel_rfl) (by kernel_rfl) (fun _ _ _ h => h) (by rfl) ?_ hHeld ?_
      rotate_left
      · intro W hSw; (try dsimp only at hSw); go_simp; (try with_reducible rfl)
      (try simp only [Act.put, List.setIfInBounds_toArray, List.set_cons_zero, List.set_cons_succ])
      refine takeR 10 (v := ?_) rfl (by kernel_rfl) (by kernel_rfl) (by kernel_rfl) (fun _ _ _ h => h) (by rfl) ?_ hHeld ?_
      rotate_left
      · intro W hSw; (try dsimp only at hSw); go_simp; (try with_reducible rfl)
      (try simp only [Act.put, List.setIfInBounds_toArray, List.set_cons_zero, List.set_cons_succ])
      refine takeR 11 (v := ?_) rfl (by kernel_rfl) (by kernel_rfl) (by kernel_rfl) (fun _ _ _ h => h) (by rfl) ?_ hHeld ?_
      rotate_left
      · intro W hSw; (try dsimp only at hSw); go_simp; (try with_reducible rfl)
      (try simp only [Act.put, List.setIfInBounds_toArray, List.set_cons_zero, List.set_cons_succ])
      refine takeR 12 (v := ?_) rfl (by kernel_rfl) (by kernel_rfl) (by kernel_rfl) (fun _ _ _ h => h) (by rfl) ?_ hHeld ?_
      rotate_left
      · intro W hSw; (try dsimp only at hSw); go_simp; (try with_reducible rfl)
      (try simp only [Act.put, List.setIfInBounds_toArray, List.set_cons_zero, List.set_cons_succ])
      refine takeR 13 (v := ?_) rfl (by kernel_rfl) (by kernel_rfl) (by kernel_rfl) (fun _ _ _ h => h) (by rfl) ?_ hHeld ?_
      rotate_left
      · intro W hSw; (try dsimp only at hSw); go_simp; (try with_reducible rfl)
      (try simp only [Act.put, List.setIfInBounds_toArray, List.set_cons_zero, List.set_cons_succ])
      refine takeR 14 (v := ?_) rfl (by kernel_rfl) (by kernel_rfl) (by kernel_rfl) (fun _ _ _ h => h) (by rfl) ?_ hHeld ?_
      rotate_left
      · intro W hSw; (try dsimp only at hSw); go_simp; (try with_reducible rfl)
      (try simp only [Act.put, List.setIfInBounds_toArray, List.set_cons_zero, List.set_cons_succ])
      refine takeR 15 (v := ?_) rfl (by kernel_rfl) (by kernel_rfl) (by kernel_rfl) (fun _ _ _ h => h) (by rfl) ?_ hHeld ?_
      rotate_left
      · intro W hSw; (try dsimp only at hSw); go_simp; (try with_reducible rfl)
      (try simp only [Act.put, List.setIfInBounds_toArray, List.set_cons_zero, List.set_cons_succ])
      refine takeR 16 (v := ?_) rfl (by kernel_rfl) (by kernel_rfl) (by kernel_rfl) (fun _ _ _ h => h) (by rfl) ?_ hHeld ?_
      rotate_left
      · intro W hSw; (try dsimp only at hSw); go_simp; (try with_reducible rfl)
      (try simp only [Act.put, List.setIfInBounds_toArray, List.set_cons_zero, List.set_cons_succ])
      refine takeR 17 (v := ?_) rfl (by kernel_rfl) (by kernel_rfl) (by kernel_rfl) (fun _ _ _ h => h) (by rfl) ?_ hHeld ?_
      rotate_left
      · intro W hSw; (try dsimp only at hSw); go_simp; (try with_reducible rfl)
      (try simp only [Act.put, List.setIfInBounds_toArray, List.set_cons_zero, List.set_cons_succ])
      refine takeC 18 rfl (by kernel_rfl) (by rfl) (fun K hK => ?_)
      go_simp
      refine hK.out _ _ (HSX.out _ (HB.out.drew.alloc hsz _)) (fun hHeld2 => ?_)
      clear hK K hHeld
      have hHeld := hHeld2
      clear hHeld2
      (try simp only [Act.put, List.setIfInBounds_toArray, List.set_cons_zero, List.set_cons_succ])
      refine takeL 19 rfl (by kernel_rfl) (fun K hK => ?_)
      refine step_append_lies _ rfl (.tmp 14) (.tmp 32) 22 rfl w.heap.size 9 i0 (.string ⟨#[]⟩) 1 16 Tryz.underlying22 hi hz0 hz1 hz2 rfl (by decide) (.slice A3 k c3) k (((labP x p).take k).map Value.string) rfl (HO2.out _) ⟨wr.heap.size, 0, none⟩ 1 _ [.string u] rfl rfl (fun j y hj => by match j, hj with | 0, hj => (simp at hj; subst hj; simp [go_sem, Addr.add])) (fun y hy => by simp at hy; subst hy; rfl) (by decide) (by unfold maxLen; omega) (by omega) (by simp; omega) _ rfl ?_
      intro g7 c7 w7 ho7 hg7 _ _
      have ho7 : w7.ownsRow w.heap.size 9 1 (.slice (some ⟨g7, 0, none⟩) (k + 1) c7) (k + 1) (((labP x p).take (k + 1)).map Value.string) := by rw [HT.out, List.map_append]; exact ho7
      have HO7 := Lib.hid ho7
      have HB7 := Lib.hid ((HB.out.drew.alloc hsz _).grown hg7 (by simp; omega) (fun g e => (HO.out.lt g e).1))
      clear ho7 hg7
      refine hK.out _ _ (HSX.out _ HB7.out) (fun hHeld2 => ?_)
      clear hK K hHeld
      have hHeld := hHeld2
      clear hHeld2
      (try simp only [Act.put, List.setIfInBounds_toArray, List.set_cons_zero, List.set_cons_succ])
      refine takeR 20 (v := ?_) rfl (by kernel_rfl) (by kernel_rfl) (by kernel_rfl) (fun _ _ _ h => h) (by rfl) ?_ hHeld ?_
      rotate_left
      · intro W hSw; (try dsimp only at hSw); go_simp; (try with_reducible rfl)
      (try simp only [Act.put, List.setIfInBounds_toArray, List.set_cons_zero, List.set_cons_succ])
      refine wpAnyH_done (by kernel_rfl) ?_ _
      go_wp2
      go_roundw
      case rel => exact ⟨k + 1, some ⟨g7, 0, none⟩, c7, by omega, by first | rfl | go_num, rfl, HO7, HB7⟩
      case measure => simp [intOf] <;> omega
    · obtain rfl : k = n := by omega
      have hown := HO.out
      rw [List.take_of_length_le (by rw [LY.out]; exact Nat.le_refl _)] at hown
      have HD := Lib.hid (ol_str hown HOK.out)
      have HLN := Lib.hid (show (.returned (.slice A3 k c3) : Ending) = .returned (.slice A3 (labP x p).length c3) by rw [LY.out])
      clear hown
      go_wp2
      go_ret
      exact ⟨A3, c3, HLN.out, by have h := HD.out; rw [← LY.out] at h; exact h, HB.out⟩
end Go.Proofs.YtfmnanaeegfgdaaGreatDoor
