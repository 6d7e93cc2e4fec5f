/- States behind traces: visible labels, and the states behind one label: the program. -/
import Derived.Test.YtbailpfjgjcbdaaGreatDoorAfM
import Derived.Test.YtbailpfjgjcbdaaGreatDoorApR
import Derived.Test.YtbailpfjgjcbdaaGreatDoorIcI
namespace Go.Proofs.YtbailpfjgjcbdaaGreatDoor
open Go.RowKit
set_option linter.unusedVariables false
set_option linter.unusedSimpArgs false
theorem isNotVis_any (s : ByteArray) (w : World) (hsz : s.size ≤ 1048576) (ht : TxtTabs w) : Calls Tryz.prog 43 #[.string s] w fun e w' => e = .returned (.bool (!visB s)) ∧ Below w.heap.size w w' := by
  have C := Lib.hid (implIsLabel_any s w hsz ht)
  have HL := Lib.hid (show (lvR s.data.toList).2 = labB s from rfl)
  have hTv : (s.toList == [116, 97, 117]) = isT s := rfl
  clear ht
  rcases ta : labB s with _ | _
  · have HF := Lib.hid (show visB s = false by unfold visB; rw [ta]; rfl)
    have TA := Lib.hid ta
    clear ta hTv
    go_enter Tryz.func43, Tryz.ntmps43
    go_wp2_with (go_at_call 78; refine (C.out).mono ?_; rw [HL.out, TA.out]; rintro e w2 ⟨rfl, hb⟩; have HB := Lib.hid hb; clear hb)
    go_ret
    exact ⟨by rw [HF.out]; rfl, HB.out⟩
  · have HF := Lib.hid (show visB s = !isT s by unfold visB; rw [ta]; rfl)
    have TA := Lib.hid ta
    clear ta
    rcases tt : isT s with _ | _
    · rw [tt] at hTv HF
      clear tt
      go_enter Tryz.func43, Tryz.ntmps43
      go_wp2_with (go_at_call 78; refine (C.out).mono ?_; rw [HL.out, TA.out]; rintro e w2 ⟨rfl, hb⟩; have HB := Lib.hid hb; clear hb)
      go_ret
      exact ⟨by rw [HF.out]; rfl, HB.out⟩
    · rw [tt] at hTv HF
      clear tt
      go_enter Tryz.func43, Tryz.ntmps43
      go_wp2_with (go_at_call 78; refine (C.out).mono ?_; rw [HL.out, TA.out]; rintro e w2 ⟨rfl, hb⟩; have HB := Lib.hid hb; clear hb)
      go_ret
      exact ⟨by rw [HF.out]; rfl, HB.out⟩
set_option maxRecDepth 100000 in
set_option maxHeartbeats 2000000 in
theorem idxVis_any (A : Option Addr) (n c : Nat) (xs : List ByteArray) (w : World) (S : Nat → Prop) (h : LRow txtR w S A xs) (l : xs.length = n) (m : n ≤ 1048576) (hS : ∀ b, S b → b < w.heap.size) (ok : ∀ x ∈ xs, okTx x) (ht : TxtTabs w) :
    Calls Tryz.prog 77 #[.slice A n c, .func (.func 43) #[] #[]] w (IdxAll visB xs w) := by
  have L := Lib.hid l
  have HR := Lib.hid h
  have HS := Lib.hid hS
  have OK := Lib.hid ok
  have HT := Lib.hid ht
  clear h l hS ok ht
  go_enter Tryz.func77, Tryz.ntmps77
  go_wp2
  go_loopw [8] (fun i wr => ∃ k : Nat, k ≤ n ∧ i = .int .i64 k ∧ Hid (Below w.heap.size w wr) ∧ Hid ((xs.take k).all visB = true)) (fun i _ => n - (intOf i).toNat)
  case atStart => exact ⟨0, Nat.zero_le _, rfl, Lib.hid (Below.refl _ _), Lib.hid rfl⟩
  case round =>
    obtain ⟨k, hk, rfl, HB, HE⟩ := hrel
    have hsz := HB.out.size
    by_cases hlt : k < n
    · obtain ⟨b, o, cs, u, rfl, hb, hR, hu, hc⟩ := (HR.out.keep (SameOn.of_below HB.out HS.out)).at_ (k := k) (by rw [L.out]; exact hlt)
      obtain ⟨rfl, _⟩ := hR
      have r0 : wr.cell? ⟨b, o + k, none⟩ = some (.string u) := by have := hc 0 _ rfl; simpa [txtR] using this
      have C := Lib.hid (isNotVis_any u wr (OK.out u (List.mem_of_getElem? hu.out)) (HT.out.below HB.out))
      clear hc
      rcases ta : visB u with _ | _
      · have HF := Lib.hid (all_false (p := visB) hu.out ta)
        have TA := Lib.hid ta
        clear ta
        go_wp2_with (go_at_call 43; refine (C.out).mono ?_; rw [TA.out]; rintro e w3 ⟨rfl, hb3⟩; have HB3 := Lib.hid (HB.out.trans (hb3.mono hsz)); clear hb3)
        go_ret
        exact ⟨_, rfl, .inr ⟨HF.out, by omega⟩, HB3.out⟩
      · have HN := Lib.hid (all_take_next (p := visB) HE.out hu.out ta)
        have TA := Lib.hid ta
        clear ta
        go_wp2_with (go_at_call 43; refine (C.out).mono ?_; rw [TA.out]; rintro e w3 ⟨rfl, hb3⟩; have HB3 := Lib.hid (HB.out.trans (hb3.mono hsz)); clear hb3)
        go_roundw
        case rel => exact ⟨k + 1, by omega, by go_num, HB3, HN⟩
        case measure => simp [intOf]; omega
    · have HF := Lib.hid (show xs.all visB = true by
        have ht := HE.out
        rwa [List.take_of_length_le (by rw [L.out]; omega)] at ht)
      go_wp2
      go_ret
      exact ⟨_, rfl, .inl ⟨HF.out, rfl⟩, HB.out⟩
theorem conVis_any (A : Option Addr) (n c : Nat) (xs : List ByteArray) (w : World) (S : Nat → Prop) (h : LRow txtR w S A xs) (l : xs.length = n) (m : n ≤ 1048576) (hS : ∀ b, S b → b < w.heap.size) (ok : ∀ x ∈ xs, okTx x) (ht : TxtTabs w) :
    Calls Tryz.prog 42 #[.slice A n c, .func (.func 43) #[] #[]] w fun e w' => e = .returned (.bool (!(xs.all visB))) ∧ Below w.heap.size w w' := by
  have C := Lib.hid (idxVis_any A n c xs w S h l m hS ok ht)
  clear h l hS ok ht
  go_enter Tryz.func42, Tryz.ntmps42
  go_wp2_with fail
  refine (C.out).mono ?_
  rintro e w2 ⟨r, rfl, (⟨h1, rfl⟩ | ⟨h1, h2⟩), hb⟩
  · have HB := Lib.hid hb
    have H1 := Lib.hid h1
    clear hb h1
    go_wp2
    go_ret
    exact ⟨by rw [H1.out]; rfl, HB.out⟩
  · have HB := Lib.hid hb
    have H1 := Lib.hid h1
    clear hb h1
    go_wp2
    go_ret
    exact ⟨by rw [H1.out]; rfl, HB.out⟩
/-- The blocks that a round of 'behind' keeps: all below lo, and the iterator's three boxes. -/
def RB (lo q : Nat) : Nat → Prop := fun b => b < lo ∨ (q ≤ b ∧ b < q + 3)
set_option maxRecDepth 100000 in
set_option maxHeartbeats 4000000 in
theorem behind_any (x : Lt) (nl : Int) (u : ByteArray) (A1 A2 : Option Addr) (c1 c2 : Nat) (B : Option Addr) (n d : Nat) (ss : List Int) (w : World) (S S2 : Nat → Prop) (h1 : LRow txtR w S A1 x.ls) (h2 : LRow edR w S A2 x.es) (hS : ∀ b, S b → b < w.heap.size) (tv : ltB x = true) (hlf : ∀ (s : ByteArray) (i : Int), 0 ≤ i → x.ls[i.toNat]? = some s → eqB s u = (i == nl)) (hr : LRow intR w S2 B ss) (hS2 : ∀ b, S2 b → b < w.heap.size) (l : ss.length = n) (m : n ≤ 40) :
    Calls Tryz.prog 44 #[ltCells x A1 A2 c1 c2, .slice B n d, .string u] w fun e w' => ∃ A c, e = .returned (.slice A (nexL x ss nl).length c) ∧ OL intO 2 w' (In w.heap.size w'.heap.size) A (nexL x ss nl).length c (nexL x ss nl) ∧ Below w.heap.size w w' := by
  have hm := (ltB_parts tv).2.2.2.1
  have HLEN := Lib.hid (fun j : Nat => (show (behL x (ss.take j) nl).length ≤ 300 * (ss.take j).length from behL_len hm nl _))
  have HIN := Lib.hid (behL_in tv ss nl)
  have HNX := Lib.hid (show cloL x (behL x ss nl) = nexL x ss nl from rfl)
  have CG := Lib.hid (fun (k : Int) (W : World) => goalsN_any x k u A1 A2 c1 c2 W)
  have CS := Lib.hid (fun (k : Int) (lo q k0 c0 : Nat) (A0 : Option Addr) (pre0 : List Int) (W : World) (hW : Below w.heap.size w W) (hq : q + 3 = W.heap.size) (hlw : w.heap.size ≤ lo) (hloq : lo ≤ q) (hrow0 : W.ownsRow lo 2 1 (.slice A0 k0 c0) k0 (pre0.map (Value.int .i64))) (hk0 : k0 ≤ 1000000) (hv0 : ∀ g, (Value.slice A0 k0 c0).ownBlock = some g → g < q) y2 y3 yk yu => appendSeqC_any 90 _ (enters_of Tryz.func90 (by kernel_rfl) rfl) _ 301 (by omega) lo k0 c0 A0 pre0 (RB lo q) W (fun k hk => by rcases hk with hk | hk <;> omega) (by omega) hrow0 hk0 (fun g hg hR => by
      have h1 := hv0 g hg
      have h2 := (hrow0.lt g hg).1
      rcases hR with hR | hR <;> omega)
    (goalsN_stops nl x k u q A1 A2 c1 c2 W S (KR (RB lo q)) W.heap.size (kpOK_KR (fun k hk => by rcases hk with hk | hk <;> omega) ⟨.inr ⟨Nat.le_refl _, by omega⟩, .inr ⟨by omega, by omega⟩, .inr ⟨by omega, by omega⟩⟩ (fun b hb => .inl (Nat.lt_of_lt_of_le (hS b hb) hlw))) (Nat.le_refl _) (by omega) y2 y3 yk yu (h1.keep (SameOn.of_below hW hS)) (h2.keep (SameOn.of_below hW hS)) (fun b hb => Nat.lt_of_lt_of_le (hS b hb) hW.size) tv hlf))
  have CC := Lib.hid (fun (B' : Option Addr) (k' c' : Nat) (W : World) (hW : Below w.heap.size w W) (S' : Nat → Prop) (hr' : LRow intR W S' B' (behL x ss nl)) (hS' : ∀ b, S' b → b < W.heap.size) (hl' : (behL x ss nl).length = k') (hk' : k' ≤ 100000) => closureOf_any x A1 A2 c1 c2 B' k' c' (behL x ss nl) W S S' (h1.keep (SameOn.of_below hW hS)) (h2.keep (SameOn.of_below hW hS)) (fun b hb => Nat.lt_of_lt_of_le (hS b hb) hW.size) tv hr' hS' hl' hk' HIN.out)
  have HR := Lib.hid hr
  have HS2 := Lib.hid hS2
  have L := Lib.hid l
  clear h1 h2 hS tv hlf hr hS2 l hm
  go_enter Tryz.func44, Tryz.ntmps44
  go_wp2
  obtain ⟨w1, hw1⟩ : ∃ w1, w1 = w.alloc (.cells #[.int .i64 x.st, .int .i64 x.ini, .slice A1 x.ls.length c1, .slice A2 x.es.length c2] 32) := ⟨_, rfl⟩
  rw [← hw1]
  have HB1 := Lib.hid (show Below w.heap.size w w1 by rw [hw1]; exact (Below.refl _ _).alloc (Nat.le_refl _) _)
  have HZ1 := Lib.hid (show w1.heap.size = w.heap.size + 1 by rw [hw1]; simp)
  have HBOX := Lib.hid (show Box4 w1 w.heap.size x A1 A2 c1 c2 by rw [hw1]; exact ⟨by simp [go_sem], by simp [go_sem], by simp [go_sem], by simp [go_sem]⟩)
  clear hw1
  go_loopw [7, 12] (fun v i wr => ∃ (j k : Nat) (A : Option Addr) (c : Nat), j ≤ n ∧ i = .int .i64 (j : Int) ∧ v = .slice A k c ∧ Hid (k = (behL x (ss.take j) nl).length) ∧ Hid (wr.ownsRow (w.heap.size + 1) 2 1 (.slice A k c) k ((behL x (ss.take j) nl).map (Value.int .i64))) ∧ Hid (Below (w.heap.size + 1) w1 wr)) (fun _ i _ => n - (intOf i).toNat)
  case atStart => exact ⟨0, 0, none, 0, Nat.zero_le _, rfl, rfl, Lib.hid rfl, Lib.hid (World.ownsRow_nil _ _ _ _), Lib.hid (Below.refl _ _)⟩
  case round =>
    obtain ⟨j, k, A, c, hj, rfl, rfl, HK, HO, HB⟩ := hrel
    have hsz := HB.out.size
    have hz1 := HZ1.out
    have HBW := Lib.hid (show Below w.heap.size w wr from HB1.out.trans (HB.out.mono (Nat.le_succ _)))
    have HX := Lib.hid (HBOX.out.keep HB.out (Nat.lt_succ_self _))
    obtain ⟨z0, z1, z2, z3⟩ := HX.out
    have hbx := HX.out.lt
    have hk : k ≤ 12000 := by
      have h1 := HLEN.out j
      have h2 : (ss.take j).length ≤ 40 := by rw [List.length_take]; have := L.out; omega
      rw [HK.out]; omega
    by_cases hlt : j < n
    · obtain ⟨b, o, i, rfl, hb, r0, hi⟩ := int_row (HR.out.keep (SameOn.of_below HBW.out HS2.out)) (k := j) (by rw [L.out]; exact hlt)
      have lb := World.block_lt_of_cell? wr _ r0
      have HS := Lib.hid (show behL x (ss.take (j + 1)) nl = behL x (ss.take j) nl ++ sucE x i nl by rw [take_one _ _ _ hi.out, behL_snoc])
      have CG1 := Lib.hid (CG.out i wr)
      have HTOP := Lib.hid (fun (g : Nat) (hg : (Value.slice A k c).ownBlock = some g) => (HO.out.lt g hg).2)
      go_wp2_with (first
        | (go_at_call 65; refine (CG1.out).mono ?_; rintro e w4 ⟨rfl, hs4, hb4, q2, q3, qk, qu⟩; have HB4 := Lib.hid (HB.out.trans (hb4.mono (by omega))); have HW4 := Lib.hid (HBW.out.trans (hb4.mono HBW.out.size)); have C4 := Lib.hid (CS.out i (w.heap.size + 1) wr.heap.size k c A _ w4 HW4.out hs4.symm (by omega) (by omega) (own_below' HO.out hb4) (by omega) HTOP.out q2 q3 qk qu); clear hs4 hb4 q2 q3 qk qu)
        | (go_at_call 79; refine (C4.out).mono ?_; rintro e w5 ⟨v, rfl, hrow, hkr⟩; obtain ⟨A5, c5, rfl⟩ := own_slice hrow; have HO5 := Lib.hid hrow; have HB5 := Lib.hid (HB4.out.trans (hkr.below (fun k hk => .inl hk))); clear hrow hkr))
      go_roundw
      case rel => exact ⟨j + 1, _, A5, c5, by omega, by go_num, rfl, Lib.hid (by rw [HS.out, List.length_append, ← HK.out]), Lib.hid (by rw [HS.out]; exact HO5.out), HB5⟩
      case measure => simp [intOf]; omega
    · have HE := Lib.hid (show ss.take j = ss from List.take_of_length_le (by rw [L.out]; omega))
      have HL := Lib.hid (show (behL x ss nl).length = k by rw [HK.out, HE.out])
      have HRW := Lib.hid (show LRow intR wr (In (w.heap.size + 1) wr.heap.size) A (behL x ss nl) from (ol_int (show wr.ownsRow (w.heap.size + 1) 2 1 (.slice A k c) k ((behL x ss nl).map (Value.int .i64)) from by have h := HO.out; rw [HE.out] at h; exact h) HL.out).lrow)
      have C5 := Lib.hid (CC.out A k c wr HBW.out _ HRW.out (fun b hb => hb.2) HL.out (by omega))
      have HSW := Lib.hid HBW.out.size
      rw [HNX.out] at C5
      go_wp2_with (go_at_call 36; refine (C5.out).mono ?_; rintro e w6 ⟨A6, c6, rfl, hO, hb6⟩; have HB6 := Lib.hid (HBW.out.trans (hb6.mono HBW.out.size)); have HO6 := Lib.hid (hO.more (S' := In w.heap.size w6.heap.size) (fun b hb => ⟨Nat.le_trans HSW.out hb.1, hb.2⟩)); clear hb6 hO)
      go_ret
      exact ⟨A6, c6, rfl, HO6.out, HB6.out⟩
end Go.Proofs.YtbailpfjgjcbdaaGreatDoor
