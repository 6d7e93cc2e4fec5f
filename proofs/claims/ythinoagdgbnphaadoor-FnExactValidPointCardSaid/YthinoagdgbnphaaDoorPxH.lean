/- The closure that places the parts of a body one after the other. -/
import Derived.Test.YthinoagdgbnphaaDoorPxG
import Derived.Deep.AppendLies
namespace Go.Proofs.YthinoagdgbnphaaDoor
open Go.RowKit
def PlaceAt (x : Px) : Prop := ∀ (w : World) (B n cA : Nat) (A0 : Option Addr) (body : List Pt) (S : Nat → Prop) (k : Nat) (vs : List Value) (s : Int) (cc : Bool) (r : List Pt),
  x.ok → body.drop k = x.flat ++ r → body.length = n → n ≤ 20 → (0 ≤ s ∧ s ≤ 3 + k) → (∀ b, S b → b < B) → 0 < B → PlW B n cA A0 body S k vs w →
  Calls Tryd.prog 48 #[.int .i64 s, .bool cc, .pointer (some ⟨B + 2, 0, none⟩), .pointer (some ⟨B, 0, none⟩), .pointer (some ⟨B + 3, 0, none⟩)] w fun e w' =>
    e = .returned (.tuple #[]) ∧ Two B w w' ∧ ∃ news, PlW B n cA A0 body S (k + x.size) (vs ++ news) w' ∧ Rds anR w' S news (x.ann k s cc)
theorem set_mid {vs c us : List Value} {k : Nat} (h : vs.length = k * 7) (hc : c.length = 7) (u : Value) : (vs ++ (c ++ us)).set (k * 7 + 4) u = vs ++ (c.set 4 u ++ us) := by
  rw [List.set_append_right _ _ (by omega), h, show k * 7 + 4 - k * 7 = 4 by omega, List.set_append_left _ _ (by omega)]
theorem news_new (w : World) (o1 : Obj) (cs : Array Value) (t : TypeId) : ∀ j u, cs.toList[j]? = some u → ((w.alloc o1).alloc (.cells cs t)).cell? ((⟨w.heap.size + 1, 0, none⟩ : Addr).add j) = some u := by
  intro j u hj
  have hadd : (⟨w.heap.size + 1, 0, none⟩ : Addr).add j = ⟨w.heap.size + 1, j, none⟩ := by unfold Addr.add; split <;> simp_all
  rw [hadd, World.cell?_alloc_at _ _ _ _ (by simp)]
  simpa using hj
theorem one_cells (a b : Int) (c : ByteArray) (E : Option Addr) (l d : Nat) (e f : Int) (g : Bool) : ∀ u ∈ ([.int .i64 a, .int .i64 b, .string c, .slice E l d, .int .i64 e, .int .i64 f, .bool g] : List Value), u.oneCell' = true := by
  intro u hu
  simp only [List.mem_cons, List.not_mem_nil, or_false] at hu
  rcases hu with rfl | rfl | rfl | rfl | rfl | rfl | rfl <;> rfl
set_option maxRecDepth 100000 in
set_option maxHeartbeats 4000000 in
theorem place_node (x : Px) (IH : ∀ y ∈ x.kids, PlaceAt y) : PlaceAt x := by
  intro w B n cA A0 body S k vs s cc r hok hdrop hlen hn hs hSB hG h
  have hsz := x.size_kids
  have hkn : k + x.size ≤ n := by
    have e := congrArg List.length hdrop
    rw [List.length_drop, List.length_append, Px.flat_len, hlen] at e
    omega
  have hk : k < n := by omega
  have hkl : x.kids.length ≤ 2 := by cases x <;> simp [Px.kids]
  obtain ⟨hfol, hoks⟩ := Px.ok_kids hok
  have hx : body[k]? = some x.head := by
    have e : (body.drop k)[0]? = some x.head := by rw [hdrop, Px.flat_kids]; rfl
    rw [List.getElem?_drop, Nat.add_zero] at e; exact e
  have hd1 : body.drop (k + 1) = x.kids.flatMap Px.flat ++ r := by
    rw [← List.drop_drop, hdrop, Px.flat_kids]; rfl
  obtain ⟨b0, o0, cs0, x0, rfl, hb0, hR0, hx0, hc0⟩ := h.row.at_ (k := k) (by rw [hlen]; exact hk)
  obtain rfl : x0 = x.head := by have := hx0.out.symm.trans hx; injection this
  obtain ⟨E, ce, rfl, hz1, hlc1, hcm1, hr1⟩ := hR0
  have p0 : w.cell? ⟨b0, o0 + k * 4, none⟩ = some (.int .i64 x.head.k) := hc0 0 _ rfl
  have p1 : w.cell? ⟨b0, o0 + k * 4 + 1, none⟩ = some (.int .i64 x.head.n) := hc0 1 _ rfl
  have p2 : w.cell? ⟨b0, o0 + k * 4 + 2, none⟩ = some (.string x.head.nm) := hc0 2 _ rfl
  have p3 : w.cell? ⟨b0, o0 + k * 4 + 3, none⟩ = some (.slice E x.head.args.length ce) := hc0 3 _ rfl
  have q2 := h.d2
  have qP := h.pP
  have hB := h.hB
  have hbb := hSB b0 hb0
  have l0 : b0 < w.heap.size := by omega
  have lB : B < w.heap.size := by omega
  have lP : B + 2 < w.heap.size := by omega
  have lQ : B + 3 < w.heap.size := by omega
  have HSB := Lib.hid hSB
  have HPL := Lib.hid h
  have HIH := Lib.hid IH
  have HROW := Lib.hid hr1
  have HOK := Lib.hid hoks
  have HD := Lib.hid hd1
  have HL := Lib.hid hlen
  have HSZ := Lib.hid hsz
  have HF := Lib.hid hfol
  have HVL := Lib.hid (show vs.length = k * 7 from h.own.1)
  have HANN := Lib.hid (x.ann_kids k s cc)
  obtain ⟨i0, hi, hz0, hzs, hzb⟩ := info_parts info_Pl
  clear h IH hc0 hr1 hx hx0 hoks hdrop hlen hSB hok hd1 hfol
  rcases h4 : (x.head.k == 4) with _ | _
  · have kb : (x.head.k == 4) = false := h4
    have HS2 := Lib.hid (show s + sm x.head = s by unfold sm; rw [if_neg (by simpa using h4)]; omega)
    clear h4
    go_enter Tryd.func48, Tryd.ntmps48
    go_wp2_with (at_builtin; refine wpList_append_fits _ rfl (.tmp 16) (.tmp 21) 70 rfl (B + 1) 69 i0 7 Tryd.underlying70 hi hzs (B + 1) k n vs rfl (by exact own_below' HPL.out.own (by repeat (first | exact Below.refl _ _ | refine Below.alloc ?_ (by simp <;> omega) _))) ⟨w.heap.size + 1, 0, none⟩ 1 1 [.int .i64 x.head.k, .int .i64 x.head.n, .string x.head.nm, .slice E x.head.args.length ce, .int .i64 0, .int .i64 s, .bool cc] rfl rfl (by exact news_new _ _ _ _) (one_cells _ _ _ _ _ _ _ _ _) (by omega) ?_; intro w2 hown2 hg2; have HP2 := Lib.hid (PlW.grown (HPL.out.below (w' := (w.alloc _).alloc _) (by repeat (first | exact Below.refl _ _ | refine Below.alloc ?_ (by simp <;> omega) _)) HSB.out) HSB.out hG hg2 hown2); have HT2 := Lib.hid (((((Two.refl B w).alloc _).alloc _).grown hg2).setCell (p := ⟨B + 2, 0, none⟩) (.inr (.inr rfl)) (.slice (some ⟨B + 1, 0, none⟩) (k + 1) n)); have r0 := (hg2.cell_far ⟨w.heap.size, 0, none⟩ (by simp <;> omega) (by simp; omega)).trans (show _ = some (.int .i64 x.head.k) by simp [go_sem]); have r1 := (hg2.cell_far ⟨w.heap.size, 1, none⟩ (by simp <;> omega) (by simp; omega)).trans (show _ = some (.int .i64 x.head.n) by simp [go_sem]); have r2 := (hg2.cell_far ⟨w.heap.size, 2, none⟩ (by simp <;> omega) (by simp; omega)).trans (show _ = some (.string x.head.nm) by simp [go_sem]); have r3 := (hg2.cell_far ⟨w.heap.size, 3, none⟩ (by simp <;> omega) (by simp; omega)).trans (show _ = some (.slice E x.head.args.length ce) by simp [go_sem]); have g1 := (hg2.cell_far ⟨B + 2, 0, none⟩ (by simp; omega) (by simp)).trans (show _ = some (.slice (some ⟨B + 1, 0, none⟩) k n) by simp [go_sem, qP, lP]); have g2 := (hg2.frozen_far ⟨B + 2, 0, none⟩ (by simp; omega) (by simp)).trans (show _ = false by simp [go_sem, HPL.out.pF, lP]); have hs2 := hg2.size; simp at hs2; clear hg2 hown2)
    have lH : w.heap.size < w2.heap.size := by omega
    have lP2 : B + 2 < w2.heap.size := by omega
    go_wp2_with (go_at_call 49; refine (implFollow_any x.head E ce _ HP2.out.tab).mono ?_; rintro e w3 ⟨rfl, hb3⟩; rw [HF.out])
    have HP3 := Lib.hid (HP2.out.below hb3 HSB.out)
    have HT3 := Lib.hid (HT2.out.trans (.of_below hb3))
    have z0 : w3.cell? ⟨w.heap.size, 0, none⟩ = some (.int .i64 x.head.k) := (hb3.cell (p := ⟨w.heap.size, 0, none⟩) (by simp; omega)).trans (by simp [go_sem, r0])
    have hs3 := hb3.size
    simp at hs3
    clear r0 r1 r2 r3 g1 g2 hb3 lH lP2 l0 p0 p1 p2 p3 q2 qP hi hz0 hzs hzb
    go_loopw [30] (fun iv wr => ∃ i : Nat, i ≤ x.kids.length ∧ iv = .int .i64 i ∧ wr.cell? ⟨w.heap.size, 0, none⟩ = some (.int .i64 x.head.k) ∧ Hid (Two B w wr) ∧ Hid (∃ news, PlW B n cA (some ⟨b0, o0, none⟩) body S (k + 1 + sizeL (x.kids.take i)) (vs ++ ([.int .i64 x.head.k, .int .i64 x.head.n, .string x.head.nm, .slice E x.head.args.length ce, .int .i64 0, .int .i64 s, .bool cc] ++ news)) wr ∧ Rds anR wr S news (annL (x.kids.take i) (k + 1) (s) (x.head.k == 1)))) (fun iv _ => x.kids.length - (intOf iv).toNat)
    case atStart => exact ⟨0, Nat.zero_le _, rfl, z0, HT3, Lib.hid ⟨[], by have := HP3.out; simpa [sizeL] using this, Rds.nil⟩⟩
    case round =>
      obtain ⟨i, hi, rfl, z1, HT, HN⟩ := hrel
      obtain ⟨news, hpl, hrd⟩ := HN.out
      have HPw := Lib.hid hpl
      have HRd := Lib.hid hrd
      have u3 := hpl.pQ
      have uP := hpl.pP
      have uF := hpl.pF
      have hwr := hpl.hB
      have lH : w.heap.size < wr.heap.size := World.block_lt_of_cell? wr _ z1
      have lP2 : B + 2 < wr.heap.size := by omega
      have lB2 : B < wr.heap.size := by omega
      clear hpl hrd HN z0
      by_cases hlt : i < x.kids.length
      · obtain ⟨y, hy⟩ : ∃ y, x.kids[i]? = some y := ⟨_, List.getElem?_eq_getElem hlt⟩
        have hm := List.mem_of_getElem? hy
        have hle := sizeL_next hy
        have hsz' := HSZ.out
        have HD2 := Lib.hid (show body.drop (k + 1 + sizeL (x.kids.take i)) = y.flat ++ ((x.kids.drop (i + 1)).flatMap Px.flat ++ r) by rw [← List.drop_drop, HD.out, flat_drop r hy])
        have HY := Lib.hid hy
        have CI := Lib.hid (fun bb => HIH.out y hm wr B n cA (some ⟨b0, o0, none⟩) body S (k + 1 + sizeL (x.kids.take i)) _ (s) bb _ (HOK.out y hm) HD2.out HL.out hn (by omega) HSB.out hG HPw.out)
        clear hm hy hle hsz'
        go_wp2_with (go_at_call 48; refine (CI.out _).mono ?_; rintro e w4 ⟨rfl, ht4, news2, hp4, hr4⟩)
        go_roundw
        case rel => exact ⟨i + 1, by omega, by go_num, (ht4.cell lH (by omega) (by omega)).trans z1, Lib.hid (HT.out.trans ht4), Lib.hid ⟨news ++ news2, by rw [sizeL_take HY.out, ← Nat.add_assoc]; simpa only [List.append_assoc] using hp4, by rw [annL_take _ _ _ HY.out]; exact (HRd.out.keep fun b o hb => by have := HSB.out b hb; exact ht4.cell (by omega) (by omega) (by omega)).app hr4⟩⟩
        case measure => simp [intOf]; omega
      · have hie : x.kids.take i = x.kids := List.take_of_length_le (by omega)
        have hN : k + 1 + sizeL (x.kids.take i) = k + x.size := by have := HSZ.out; rw [hie]; omega
        rw [hN] at HPw uP
        rw [hie] at HRd
        have h7 := HPw.out.own.1
        obtain ⟨⟨old, u5⟩, uf5⟩ := own_some HPw.out.own (k := k * 7 + 4) (by have := HSZ.out; omega)
        have hkN : k < k + x.size := by have := HSZ.out; omega
        have hsN : k + x.size ≤ 20 := by omega
        have HSame := Lib.hid (show SameOn S w (wr.setCell ⟨B + 1, k * 7 + 4, none⟩ (.int .i64 ((k + x.size : Nat) : Int))) from fun b o hb => by
          have := HSB.out b hb
          exact (World.cell?_setCell_other _ _ _ _ (fun e => by injection e with e; omega)).trans (HT.out.cell (by omega) (by omega) (by omega)))
        have HFin := Lib.hid (show Two B w (wr.setCell ⟨B + 1, k * 7 + 4, none⟩ (.int .i64 ((k + x.size : Nat) : Int))) ∧ ∃ news, PlW B n cA (some ⟨b0, o0, none⟩) body S (k + x.size) (vs ++ news) (wr.setCell ⟨B + 1, k * 7 + 4, none⟩ (.int .i64 ((k + x.size : Nat) : Int))) ∧ Rds anR (wr.setCell ⟨B + 1, k * 7 + 4, none⟩ (.int .i64 ((k + x.size : Nat) : Int))) S news (x.ann k s cc) from
          ⟨HT.out.setCell (.inr (.inl rfl)) _, [.int .i64 x.head.k, .int .i64 x.head.n, .string x.head.nm, .slice E x.head.args.length ce, .int .i64 ((k + x.size : Nat) : Int), .int .i64 s, .bool cc] ++ news, by
            have hst := HPw.out.stored HSB.out hG (k * 7 + 4) (.int .i64 ((k + x.size : Nat) : Int))
            rw [set_mid HVL.out rfl] at hst
            exact hst, by
            rw [HANN.out, HS2.out]
            exact Rds.app (xs := [⟨x.head, k + x.size, s, cc⟩]) (Rds.one (F := anR) ⟨E, ce, rfl, hz1, hlc1, hcm1, HROW.out.keep HSame.out⟩) (HRd.out.keep fun b o hb => by have := HSB.out b hb; exact World.cell?_setCell_other _ _ _ _ (fun e => by injection e with e; omega))⟩)
        obtain ⟨N, eN⟩ : ∃ N, N = k + x.size := ⟨_, rfl⟩
        rw [← eN] at uP hkN hsN HFin
        have lB1 : B + 1 < wr.heap.size := by omega
        have HEN := Lib.hid eN
        clear HPw hN h7 HSame eN
        go_wp2
        first | go_end0 | skip
        exact ⟨rfl, by have h := HFin.out; rw [← HEN.out]; exact h⟩
  · have kb : (x.head.k == 4) = true := h4
    have HS2 := Lib.hid (show s + sm x.head = s + 1 by unfold sm; rw [if_pos (by simpa using h4)])
    clear h4
    go_enter Tryd.func48, Tryd.ntmps48
    go_wp2_with (at_builtin; refine wpList_append_fits _ rfl (.tmp 16) (.tmp 21) 70 rfl (B + 1) 69 i0 7 Tryd.underlying70 hi hzs (B + 1) k n vs rfl (by exact own_below' HPL.out.own (by repeat (first | exact Below.refl _ _ | refine Below.alloc ?_ (by simp <;> omega) _))) ⟨w.heap.size + 1, 0, none⟩ 1 1 [.int .i64 x.head.k, .int .i64 x.head.n, .string x.head.nm, .slice E x.head.args.length ce, .int .i64 0, .int .i64 s, .bool cc] rfl rfl (by exact news_new _ _ _ _) (one_cells _ _ _ _ _ _ _ _ _) (by omega) ?_; intro w2 hown2 hg2; have HP2 := Lib.hid (PlW.grown (HPL.out.below (w' := (w.alloc _).alloc _) (by repeat (first | exact Below.refl _ _ | refine Below.alloc ?_ (by simp <;> omega) _)) HSB.out) HSB.out hG hg2 hown2); have HT2 := Lib.hid (((((Two.refl B w).alloc _).alloc _).grown hg2).setCell (p := ⟨B + 2, 0, none⟩) (.inr (.inr rfl)) (.slice (some ⟨B + 1, 0, none⟩) (k + 1) n)); have r0 := (hg2.cell_far ⟨w.heap.size, 0, none⟩ (by simp <;> omega) (by simp; omega)).trans (show _ = some (.int .i64 x.head.k) by simp [go_sem]); have r1 := (hg2.cell_far ⟨w.heap.size, 1, none⟩ (by simp <;> omega) (by simp; omega)).trans (show _ = some (.int .i64 x.head.n) by simp [go_sem]); have r2 := (hg2.cell_far ⟨w.heap.size, 2, none⟩ (by simp <;> omega) (by simp; omega)).trans (show _ = some (.string x.head.nm) by simp [go_sem]); have r3 := (hg2.cell_far ⟨w.heap.size, 3, none⟩ (by simp <;> omega) (by simp; omega)).trans (show _ = some (.slice E x.head.args.length ce) by simp [go_sem]); have g1 := (hg2.cell_far ⟨B + 2, 0, none⟩ (by simp; omega) (by simp)).trans (show _ = some (.slice (some ⟨B + 1, 0, none⟩) k n) by simp [go_sem, qP, lP]); have g2 := (hg2.frozen_far ⟨B + 2, 0, none⟩ (by simp; omega) (by simp)).trans (show _ = false by simp [go_sem, HPL.out.pF, lP]); have hs2 := hg2.size; simp at hs2; clear hg2 hown2)
    have lH : w.heap.size < w2.heap.size := by omega
    have lP2 : B + 2 < w2.heap.size := by omega
    go_wp2_with (go_at_call 49; refine (implFollow_any x.head E ce _ HP2.out.tab).mono ?_; rintro e w3 ⟨rfl, hb3⟩; rw [HF.out])
    have HP3 := Lib.hid (HP2.out.below hb3 HSB.out)
    have HT3 := Lib.hid (HT2.out.trans (.of_below hb3))
    have z0 : w3.cell? ⟨w.heap.size, 0, none⟩ = some (.int .i64 x.head.k) := (hb3.cell (p := ⟨w.heap.size, 0, none⟩) (by simp; omega)).trans (by simp [go_sem, r0])
    have hs3 := hb3.size
    simp at hs3
    clear r0 r1 r2 r3 g1 g2 hb3 lH lP2 l0 p0 p1 p2 p3 q2 qP hi hz0 hzs hzb
    go_loopw [30] (fun iv wr => ∃ i : Nat, i ≤ x.kids.length ∧ iv = .int .i64 i ∧ wr.cell? ⟨w.heap.size, 0, none⟩ = some (.int .i64 x.head.k) ∧ Hid (Two B w wr) ∧ Hid (∃ news, PlW B n cA (some ⟨b0, o0, none⟩) body S (k + 1 + sizeL (x.kids.take i)) (vs ++ ([.int .i64 x.head.k, .int .i64 x.head.n, .string x.head.nm, .slice E x.head.args.length ce, .int .i64 0, .int .i64 s, .bool cc] ++ news)) wr ∧ Rds anR wr S news (annL (x.kids.take i) (k + 1) (s + 1) (x.head.k == 1)))) (fun iv _ => x.kids.length - (intOf iv).toNat)
    case atStart => exact ⟨0, Nat.zero_le _, rfl, z0, HT3, Lib.hid ⟨[], by have := HP3.out; simpa [sizeL] using this, Rds.nil⟩⟩
    case round =>
      obtain ⟨i, hi, rfl, z1, HT, HN⟩ := hrel
      obtain ⟨news, hpl, hrd⟩ := HN.out
      have HPw := Lib.hid hpl
      have HRd := Lib.hid hrd
      have u3 := hpl.pQ
      have uP := hpl.pP
      have uF := hpl.pF
      have hwr := hpl.hB
      have lH : w.heap.size < wr.heap.size := World.block_lt_of_cell? wr _ z1
      have lP2 : B + 2 < wr.heap.size := by omega
      have lB2 : B < wr.heap.size := by omega
      clear hpl hrd HN z0
      by_cases hlt : i < x.kids.length
      · obtain ⟨y, hy⟩ : ∃ y, x.kids[i]? = some y := ⟨_, List.getElem?_eq_getElem hlt⟩
        have hm := List.mem_of_getElem? hy
        have hle := sizeL_next hy
        have hsz' := HSZ.out
        have HD2 := Lib.hid (show body.drop (k + 1 + sizeL (x.kids.take i)) = y.flat ++ ((x.kids.drop (i + 1)).flatMap Px.flat ++ r) by rw [← List.drop_drop, HD.out, flat_drop r hy])
        have HY := Lib.hid hy
        have CI := Lib.hid (fun bb => HIH.out y hm wr B n cA (some ⟨b0, o0, none⟩) body S (k + 1 + sizeL (x.kids.take i)) _ (s + 1) bb _ (HOK.out y hm) HD2.out HL.out hn (by omega) HSB.out hG HPw.out)
        clear hm hy hle hsz'
        go_wp2_with (go_at_call 48; refine (CI.out _).mono ?_; rintro e w4 ⟨rfl, ht4, news2, hp4, hr4⟩)
        go_roundw
        case rel => exact ⟨i + 1, by omega, by go_num, (ht4.cell lH (by omega) (by omega)).trans z1, Lib.hid (HT.out.trans ht4), Lib.hid ⟨news ++ news2, by rw [sizeL_take HY.out, ← Nat.add_assoc]; simpa only [List.append_assoc] using hp4, by rw [annL_take _ _ _ HY.out]; exact (HRd.out.keep fun b o hb => by have := HSB.out b hb; exact ht4.cell (by omega) (by omega) (by omega)).app hr4⟩⟩
        case measure => simp [intOf]; omega
      · have hie : x.kids.take i = x.kids := List.take_of_length_le (by omega)
        have hN : k + 1 + sizeL (x.kids.take i) = k + x.size := by have := HSZ.out; rw [hie]; omega
        rw [hN] at HPw uP
        rw [hie] at HRd
        have h7 := HPw.out.own.1
        obtain ⟨⟨old, u5⟩, uf5⟩ := own_some HPw.out.own (k := k * 7 + 4) (by have := HSZ.out; omega)
        have hkN : k < k + x.size := by have := HSZ.out; omega
        have hsN : k + x.size ≤ 20 := by omega
        have HSame := Lib.hid (show SameOn S w (wr.setCell ⟨B + 1, k * 7 + 4, none⟩ (.int .i64 ((k + x.size : Nat) : Int))) from fun b o hb => by
          have := HSB.out b hb
          exact (World.cell?_setCell_other _ _ _ _ (fun e => by injection e with e; omega)).trans (HT.out.cell (by omega) (by omega) (by omega)))
        have HFin := Lib.hid (show Two B w (wr.setCell ⟨B + 1, k * 7 + 4, none⟩ (.int .i64 ((k + x.size : Nat) : Int))) ∧ ∃ news, PlW B n cA (some ⟨b0, o0, none⟩) body S (k + x.size) (vs ++ news) (wr.setCell ⟨B + 1, k * 7 + 4, none⟩ (.int .i64 ((k + x.size : Nat) : Int))) ∧ Rds anR (wr.setCell ⟨B + 1, k * 7 + 4, none⟩ (.int .i64 ((k + x.size : Nat) : Int))) S news (x.ann k s cc) from
          ⟨HT.out.setCell (.inr (.inl rfl)) _, [.int .i64 x.head.k, .int .i64 x.head.n, .string x.head.nm, .slice E x.head.args.length ce, .int .i64 ((k + x.size : Nat) : Int), .int .i64 s, .bool cc] ++ news, by
            have hst := HPw.out.stored HSB.out hG (k * 7 + 4) (.int .i64 ((k + x.size : Nat) : Int))
            rw [set_mid HVL.out rfl] at hst
            exact hst, by
            rw [HANN.out, HS2.out]
            exact Rds.app (xs := [⟨x.head, k + x.size, s, cc⟩]) (Rds.one (F := anR) ⟨E, ce, rfl, hz1, hlc1, hcm1, HROW.out.keep HSame.out⟩) (HRd.out.keep fun b o hb => by have := HSB.out b hb; exact World.cell?_setCell_other _ _ _ _ (fun e => by injection e with e; omega))⟩)
        obtain ⟨N, eN⟩ : ∃ N, N = k + x.size := ⟨_, rfl⟩
        rw [← eN] at uP hkN hsN HFin
        have lB1 : B + 1 < wr.heap.size := by omega
        have HEN := Lib.hid eN
        clear HPw hN h7 HSame eN
        go_wp2
        first | go_end0 | skip
        exact ⟨rfl, by have h := HFin.out; rw [← HEN.out]; exact h⟩
theorem place_all (x : Px) : PlaceAt x := by
  induction x with
  | leaf p => exact place_node _ (by intro y hy; simp [Px.kids] at hy)
  | one p a ih => exact place_node _ (by intro y hy; simp [Px.kids] at hy; subst hy; exact ih)
  | two p a b iha ihb => exact place_node _ (by
      intro y hy
      simp [Px.kids] at hy
      rcases hy with h | h
      · rw [h]; exact iha
      · rw [h]; exact ihb)
end Go.Proofs.YthinoagdgbnphaaDoor
