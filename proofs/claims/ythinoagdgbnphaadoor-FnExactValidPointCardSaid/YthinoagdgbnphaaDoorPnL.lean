/- ValidPoint: the program, and the law. -/
import Derived.Deep.RegionHeld3
import Derived.Test.YthinoagdgbnphaaDoorPnI
import Derived.Test.YthinoagdgbnphaaDoorPnC
import Derived.Test.YthinoagdgbnphaaDoorDatP
import Derived.Test.YthinoagdgbnphaaDoorPxL
namespace Go.Proofs.YthinoagdgbnphaaDoor
open Go.RowKit
/-- The three cells of a boxed point. -/
def B3 (b : Nat) (v0 v1 v2 : Value) (W : World) : Prop := b < W.heap.size ∧ W.cell? ⟨b, 0, none⟩ = some v0 ∧ W.cell? ⟨b, 1, none⟩ = some v1 ∧ W.cell? ⟨b, 2, none⟩ = some v2
theorem B3.next {b : Nat} {v0 v1 v2 : Value} {W W' : World} (h : B3 b v0 v1 v2 W) (hb : Below W.heap.size W W') : B3 b v0 v1 v2 W' :=
  ⟨Nat.lt_of_lt_of_le h.1 hb.size, (hb.cell (p := ⟨b, 0, none⟩) h.1).trans h.2.1, (hb.cell (p := ⟨b, 1, none⟩) h.1).trans h.2.2.1, (hb.cell (p := ⟨b, 2, none⟩) h.1).trans h.2.2.2⟩
set_option maxRecDepth 100000 in
theorem implPoint_any (ls : List Df) (x : Pn) (A : Option Addr) (c : Nat) (V : Option Addr) (cv : Nat) (w : World) (S : Nat → Prop) (h : LRow dfR w S A ls) (g : LRow intR w S V x.vs) (hS : ∀ b, S b → b < w.heap.size) (hok : okList okDf ls) (hv : x.vs.length ≤ 1048576) (ht : FormTab w) :
    Calls Tryd.prog 9 #[.slice A ls.length c, .agg #[.int .i64 x.d, .int .i64 x.pt, .slice V x.vs.length cv]] w fun e w' => e = .returned (.bool (vpB ls x)) ∧ Below w.heap.size w w' := by
  have CD := Lib.hid (fun (W : World) (hW : Below w.heap.size w W) => (Calls.mono (implDefs_any A c ls W S (h.keep (SameOn.of_below hW hS)) (fun b hb => Nat.lt_of_lt_of_le (hS b hb) hW.size) hok (ht.below hW)) (fun e w' ⟨he, hb⟩ => (⟨he, hW.trans (Below.mono hb hW.size), hb⟩ : e = Ending.returned (.bool (vdB ls)) ∧ Below w.heap.size w w' ∧ Below W.heap.size W w'))))
  rcases tv : vdB ls with _ | _
  · have HF := Lib.hid (show vpB ls x = false by unfold vpB; rw [tv]; rfl)
    rw [tv] at CD
    clear tv h g hS hok ht
    go_enter Tryd.func9, Tryd.ntmps9
    go_wp2_with (go_at_call 18; refine (CD.out _ (by repeat (first | exact Below.refl _ _ | refine Below.setCell ?_ (by simp) _ | refine Below.alloc ?_ (by simp <;> omega) _))).mono ?_; rintro e w2 ⟨rfl, hb, hb2⟩; have HB := Lib.hid hb; clear hb hb2)
    go_ret
    exact ⟨ret_bool HF.out.symm, HB.out⟩
  have HF := Lib.hid (show vpB ls x = fitB ls x by unfold vpB; rw [tv]; rfl)
  have CF := Lib.hid (fun (W : World) (hW : Below w.heap.size w W) => (Calls.mono (fitsP_any ls x A c V cv W S (h.keep (SameOn.of_below hW hS)) (g.keep (SameOn.of_below hW hS)) (fun b hb => Nat.lt_of_lt_of_le (hS b hb) hW.size) tv hv (ht.below hW)) (fun e w' ⟨he, hb⟩ => (⟨he, hW.trans (Below.mono hb hW.size)⟩ : e = Ending.returned (.bool (fitB ls x)) ∧ Below w.heap.size w w'))))
  rw [tv] at CD
  clear tv h g hS hok ht
  go_enter Tryd.func9, Tryd.ntmps9
  go_wp2_with (first
    | (go_at_call 18; refine (CD.out _ (by repeat (first | exact Below.refl _ _ | refine Below.setCell ?_ (by simp) _ | refine Below.alloc ?_ (by simp <;> omega) _))).mono ?_; rintro e w2 ⟨rfl, hb, hb2⟩; have HB := Lib.hid hb; have y0 := (hb2.cell (p := ⟨w.heap.size, 0, none⟩) (by simp)).trans (show _ = some (.int .i64 x.d) by simp [go_sem]); have y1 := (hb2.cell (p := ⟨w.heap.size, 1, none⟩) (by simp)).trans (show _ = some (.int .i64 x.pt) by simp [go_sem]); have y2 := (hb2.cell (p := ⟨w.heap.size, 2, none⟩) (by simp)).trans (show _ = some (.slice V x.vs.length cv) by simp [go_sem]); have yl : w.heap.size < w2.heap.size := World.block_lt_of_cell? w2 _ y0; clear hb hb2)
    | (go_at_call 19; refine (CF.out _ HB.out).mono ?_; rintro e w4 ⟨rfl, hb⟩; have HB4 := Lib.hid hb; clear hb))
  go_ret
  exact ⟨by rw [HF.out]; rfl, HB4.out⟩
set_option maxRecDepth 100000 in
set_option maxHeartbeats 8000000 in
theorem lawPoint_any (ls : List Df) (x : Pn) (A : Option Addr) (n c : Nat) (cs : List Value) (w : World) (h : LRow dfR w (· < w.heap.size) A ls) (l : ls.length = n) (hn : n ≤ maxLen) (hx : pnR.R w (· < w.heap.size) x cs) (ht : FormTab w) :
    Calls Tryd.prog 3 #[.slice A n c, .agg cs.toArray] w fun e w' => e = .returned (.bool true) ∧ Below w.heap.size w w' := by
  subst l
  obtain ⟨V, cv, rfl, hlc, hcm, g⟩ := hx
  have HT := Lib.hid ht
  have LT := Lib.hid (fun (W : World) (hW : Below w.heap.size w W) (b : Nat) (h : b < w.heap.size) => Nat.lt_of_lt_of_le h hW.size)
  have CSD := Lib.hid (fun (W : World) (hW : Below w.heap.size w W) => (Calls.mono (szDDefinitionS_any A _ c ls 1048576 W _ (h.keep (SameOn.of_below hW fun b h => h)) (LT.out W hW) rfl hn (by omega) (by omega)) (fun e w' ⟨q, he, hq, hb⟩ => (⟨q, he, hq, hW.trans (Below.mono hb hW.size), hb⟩ : ∃ q : Int, e = Ending.returned (.int .i64 q) ∧ (q < 0 ∨ (0 ≤ q ∧ q ≤ 1048576 ∧ okList okDf ls)) ∧ Below w.heap.size w w' ∧ Below W.heap.size W w'))))
  have CSP := Lib.hid (fun (W : World) (hW : Below w.heap.size w W) (r : Int) (r0 : 0 ≤ r) (r1 : r ≤ 1048576) => (Calls.mono (szDPoint_any x V cv r W hlc hcm r0 r1) (fun e w' ⟨q, he, hq, hb⟩ => (⟨q, he, hq, hW.trans (Below.mono hb hW.size), hb⟩ : ∃ q : Int, e = Ending.returned (.int .i64 q) ∧ (q < 0 ∨ (0 ≤ q ∧ q ≤ r ∧ okPn x)) ∧ Below w.heap.size w w' ∧ Below W.heap.size W w'))))
  have CTD := Lib.hid (fun (W : World) (hW : Below w.heap.size w W) (ok : okList okDf ls) => (Calls.mono (toDDefinitionS_any A _ c ls W _ (h.keep (SameOn.of_below hW fun b h => h)) (LT.out W hW) rfl ok) (fun e w' ⟨he, hr, hb⟩ => (⟨_, he, hr.more fun b h => ⟨Nat.le_trans hW.size h.1, h.2⟩, hW.trans (Below.mono hb hW.size), hb⟩ : ∃ B, e = Ending.returned (.slice (some B) ls.length ls.length) ∧ LRow dfR w' (In w.heap.size w'.heap.size) (some B) ls ∧ Below w.heap.size w w' ∧ Below W.heap.size W w'))))
  have CTP := Lib.hid (fun (W : World) (hW : Below w.heap.size w W) (ok : okPn x) => (Calls.mono (toDPoint_any x V cv W _ (g.keep (SameOn.of_below hW fun b h => h)) (LT.out W hW) ok) (fun e w' ⟨cs, he, ⟨E, ce, hcs, _, _, hr⟩, hb⟩ => (⟨E, ce, by rw [he, hcs], hr.more fun b h => ⟨Nat.le_trans hW.size h.1, h.2⟩, hW.trans (Below.mono hb hW.size), hb⟩ : ∃ E ce, e = Ending.returned (.agg #[.int .i64 x.d, .int .i64 x.pt, .slice E x.vs.length ce]) ∧ LRow intR w' (In w.heap.size w'.heap.size) E x.vs ∧ Below w.heap.size w w' ∧ Below W.heap.size W w'))))
  have hne : (vpB ls x != vpB ls x) = false := by simp
  clear h g hlc hcm hn ht
  go_enter Tryd.func3, Tryd.ntmps3
  go_wp2_with fail
  refine (CSD.out _ (by repeat (first | exact Below.refl _ _ | refine Below.setCell ?_ (by simp) _ | refine Below.alloc ?_ (by simp <;> omega) _))).mono ?_
  rintro e v1 ⟨q1, rfl, hq, b2, b3⟩
  have BA := Lib.hid (B3.next (b := w.heap.size) (v0 := .int .i64 x.d) (v1 := .int .i64 x.pt) (v2 := .slice V x.vs.length cv) ⟨by simp <;> omega, by simp [go_sem], by simp [go_sem], by simp [go_sem]⟩ b3)
  have HB := Lib.hid b2
  clear b2 b3
  rcases hq with hq | ⟨hp1, hl1, hok⟩
  · go_wp2
    go_ret
    exact ⟨rfl, HB.out⟩
  have hn1 : ¬ q1 < 0 := by omega
  have OD := Lib.hid hok
  clear hok
  obtain ⟨a3, a0, a1, a2⟩ := BA.out
  go_wp2_with fail
  refine (CSP.out _ HB.out _ hp1 hl1).mono ?_
  rintro e v2 ⟨q2, rfl, hq, b2, b3⟩
  clear a0 a1 a2 a3
  have BA := Lib.hid (BA.out.next b3)
  have HB := Lib.hid b2
  clear b2 b3
  rcases hq with hq | ⟨hp2, hl2, hok⟩
  · go_wp2
    go_ret
    exact ⟨rfl, HB.out⟩
  have hn2 : ¬ q2 < 0 := by omega
  have OP := Lib.hid hok
  have hvl := hok.1
  clear hok
  obtain ⟨a3, a0, a1, a2⟩ := BA.out
  go_wp2_with fail
  have HS := Lib.hid (fun (W : World) (hW : Below v2.heap.size v2 W) => (⟨hW, (BA.out.next hW).2⟩ : Below v2.heap.size v2 W ∧ W.cell? ⟨w.heap.size, 0, none⟩ = some (.int .i64 x.d) ∧ W.cell? ⟨w.heap.size, 1, none⟩ = some (.int .i64 x.pt) ∧ W.cell? ⟨w.heap.size, 2, none⟩ = some (.slice V x.vs.length cv)))
  have HV := Lib.hid (Below.refl v2.heap.size v2)
  have HB2 := HB
  clear a0 a1 a2 a3
  go_region_held3 (fun W => Below v2.heap.size v2 W ∧ W.cell? ⟨w.heap.size, 0, none⟩ = some (.int .i64 x.d) ∧ W.cell? ⟨w.heap.size, 1, none⟩ = some (.int .i64 x.pt) ∧ W.cell? ⟨w.heap.size, 2, none⟩ = some (.slice V x.vs.length cv)) (exact HS.out _ (by first | exact HV.out | exact HV.out.drew)) (first
    | (go_at_call 7; (with_reducible refine (CTD.out _ (by first | exact HB.out | exact HB.out.drew) OD.out).mono ?_); rintro e vq ⟨D1, rfl, hR, b2, b3⟩; have HV := Lib.hid (Below.trans (by first | exact HV.out | exact HV.out.drew) (b3.mono (by first | exact Nat.le_refl _ | exact HV.out.size))); have HR1 := Lib.hid hR; have HB := Lib.hid b2; clear hR b2 b3)
    | (go_at_call 8; (with_reducible refine (CTP.out _ (by first | exact HB.out | exact HB.out.drew) OP.out).mono ?_); rintro e vq2 ⟨E1, e1, rfl, hR, b2, b3⟩; have HV := Lib.hid (Below.trans (by first | exact HV.out | exact HV.out.drew) (b3.mono (by first | exact Nat.le_refl _ | exact HV.out.size))); have HR1 := Lib.hid (HR1.out.keep (SameOn.of_below b3 fun _ h => h.2) |>.more fun b h => (⟨h.1, Nat.lt_of_lt_of_le h.2 b3.size⟩ : In w.heap.size vq2.heap.size b)); have HR2 := Lib.hid hR; have HB := Lib.hid b2; clear hR b2 b3)
    | (go_at_call 6; refine (specPoint_any ls x _ _ _ _ _ _ HR1.out HR2.out (fun b h => h.2) OD.out hvl).mono ?_; rintro e vq3 ⟨rfl, b3⟩; have HV := Lib.hid (HV.out.trans (b3.mono HV.out.size)); clear b3))
  have HB := Lib.hid (HB2.out.trans (HV.out.mono HB2.out.size))
  have BA := Lib.hid (BA.out.next HV.out)
  clear HS HV HR1 HR2 HB2
  obtain ⟨a3, a0, a1, a2⟩ := BA.out
  go_wp2_with fail
  refine (CTD.out _ HB.out OD.out).mono ?_
  rintro e v4 ⟨D2, rfl, hR, b2, b3⟩
  clear a0 a1 a2 a3
  have HRD := Lib.hid hR
  have BA := Lib.hid (BA.out.next b3)
  have HB := Lib.hid b2
  clear hR b2 b3
  obtain ⟨a3, a0, a1, a2⟩ := BA.out
  go_wp2_with fail
  refine (CTP.out _ HB.out OP.out).mono ?_
  rintro e v5 ⟨E2, e2, rfl, hR, b2, b3⟩
  clear a0 a1 a2 a3
  have HRP := Lib.hid hR
  have HRD := Lib.hid (HRD.out.keep (SameOn.of_below b3 fun _ h => h.2) |>.more fun b h => (⟨h.1, Nat.lt_of_lt_of_le h.2 b3.size⟩ : In w.heap.size v5.heap.size b))
  have BA := Lib.hid (BA.out.next b3)
  have HB := Lib.hid b2
  have hw5 : w.heap.size ≤ v5.heap.size := b2.size
  clear hR b2 b3
  go_wp2_with fail
  have b0 : Below v5.heap.size v5 (v5.alloc (.cells #[.int .i64 x.d, .int .i64 x.pt, .slice E2 x.vs.length e2] 31)) := (Below.refl _ _).alloc (Nat.le_refl _) _
  refine (implPoint_any ls x _ _ _ _ _ _ (HRD.out.keep (SameOn.of_below b0 fun _ h => h.2)) (HRP.out.keep (SameOn.of_below b0 fun _ h => h.2)) (fun b h => Nat.lt_of_lt_of_le h.2 b0.size) OD.out hvl (HT.out.below (HB.out.trans (b0.mono hw5)))).mono ?_
  rintro e v6 ⟨rfl, b3⟩
  have b4 : Below v5.heap.size v5 v6 := b0.trans (b3.mono b0.size)
  have BX := Lib.hid (B3.next (b := v5.heap.size) (v0 := .int .i64 x.d) (v1 := .int .i64 x.pt) (v2 := .slice E2 x.vs.length e2) ⟨by simp <;> omega, by simp [go_sem], by simp [go_sem], by simp [go_sem]⟩ b3)
  have BA := Lib.hid (BA.out.next b4)
  have HRD := Lib.hid (HRD.out.keep (SameOn.of_below b4 fun _ h => h.2) |>.more fun b h => (⟨h.1, Nat.lt_of_lt_of_le h.2 b4.size⟩ : In w.heap.size v6.heap.size b))
  have HRP := Lib.hid (HRP.out.keep (SameOn.of_below b4 fun _ h => h.2) |>.more fun b h => (⟨h.1, Nat.lt_of_lt_of_le h.2 b4.size⟩ : In w.heap.size v6.heap.size b))
  have HB := Lib.hid (HB.out.trans (b4.mono hw5))
  clear b0 b3 b4
  go_wp2_with fail
  refine (CTD.out _ HB.out OD.out).mono ?_
  rintro e v7 ⟨D3, rfl, hR, b2, b3⟩
  have HR3 := Lib.hid hR
  have BX := Lib.hid (BX.out.next b3)
  have BA := Lib.hid (BA.out.next b3)
  have HRD := Lib.hid (HRD.out.keep (SameOn.of_below b3 fun _ h => h.2) |>.more fun b h => (⟨h.1, Nat.lt_of_lt_of_le h.2 b3.size⟩ : In w.heap.size v7.heap.size b))
  have HRP := Lib.hid (HRP.out.keep (SameOn.of_below b3 fun _ h => h.2) |>.more fun b h => (⟨h.1, Nat.lt_of_lt_of_le h.2 b3.size⟩ : In w.heap.size v7.heap.size b))
  have HB := Lib.hid b2
  clear hR b2 b3
  go_wp2_with fail
  refine (eqDDefinitionS_yes _ _ _ _ _ _ ls _ _ _ HRD.out HR3.out (fun b h => h.2) (fun b h => h.2) rfl rfl OD.out).mono ?_
  rintro e v8 ⟨rfl, b3⟩
  have BX := Lib.hid (BX.out.next b3)
  have BA := Lib.hid (BA.out.next b3)
  have HRP := Lib.hid (HRP.out.keep (SameOn.of_below b3 fun _ h => h.2) |>.more fun b h => (⟨h.1, Nat.lt_of_lt_of_le h.2 b3.size⟩ : In w.heap.size v8.heap.size b))
  have HB2 := Lib.hid (HB.out.trans (b3.mono HB.out.size))
  clear b3 HRD HR3 HB
  go_wp2_with fail
  have HS := Lib.hid (fun (W : World) (hW : Below v8.heap.size v8 W) => (⟨hW, (BX.out.next hW).2, (BA.out.next hW).2⟩ : Below v8.heap.size v8 W ∧ (W.cell? ⟨v5.heap.size, 0, none⟩ = some (.int .i64 x.d) ∧ W.cell? ⟨v5.heap.size, 1, none⟩ = some (.int .i64 x.pt) ∧ W.cell? ⟨v5.heap.size, 2, none⟩ = some (.slice E2 x.vs.length e2)) ∧ (W.cell? ⟨w.heap.size, 0, none⟩ = some (.int .i64 x.d) ∧ W.cell? ⟨w.heap.size, 1, none⟩ = some (.int .i64 x.pt) ∧ W.cell? ⟨w.heap.size, 2, none⟩ = some (.slice V x.vs.length cv))))
  have HV := Lib.hid (Below.refl v8.heap.size v8)
  have HB := HB2
  go_region_held3 (fun W => Below v8.heap.size v8 W ∧ (W.cell? ⟨v5.heap.size, 0, none⟩ = some (.int .i64 x.d) ∧ W.cell? ⟨v5.heap.size, 1, none⟩ = some (.int .i64 x.pt) ∧ W.cell? ⟨v5.heap.size, 2, none⟩ = some (.slice E2 x.vs.length e2)) ∧ (W.cell? ⟨w.heap.size, 0, none⟩ = some (.int .i64 x.d) ∧ W.cell? ⟨w.heap.size, 1, none⟩ = some (.int .i64 x.pt) ∧ W.cell? ⟨w.heap.size, 2, none⟩ = some (.slice V x.vs.length cv))) (exact HS.out _ (by first | exact HV.out | exact HV.out.drew)) (first
    | (go_at_call 8; (with_reducible refine (CTP.out _ (by first | exact HB.out | exact HB.out.drew) OP.out).mono ?_); rintro e vr ⟨E5, e5, rfl, hR, b2, b3⟩; have HV := Lib.hid (Below.trans (by first | exact HV.out | exact HV.out.drew) (b3.mono (by first | exact Nat.le_refl _ | exact HV.out.size))); have HR5 := Lib.hid hR; have HB := Lib.hid b2; clear hR b2 b3)
    | (go_at_call 11; refine (eqDPoint_yes x _ _ _ _ _ _ _ (HRP.out.keep (SameOn.of_below HV.out fun _ h => h.2)) HR5.out (fun b h => Nat.lt_of_lt_of_le h.2 HV.out.size) (fun b h => h.2) OP.out).mono ?_; rintro e vs ⟨rfl, b3⟩; have HV := Lib.hid (HV.out.trans (b3.mono HV.out.size)); clear b3))
  have HB2 := Lib.hid (HB2.out.trans (HV.out.mono HB2.out.size))
  clear HB HS HR5
  go_wp2
  go_ret
  exact ⟨rfl, HB2.out⟩
end Go.Proofs.YthinoagdgbnphaaDoor
