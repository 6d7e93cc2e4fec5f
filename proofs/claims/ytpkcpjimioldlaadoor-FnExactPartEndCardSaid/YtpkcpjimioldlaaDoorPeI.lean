/- One of valid definitions, and one of its parts in its place: the program. -/
import Derived.Test.YtpkcpjimioldlaaDoorPxL
import Derived.Test.YtpkcpjimioldlaaDoorPeT
namespace Go.Proofs.YtpkcpjimioldlaaDoor
open Go.RowKit
def zD : Value := .agg #[.string ⟨#[]⟩, .int .i64 0, .slice none 0 0]
def zP : Value := .agg #[.int .i64 0, .int .i64 0, .string ⟨#[]⟩, .slice none 0 0, .int .i64 0, .int .i64 0, .bool false]
set_option maxRecDepth 100000 in
set_option maxHeartbeats 2000000 in
theorem defAt_inv (A : Option Addr) (c : Nat) (ls : List Df) (k : Int) (w : World) (S : Nat → Prop) (h : LRow dfR w S A ls) (hS : ∀ b, S b → b < w.heap.size) (hok : okList okDf ls) (ht : FormTab w) (tv : vdB ls = false) :
    Calls Tryd.prog 39 #[.slice A ls.length c, .int .i64 k] w fun e w' => e = .returned (.tuple #[zD, .int .i64 1]) ∧ Below w.heap.size w w' := by
  have CD := Lib.hid (fun (W : World) (hW : Below w.heap.size w W) => Calls.mono (implDefs_any A c ls W S (h.keep (SameOn.of_below hW hS)) (fun b hb => Nat.lt_of_lt_of_le (hS b hb) hW.size) hok (ht.below hW)) (fun e w' ⟨he, hb⟩ => (⟨he, hW.trans (Below.mono hb hW.size), hb⟩ : e = Ending.returned (.bool (vdB ls)) ∧ Below w.heap.size w w' ∧ Below W.heap.size W w')))
  have TV := Lib.hid tv
  clear h hS hok ht tv
  go_enter Tryd.func39, Tryd.ntmps39
  go_wp2_with (first | (go_at_call 9; refine (CD.out _ (by repeat (first | exact Below.refl _ _ | refine Below.alloc ?_ (by simp <;> omega) _))).mono ?_; rw [TV.out]; rintro e w2 ⟨rfl, hb, hb0⟩; have r0 := (hb0.cell (p := ⟨w.heap.size, 0, none⟩) (by simp)).trans (show _ = some (.string ⟨#[]⟩) by simp [go_sem]); have r1 := (hb0.cell (p := ⟨w.heap.size, 1, none⟩) (by simp)).trans (show _ = some (.int .i64 0) by simp [go_sem]); have r2 := (hb0.cell (p := ⟨w.heap.size, 2, none⟩) (by simp)).trans (show _ = some (.slice none 0 0) by simp [go_sem]); have rf : ∀ j, w2.frozen? ⟨w.heap.size, j, none⟩ = false := fun j => (hb0.frozen (p := ⟨w.heap.size, j, none⟩) (by simp)).trans (by simp [go_sem]); have rl : w.heap.size < w2.heap.size := World.block_lt_of_cell? w2 _ r0; have HB := Lib.hid hb; clear hb hb0))
  refine bodyPost_ret (v := .tuple #[.agg #[.string ⟨#[]⟩, .int .i64 0, .slice none 0 0], .int .i64 1]) (by simp [results, Tryd.results39, go_sem, r0, r1, r2, rl]; try rfl) rfl ?_
  exact ⟨rfl, (by repeat (first | exact HB.out | refine Below.setCell ?_ (by first | omega | (simp <;> omega)) _ | refine Below.alloc ?_ (by first | omega | (simp <;> omega)) _))⟩
set_option maxRecDepth 100000 in
set_option maxHeartbeats 2000000 in
theorem defAt_k (A : Option Addr) (c : Nat) (ls : List Df) (k : Int) (w : World) (S : Nat → Prop) (h : LRow dfR w S A ls) (hS : ∀ b, S b → b < w.heap.size) (hok : okList okDf ls) (ht : FormTab w) (tv : vdB ls = true) (tk : idxB k ls.length = false) :
    Calls Tryd.prog 39 #[.slice A ls.length c, .int .i64 k] w fun e w' => e = .returned (.tuple #[zD, .int .i64 2]) ∧ Below w.heap.size w w' := by
  have CD := Lib.hid (fun (W : World) (hW : Below w.heap.size w W) => Calls.mono (implDefs_any A c ls W S (h.keep (SameOn.of_below hW hS)) (fun b hb => Nat.lt_of_lt_of_le (hS b hb) hW.size) hok (ht.below hW)) (fun e w' ⟨he, hb⟩ => (⟨he, hW.trans (Below.mono hb hW.size), hb⟩ : e = Ending.returned (.bool (vdB ls)) ∧ Below w.heap.size w w' ∧ Below W.heap.size W w')))
  have hl4 : ls.length ≤ 4 := by
    have h := tv
    unfold vdB at h
    rw [Bool.and_eq_true] at h
    exact (of_decide_eq_true h.1).2
  have TV := Lib.hid tv
  have TK := Lib.hid tk
  have CX := Lib.hid (fun (W : World) => implIndex_any k ls.length W (by omega))
  clear h hS hok ht tv tk
  go_enter Tryd.func39, Tryd.ntmps39
  go_wp2_with (first | (go_at_call 9; refine (CD.out _ (by repeat (first | exact Below.refl _ _ | refine Below.alloc ?_ (by simp <;> omega) _))).mono ?_; rw [TV.out]; rintro e w2 ⟨rfl, hb, hb0⟩; have r0 := (hb0.cell (p := ⟨w.heap.size, 0, none⟩) (by simp)).trans (show _ = some (.string ⟨#[]⟩) by simp [go_sem]); have r1 := (hb0.cell (p := ⟨w.heap.size, 1, none⟩) (by simp)).trans (show _ = some (.int .i64 0) by simp [go_sem]); have r2 := (hb0.cell (p := ⟨w.heap.size, 2, none⟩) (by simp)).trans (show _ = some (.slice none 0 0) by simp [go_sem]); have rf : ∀ j, w2.frozen? ⟨w.heap.size, j, none⟩ = false := fun j => (hb0.frozen (p := ⟨w.heap.size, j, none⟩) (by simp)).trans (by simp [go_sem]); have rl : w.heap.size < w2.heap.size := World.block_lt_of_cell? w2 _ r0; have HB := Lib.hid hb; clear hb hb0) | (go_at_call 32; refine (CX.out _).mono ?_; rw [TK.out]; rintro e w3 ⟨rfl, hb⟩; have q0 := (hb.cell (p := ⟨w.heap.size, 0, none⟩) rl).trans r0; have q1 := (hb.cell (p := ⟨w.heap.size, 1, none⟩) rl).trans r1; have q2 := (hb.cell (p := ⟨w.heap.size, 2, none⟩) rl).trans r2; have qf : ∀ j, w3.frozen? ⟨w.heap.size, j, none⟩ = false := fun j => (hb.frozen (p := ⟨w.heap.size, j, none⟩) rl).trans (rf j); have ql : w.heap.size < w3.heap.size := World.block_lt_of_cell? w3 _ q0; have HB3 := Lib.hid (HB.out.trans (hb.mono (HB.out.size))); clear hb r0 r1 r2 rf))
  refine bodyPost_ret (v := .tuple #[.agg #[.string ⟨#[]⟩, .int .i64 0, .slice none 0 0], .int .i64 2]) (by simp [results, Tryd.results39, go_sem, q0, q1, q2, ql]; try rfl) rfl ?_
  exact ⟨rfl, (by repeat (first | exact HB3.out | refine Below.setCell ?_ (by first | omega | (simp <;> omega)) _ | refine Below.alloc ?_ (by first | omega | (simp <;> omega)) _))⟩
set_option maxRecDepth 100000 in
set_option maxHeartbeats 2000000 in
theorem defAt_ok (A : Option Addr) (c : Nat) (ls : List Df) (k : Int) (w : World) (S : Nat → Prop) (h : LRow dfR w S A ls) (hS : ∀ b, S b → b < w.heap.size) (hok : okList okDf ls) (ht : FormTab w) (tv : vdB ls = true) (j : Nat) (hk : k = j) (d : Df) (hd : ls[j]? = some d) :
    Calls Tryd.prog 39 #[.slice A ls.length c, .int .i64 k] w fun e w' => ∃ B cb, e = .returned (.tuple #[.agg #[.string d.nm, .int .i64 d.ps, .slice B d.body.length cb], .int .i64 0]) ∧ LRow ptR w S B d.body ∧ Below w.heap.size w w' := by
  have CD := Lib.hid (fun (W : World) (hW : Below w.heap.size w W) => Calls.mono (implDefs_any A c ls W S (h.keep (SameOn.of_below hW hS)) (fun b hb => Nat.lt_of_lt_of_le (hS b hb) hW.size) hok (ht.below hW)) (fun e w' ⟨he, hb⟩ => (⟨he, hW.trans (Below.mono hb hW.size), hb⟩ : e = Ending.returned (.bool (vdB ls)) ∧ Below w.heap.size w w' ∧ Below W.heap.size W w')))
  subst hk
  have hl4 : ls.length ≤ 4 := by
    have h := tv
    unfold vdB at h
    rw [Bool.and_eq_true] at h
    exact (of_decide_eq_true h.1).2
  have hj := (List.getElem?_eq_some_iff.1 hd).1
  have TV := Lib.hid tv
  have TK := Lib.hid (show idxB j ls.length = true by unfold idxB; simp; exact hj)
  have CX := Lib.hid (fun (W : World) => implIndex_any j ls.length W (by omega))
  obtain ⟨b0, o0, cs0, d', rfl, hb0, hR0, hd', hc0⟩ := h.at_ (k := j) hj
  obtain rfl : d' = d := by have := hd'.out.symm.trans hd; injection this
  obtain ⟨B, cb, rfl, _, _, _, hrb⟩ := hR0
  have z0 : w.cell? ⟨b0, o0 + j * 3, none⟩ = some (.string d'.nm) := hc0 0 _ rfl
  have z1 : w.cell? ⟨b0, o0 + j * 3 + 1, none⟩ = some (.int .i64 d'.ps) := hc0 1 _ rfl
  have z2 : w.cell? ⟨b0, o0 + j * 3 + 2, none⟩ = some (.slice B d'.body.length cb) := hc0 2 _ rfl
  have l0 : b0 < w.heap.size := World.block_lt_of_cell? w _ z0
  have HRB := Lib.hid hrb
  clear h hS hok ht tv hc0 hd hd' hrb hb0
  go_enter Tryd.func39, Tryd.ntmps39
  go_wp2_with (first | (go_at_call 9; refine (CD.out _ (by repeat (first | exact Below.refl _ _ | refine Below.alloc ?_ (by simp <;> omega) _))).mono ?_; rw [TV.out]; rintro e w2 ⟨rfl, hb, hb0⟩; have r0 := (hb0.cell (p := ⟨w.heap.size, 0, none⟩) (by simp)).trans (show _ = some (.string ⟨#[]⟩) by simp [go_sem]); have r1 := (hb0.cell (p := ⟨w.heap.size, 1, none⟩) (by simp)).trans (show _ = some (.int .i64 0) by simp [go_sem]); have r2 := (hb0.cell (p := ⟨w.heap.size, 2, none⟩) (by simp)).trans (show _ = some (.slice none 0 0) by simp [go_sem]); have rf : ∀ j, w2.frozen? ⟨w.heap.size, j, none⟩ = false := fun j => (hb0.frozen (p := ⟨w.heap.size, j, none⟩) (by simp)).trans (by simp [go_sem]); have rl : w.heap.size < w2.heap.size := World.block_lt_of_cell? w2 _ r0; have HB := Lib.hid hb; have y0 := (hb.cell (p := ⟨b0, o0 + j * 3, none⟩) l0).trans z0; have y1 := (hb.cell (p := ⟨b0, o0 + j * 3 + 1, none⟩) l0).trans z1; have y2 := (hb.cell (p := ⟨b0, o0 + j * 3 + 2, none⟩) l0).trans z2; have yl : b0 < w2.heap.size := World.block_lt_of_cell? w2 _ y0; clear hb hb0 z0 z1 z2) | (go_at_call 32; refine (CX.out _).mono ?_; rw [TK.out]; rintro e w3 ⟨rfl, hb⟩; have q0 := (hb.cell (p := ⟨w.heap.size, 0, none⟩) rl).trans r0; have q1 := (hb.cell (p := ⟨w.heap.size, 1, none⟩) rl).trans r1; have q2 := (hb.cell (p := ⟨w.heap.size, 2, none⟩) rl).trans r2; have qf : ∀ j, w3.frozen? ⟨w.heap.size, j, none⟩ = false := fun j => (hb.frozen (p := ⟨w.heap.size, j, none⟩) rl).trans (rf j); have ql : w.heap.size < w3.heap.size := World.block_lt_of_cell? w3 _ q0; have HB3 := Lib.hid (HB.out.trans (hb.mono (HB.out.size))); have x0 := (hb.cell (p := ⟨b0, o0 + j * 3, none⟩) yl).trans y0; have x1 := (hb.cell (p := ⟨b0, o0 + j * 3 + 1, none⟩) yl).trans y1; have x2 := (hb.cell (p := ⟨b0, o0 + j * 3 + 2, none⟩) yl).trans y2; have xl : b0 < w3.heap.size := World.block_lt_of_cell? w3 _ x0; clear hb r0 r1 r2 rf y0 y1 y2))
  refine bodyPost_ret (v := .tuple #[.agg #[.string d'.nm, .int .i64 d'.ps, .slice B d'.body.length cb], .int .i64 0]) (by simp [results, Tryd.results39, go_sem, q0, q1, q2, ql]; try rfl) rfl ?_
  exact ⟨B, cb, rfl, HRB.out, (by repeat (first | exact HB3.out | refine Below.setCell ?_ (by first | omega | (simp <;> omega)) _ | refine Below.alloc ?_ (by first | omega | (simp <;> omega)) _))⟩
end Go.Proofs.YtpkcpjimioldlaaDoor
