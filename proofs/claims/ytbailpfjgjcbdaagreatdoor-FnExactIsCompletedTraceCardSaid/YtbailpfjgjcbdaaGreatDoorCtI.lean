/- Completed traces: the program. -/
import Derived.Test.YtbailpfjgjcbdaaGreatDoorRei
import Derived.Test.YtbailpfjgjcbdaaGreatDoorCtS
import Derived.Test.YtbailpfjgjcbdaaGreatDoorAfI
namespace Go.Proofs.YtbailpfjgjcbdaaGreatDoor
open Go.RowKit
set_option linter.unusedVariables false
set_option linter.unusedSimpArgs false
set_option maxRecDepth 100000 in
set_option maxHeartbeats 2000000 in
theorem idxEn_any (x : Lt) (A1 A2 : Option Addr) (c1 c2 : Nat) (A : Option Addr) (n c : Nat) (xs : List Int) (w : World) (S S2 : Nat → Prop) (h2 : LRow edR w S A2 x.es) (hS : ∀ b, S b → b < w.heap.size) (m2 : x.es.length ≤ maxLen) (h : LRow intR w S2 A xs) (hS2 : ∀ b, S2 b → b < w.heap.size) (l : xs.length = n) (m : n ≤ maxLen) :
    Calls Tryz.prog 80 #[.slice A n c, .func (.func 48) #[ltCells x A1 A2 c1 c2] #[]] w (IdxAll (fun k => !(dedB x k)) xs w) := by
  unfold maxLen at m
  have C := Lib.hid (fun (k : Int) (W : World) (hW : Below w.heap.size w W) => isEnd_any x k A1 A2 c1 c2 W S (h2.keep (SameOn.of_below hW hS)) (fun b hb => Nat.lt_of_lt_of_le (hS b hb) hW.size) m2)
  have L := Lib.hid l
  have HR := Lib.hid h
  have HS2 := Lib.hid hS2
  clear h hS l h2 hS2 m2
  go_enter Tryz.func80, Tryz.ntmps80
  go_wp2
  go_loopw [8] (fun i wr => ∃ j : Nat, j ≤ n ∧ i = .int .i64 (j : Int) ∧ Hid (Below w.heap.size w wr) ∧ Hid ((xs.take j).all (fun k => !(dedB x k)) = true)) (fun i _ => n - (intOf i).toNat)
  case atStart => exact ⟨0, Nat.zero_le _, rfl, Lib.hid (Below.refl _ _), Lib.hid rfl⟩
  case round =>
    obtain ⟨j, hj, rfl, HB, HE⟩ := hrel
    have hsz := HB.out.size
    by_cases hlt : j < n
    · obtain ⟨b, o, k, rfl, hb, r0, hk⟩ := int_row (HR.out.keep (SameOn.of_below HB.out HS2.out)) (k := j) (by rw [L.out]; exact hlt)
      have lb := World.block_lt_of_cell? wr _ r0
      have C1 := Lib.hid (C.out k wr HB.out)
      rcases td : dedB x k with _ | _
      · have HN := Lib.hid (all_take_next (p := fun k => !(dedB x k)) HE.out hk.out (by rw [td]; rfl))
        rw [td] at C1
        clear td
        go_wp2_with (go_at_call 48; refine (C1.out).mono ?_; rintro e w3 ⟨rfl, hb3⟩; have HB3 := Lib.hid (HB.out.trans (hb3.mono hsz)); clear hb3)
        go_roundw
        case rel => exact ⟨j + 1, by omega, by go_num, HB3, HN⟩
        case measure => simp [intOf]; omega
      · have HD := Lib.hid (all_false (p := fun k => !(dedB x k)) hk.out (by rw [td]; rfl))
        rw [td] at C1
        clear td
        go_wp2_with (go_at_call 48; refine (C1.out).mono ?_; rintro e w3 ⟨rfl, hb3⟩; have HB3 := Lib.hid (HB.out.trans (hb3.mono hsz)); clear hb3)
        go_ret
        exact ⟨_, rfl, .inr ⟨HD.out, by omega⟩, HB3.out⟩
    · have HN := Lib.hid (show xs.all (fun k => !(dedB x k)) = true by
        have ht := HE.out
        rwa [List.take_of_length_le (by rw [L.out]; omega)] at ht)
      go_wp2
      go_ret
      exact ⟨_, rfl, .inl ⟨HN.out, rfl⟩, HB.out⟩
theorem conEn_any (x : Lt) (A1 A2 : Option Addr) (c1 c2 : Nat) (A : Option Addr) (n c : Nat) (xs : List Int) (w : World) (S S2 : Nat → Prop) (h2 : LRow edR w S A2 x.es) (hS : ∀ b, S b → b < w.heap.size) (m2 : x.es.length ≤ maxLen) (h : LRow intR w S2 A xs) (hS2 : ∀ b, S2 b → b < w.heap.size) (l : xs.length = n) (m : n ≤ maxLen) :
    Calls Tryz.prog 47 #[.slice A n c, .func (.func 48) #[ltCells x A1 A2 c1 c2] #[]] w fun e w' => e = .returned (.bool (!(xs.all fun k => !(dedB x k)))) ∧ Below w.heap.size w w' := by
  have C := Lib.hid (idxEn_any x A1 A2 c1 c2 A n c xs w S S2 h2 hS m2 h hS2 l m)
  clear h l hS2 h2 hS m2
  go_enter Tryz.func47, Tryz.ntmps47
  go_wp2_with fail
  refine (C.out).mono ?_
  rintro e w2 ⟨r, rfl, (⟨h1, rfl⟩ | ⟨h1, h2⟩), hb⟩
  · have HB := Lib.hid hb
    have H1 := Lib.hid h1
    clear hb h1
    go_wp2
    go_ret
    exact ⟨by rw [H1.out]; rfl, HB.out⟩
  · have HB := Lib.hid hb
    have H1 := Lib.hid h1
    clear hb h1
    go_wp2
    go_ret
    exact ⟨by rw [H1.out]; rfl, HB.out⟩
set_option maxRecDepth 100000 in
set_option maxHeartbeats 4000000 in
theorem implCt_any {x : Lt} {cs : List Value} {B : Option Addr} {d : Nat} {tr : List ByteArray} {w : World} {S S2 : Nat → Prop} (h : ltR.R w S x cs) (hp : LRow txtR w S2 B tr) (hS : ∀ b, S b → b < w.heap.size) (hS2 : ∀ b, S2 b → b < w.heap.size) (ok : okLt x) (okp : okList okTx tr) (ht : TxtTabs w) :
    Calls Tryz.prog 24 #[.agg cs.toArray, .slice B tr.length d] w fun e w' => e = .returned (.tuple #[.bool (ctB x tr), .int .i64 (afC x tr)]) ∧ Below w.heap.size w w' := by
  have CA := Lib.hid (fun (W : World) (hW : Below w.heap.size w W) => implAf_any (d := d) (ltR.keep h (SameOn.of_below hW hS)) (LRow.keep (F := txtR) hp (SameOn.of_below hW hS2)) (fun b hb => Nat.lt_of_lt_of_le (hS b hb) hW.size) (fun b hb => Nat.lt_of_lt_of_le (hS2 b hb) hW.size) ok okp (ht.below hW))
  have M2 := ok.2.1
  obtain ⟨A1, c1, A2, c2, rfl, ⟨_, _, r1⟩, ⟨_, _, r2⟩⟩ := h
  have HB := Lib.hid (fun o : Obj => (Below.refl w.heap.size w).alloc (Nat.le_refl _) o)
  have CE := Lib.hid (fun (A : Option Addr) (c : Nat) (W : World) (hW : Below w.heap.size w W) (S' : Nat → Prop) (hr : LRow intR W S' A (afR x tr)) (hS' : ∀ b, S' b → b < W.heap.size) => conEn_any x A1 A2 c1 c2 A (afR x tr).length c (afR x tr) W S S' (r2.keep (SameOn.of_below hW hS)) (fun b hb => Nat.lt_of_lt_of_le (hS b hb) hW.size) (by unfold maxLen; omega) hr hS' rfl (by have := afR_len x tr; unfold maxLen; omega))
  have HCT := Lib.hid (show (!((afR x tr).all fun k => !(dedB x k))) = ctB x tr from rfl)
  clear r1 r2 hS ok hp hS2 okp ht
  go_enter Tryz.func24, Tryz.ntmps24
  go_wp2_with fail
  refine (CA.out _ (HB.out _)).mono ?_
  rintro e w2 ⟨A, c, rfl, hO, hb2⟩
  have hs2 := hb2.size
  simp at hs2
  obtain ⟨hcc, _⟩ := bcell hb2
  have HB2 := Lib.hid ((HB.out _).trans (hb2.mono (HB.out _).size))
  have y0 : w2.cell? ⟨w.heap.size, 0, none⟩ = some (.int .i64 x.st) := (hcc _ _ (by simp)).trans (by simp [go_sem])
  have y1 : w2.cell? ⟨w.heap.size, 1, none⟩ = some (.int .i64 x.ini) := (hcc _ _ (by simp)).trans (by simp [go_sem])
  have y2 : w2.cell? ⟨w.heap.size, 2, none⟩ = some (.slice A1 x.ls.length c1) := (hcc _ _ (by simp)).trans (by simp [go_sem])
  have y3 : w2.cell? ⟨w.heap.size, 3, none⟩ = some (.slice A2 x.es.length c2) := (hcc _ _ (by simp)).trans (by simp [go_sem])
  have hpb : w.heap.size < w2.heap.size := by omega
  have C2 := Lib.hid (CE.out A c w2 HB2.out _ hO.lrow (fun b hb => hb.2))
  clear hb2 hcc hs2 hO CA
  rw [HCT.out] at C2
  go_wp2_with (go_at_call 47; refine (C2.out).mono ?_; rintro e w3 ⟨rfl, hb3⟩; have HB3 := Lib.hid (HB2.out.trans (hb3.mono HB2.out.size)); clear hb3)
  go_ret2
  exact ⟨rfl, HB3.out⟩
end Go.Proofs.YtbailpfjgjcbdaaGreatDoor
