/- The meeting of two names: the model and the program, walked. -/
import Derived.BigQuiet
import Derived.Laws.Cover1
import Derived.Test.YtdgcpaeneafejaaGreatDoorMtM
import Derived.Test.YtdgcpaeneafejaaGreatDoorSfL
import Derived.Test.YtdgcpaeneafejaaGreatDoorSysK
namespace Go.Proofs.YtdgcpaeneafejaaGreatDoor
open Go.RowKit
theorem ret_str {u v : ByteArray} (h : u = v) : Ending.returned (.string u) = Ending.returned (.string v) := by rw [h]
theorem mtP_no {x y : ByteArray} {m : Mt} (h : eqB m.l x = false) : mtP x y m = false := by unfold mtP; rw [h]; rfl
theorem mtP_no2 {x y : ByteArray} {m : Mt} (h : eqB m.r y = false) : mtP x y m = false := by unfold mtP; rw [h]; simp
theorem mtP_yes {x y : ByteArray} {m : Mt} (h : eqB m.l x = true) (h2 : eqB m.r y = true) : mtP x y m = true := by unfold mtP; rw [h, h2]; rfl
set_option maxRecDepth 100000 in
theorem specMeetS_any (A : Option Addr) (n c : Nat) (ms : List Mt) (x y : ByteArray) (w : World) (S : Nat → Prop) (h : LRow mtR w S A ms) (l : ms.length = n) (hn : n ≤ 1048576) (hS : ∀ b, S b → b < w.heap.size) (hle : lsB y x = false) :
    Calls Tryz.prog 40 #[.slice A n c, .string x, .string y] w fun e w' => e = .returned (.string (mtS (mtL ms x y))) ∧ Below w.heap.size w w' := by
  have L := Lib.hid l
  have HR := Lib.hid h
  have HS := Lib.hid hS
  have g0 : (Op.bytesLess x.toList y.toList || x.toList == y.toList) = true := by have e := leq_eq x y; rw [hle] at e; exact e
  clear h l hS hle
  go_enter Tryz.func40, Tryz.ntmps40
  go_wp2
  go_loopw [7] (fun i wr => ∃ k : Nat, k ≤ n ∧ i = .int .i64 k ∧ Hid (Below w.heap.size w wr) ∧ Hid ((ms.take k).any (mtP x y) = false)) (fun i _ => n - (intOf i).toNat)
  case atStart => exact ⟨0, Nat.zero_le _, rfl, Lib.hid (by first | exact Below.refl _ _ | exact (Below.refl _ _).drew), Lib.hid rfl⟩
  case round =>
    obtain ⟨k, hk, rfl, HB, HT⟩ := hrel
    have hsz := HB.out.size
    by_cases hlt : k < n
    · obtain ⟨b, o, cs, m, rfl, hb, hR, hm, hc⟩ := (HR.out.keep (SameOn.of_below HB.out HS.out)).at_ (k := k) (by rw [L.out]; exact hlt)
      obtain ⟨rfl, _⟩ := hR
      have r0 : wr.cell? ⟨b, o + k * 3, none⟩ = some (.string m.l) := hc 0 _ rfl
      have r1 : wr.cell? ⟨b, o + k * 3 + 1, none⟩ = some (.string m.r) := hc 1 _ rfl
      have r2 : wr.cell? ⟨b, o + k * 3 + 2, none⟩ = some (.string m.s) := hc 2 _ rfl
      have hbw := HS.out b hb
      have lb : b < wr.heap.size := by omega
      clear hc hb
      rcases tl : eqB m.l x with _ | _
      · have HN := Lib.hid (any_take_next (p := mtP x y) HT.out hm.out (mtP_no tl))
        have g1 : (m.l.toList == x.toList) = false := tl
        clear tl
        go_wp2
        go_roundw
        case rel => exact ⟨k + 1, by omega, by go_num, HB, HN⟩
        case measure => simp [intOf]; omega
      rcases tr : eqB m.r y with _ | _
      · have HN := Lib.hid (any_take_next (p := mtP x y) HT.out hm.out (mtP_no2 tr))
        have g1 : (m.l.toList == x.toList) = true := tl
        have g2 : (m.r.toList == y.toList) = false := tr
        clear tl tr
        go_wp2
        go_roundw
        case rel => exact ⟨k + 1, by omega, by go_num, HB, HN⟩
        case measure => simp [intOf]; omega
      · have HF := Lib.hid (show mtS (mtL ms x y) = m.s by rw [mtL_hit HT.out hm.out (mtP_yes tl tr)]; rfl)
        have g1 : (m.l.toList == x.toList) = true := tl
        have g2 : (m.r.toList == y.toList) = true := tr
        clear tl tr
        go_wp2
        go_ret
        exact ⟨ret_str HF.out.symm, by first | exact HB.out | exact HB.out.drew⟩
    · have HF := Lib.hid (show mtS (mtL ms x y) = ⟨#[]⟩ by
        have ht := HT.out
        rw [List.take_of_length_le (by rw [L.out]; omega)] at ht
        rw [mtL_miss ht]; rfl)
      go_wp2
      go_ret
      exact ⟨ret_str HF.out.symm, by first | exact HB.out | exact HB.out.drew⟩
set_option maxRecDepth 100000 in
theorem specMeet_any (A : Option Addr) (n c : Nat) (ms : List Mt) (x y : ByteArray) (w : World) (S : Nat → Prop) (h : LRow mtR w S A ms) (l : ms.length = n) (hn : n ≤ 1048576) (hS : ∀ b, S b → b < w.heap.size) :
    Calls Tryz.prog 40 #[.slice A n c, .string x, .string y] w fun e w' => e = .returned (.string (mtS (mtL ms (mlo x y) (mhi x y)))) ∧ Below w.heap.size w w' := by
  rcases hle : lsB y x with _ | _
  · have e1 : mlo x y = x := by unfold mlo; rw [hle]; rfl
    have e2 : mhi x y = y := by unfold mhi; rw [hle]; rfl
    rw [e1, e2]
    exact specMeetS_any A n c ms x y w S h l hn hS hle
  · have HF := Lib.hid (show mtL ms (mlo x y) (mhi x y) = mtL ms y x by unfold mlo mhi; rw [hle]; rfl)
    have C := Lib.hid (specMeetS_any A n c ms y x w S h l hn hS (lsB_asymm hle))
    have g1 : Op.bytesLess x.toList y.toList = false := lsB_asymm hle
    have g2 : (x.toList == y.toList) = false := by have e := eqB_tri (a := x) (b := y) (lsB_asymm hle); rw [hle] at e; exact e
    clear h l hS hle
    go_enter Tryz.func40, Tryz.ntmps40
    go_wp2_with (go_at_call 40; refine C.out.mono ?_; rintro e w2 ⟨rfl, hb⟩; have HB := Lib.hid hb; clear hb)
    go_ret
    exact ⟨by rw [HF.out]; rfl, HB.out⟩
end Go.Proofs.YtdgcpaeneafejaaGreatDoor
