/- Why a part is not valid: the model's function. -/
import Derived.Test.YtdgcpaeneafejaaGreatDoorPxLow
import Derived.Test.YtdgcpaeneafejaaGreatDoorLow
import Derived.Test.YtdgcpaeneafejaaGreatDoorTmLow
namespace Go.Proofs.YtdgcpaeneafejaaGreatDoor
open Go.RowKit
theorem cell_drawn {w w' : World} (hd : Drawn w w') (b o : Nat) : w'.cell? ⟨b, o, none⟩ = w.cell? ⟨b, o, none⟩ := SameOn.of_drawn (S := fun _ => True) hd b o trivial
theorem trm_next {s : Int} {ts : List (List Tm)} {k : Nat} {e : List Tm} (h : trmB s (ts.take k) = true) (he : ts[k]? = some e) (hx : exB s 15 e = true) : trmB s (ts.take (k + 1)) = true := by
  obtain ⟨hlt, q⟩ := List.getElem?_eq_some_iff.1 he
  unfold trmB at h ⊢
  rw [List.take_succ_eq_append_getElem hlt, List.all_append, h, q]
  simp [hx]
theorem trm_bad {s : Int} {ts : List (List Tm)} {k : Nat} {e : List Tm} (he : ts[k]? = some e) (hx : exB s 15 e = false) : trmB s ts = false := by
  unfold trmB
  rw [Bool.eq_false_iff]
  intro h
  rw [List.all_eq_true] at h
  have := h e (List.mem_of_getElem? he)
  rw [hx] at this; cases this
set_option maxRecDepth 100000 in
set_option maxHeartbeats 16000000 in
theorem specReason_any (A : Option Addr) (n c : Nat) (ls : List Df) (bd od : Nat) (d : Df) (B : Option Addr) (cb part : Nat) (a : An) (w : World) (S : Nat → Prop) (h : LRow dfR w S A ls) (l : ls.length = n) (hn : n ≤ 4) (c1 : w.cell? ⟨bd, od + 1, none⟩ = some (.int .i64 d.ps)) (c2 : w.cell? ⟨bd, od + 2, none⟩ = some (.slice B d.body.length cb)) (hbd : bd < w.heap.size) (g : LRow ptR w S B d.body) (hS : ∀ b, S b → b < w.heap.size) (sh : shapeB d.body = true) (p0 : 0 ≤ d.ps) (p3 : d.ps ≤ 3) (ha : (annOf d)[part]? = some a) (hok : okPt a.p) :
    Calls Tryz.prog 156 #[.slice A n c, .pointer (some ⟨bd, od, none⟩), .int .i64 part] w fun e w' => e = .returned (.int .i64 (rsn ls a)) ∧ Below w.heap.size w w' := by
  have HA := Lib.hid ha
  have h20 : d.body.length ≤ 20 := by have := (pxOf_ok sh).2.2; rw [← Px.flat_len, (pxOf_ok sh).1] at this; exact this
  have hpl : part < d.body.length := by have := (List.getElem?_eq_some_iff.1 ha).1; rwa [annOf_len sh] at this
  have hsb := annOf_sbd sh p0 p3 ha
  have hcont := annOf_cont sh ha
  have hpart := annOf_part sh ha
  have HOK := Lib.hid hok.2
  have CS := Lib.hid (fun (W : World) (hW : Below w.heap.size w W) => (Calls.mono (specScope_any bd od d B cb part a W S ((hW.cell (p := ⟨bd, od + 1, none⟩) hbd).trans c1) ((hW.cell (p := ⟨bd, od + 2, none⟩) hbd).trans c2) (g.keep (SameOn.of_below hW hS)) sh p0 p3 ha) (fun e w' ⟨he, hd⟩ => (⟨he, hd, hW.trans (hd.below _)⟩ : e = Ending.returned (.int .i64 a.s) ∧ Drawn W w' ∧ Below w.heap.size w w'))))
  obtain ⟨b1, o1, cs1, x, rfl, hb1, hR1, hx, hc1⟩ := g.at_ (k := part) hpl
  obtain rfl : x = a.p := by have := hx.out.symm.trans hpart; injection this
  obtain ⟨E, ce, rfl, hz1, hlc1, hcm1, hr1⟩ := hR1
  have p0' : w.cell? ⟨b1, o1 + part * 4, none⟩ = some (.int .i64 a.p.k) := hc1 0 _ rfl
  have p1' : w.cell? ⟨b1, o1 + part * 4 + 1, none⟩ = some (.int .i64 a.p.n) := hc1 1 _ rfl
  have p2' : w.cell? ⟨b1, o1 + part * 4 + 2, none⟩ = some (.string a.p.nm) := hc1 2 _ rfl
  have p3' : w.cell? ⟨b1, o1 + part * 4 + 3, none⟩ = some (.slice E a.p.args.length ce) := hc1 3 _ rfl
  have HR := Lib.hid hr1
  have HG := Lib.hid g
  have HL := Lib.hid h
  have LL := Lib.hid l
  have HC := Lib.hid hcont
  have HS := Lib.hid hS
  have hal : a.p.args.length ≤ 1048576 := HOK.out.1
  clear hc1 hr1 g h l hcont hpart hok hlc1 hcm1 hz1 ha hx hS
  rcases hkb : kindB a.p with _ | _
  · have HF := Lib.hid (show rsn ls a = 2 by unfold rsn; simp [hkb])
    have hkd := Lib.hid hkb
    clear hkb
    go_enter Tryz.func156, Tryz.ntmps156
    go_wp2_with fail
    refine (specKind_any w.heap.size 0 a.p E ce _ (by simp [go_sem]) (by simp [go_sem]) (by simp [go_sem]) (by simp [go_sem])).mono ?_
    rw [hkd.out]
    rintro e w1 ⟨rfl, hd⟩
    have q0 : w1.cell? ⟨w.heap.size, 0, none⟩ = some (.int .i64 a.p.k) := (cell_drawn hd _ _).trans (by simp [go_sem])
    have q1 : w1.cell? ⟨w.heap.size, 1, none⟩ = some (.int .i64 a.p.n) := (cell_drawn hd _ _).trans (by simp [go_sem])
    have q2 : w1.cell? ⟨w.heap.size, 2, none⟩ = some (.string a.p.nm) := (cell_drawn hd _ _).trans (by simp [go_sem])
    have q3 : w1.cell? ⟨w.heap.size, 3, none⟩ = some (.slice E a.p.args.length ce) := (cell_drawn hd _ _).trans (by simp [go_sem])
    have HB := Lib.hid (show Below w.heap.size w w1 from Below.trans (by repeat (first | exact Below.refl _ _ | refine Below.setCell ?_ (by simp) _ | refine Below.alloc ?_ (by simp <;> omega) _)) (hd.below _))
    have C1 : w1.cell? ⟨bd, od + 1, none⟩ = some (.int .i64 d.ps) := (HB.out.cell (p := ⟨bd, od + 1, none⟩) hbd).trans c1
    have C2 : w1.cell? ⟨bd, od + 2, none⟩ = some (.slice (some ⟨b1, o1, none⟩) d.body.length cb) := (HB.out.cell (p := ⟨bd, od + 2, none⟩) hbd).trans c2
    clear hd
    go_wp2
    go_ret
    exact ⟨by rw [HF.out]; rfl, HB.out⟩
  have hkd := Lib.hid hkb
  have hk : a.p.k = 0 ∨ a.p.k = 1 ∨ a.p.k = 2 ∨ a.p.k = 3 ∨ a.p.k = 4 ∨ a.p.k = 5 := by
    unfold kindB at hkb
    repeat' split at hkb
    all_goals first | omega | (cases hkb)
  rcases hk with hkk | hkk | hkk | hkk | hkk | hkk
  · have F1 : nmB a.p = true := by unfold nmB; rw [if_neg (by omega)]
    have F2 : numB ls a.p = true := by unfold numB; rw [if_neg (by omega), if_neg (by omega)]
    have F3 : cntB ls a.p = true := by unfold cntB; rw [if_neg (by omega), if_neg (by omega), if_neg (by omega)]
    have FH := Lib.hid F1
    have GH := Lib.hid F2
    have IH := Lib.hid F3
    have JH := Lib.hid hkb
    clear F1 F2 F3 hkb
    go_enter Tryz.func156, Tryz.ntmps156
    go_wp2_with fail
    refine (specKind_any w.heap.size 0 a.p E ce _ (by first | (simp [go_sem]; done) | simp [go_sem, hkk]) (by first | (simp [go_sem]; done) | simp [go_sem, hkk]) (by first | (simp [go_sem]; done) | simp [go_sem, hkk]) (by first | (simp [go_sem]; done) | simp [go_sem, hkk])).mono ?_
    rw [hkd.out]
    rintro e w1 ⟨rfl, hd⟩
    have q0 : w1.cell? ⟨w.heap.size, 0, none⟩ = some (.int .i64 a.p.k) := (cell_drawn hd _ _).trans (by first | (simp [go_sem]; done) | simp [go_sem, hkk])
    have q1 : w1.cell? ⟨w.heap.size, 1, none⟩ = some (.int .i64 a.p.n) := (cell_drawn hd _ _).trans (by first | (simp [go_sem]; done) | simp [go_sem, hkk])
    have q2 : w1.cell? ⟨w.heap.size, 2, none⟩ = some (.string a.p.nm) := (cell_drawn hd _ _).trans (by first | (simp [go_sem]; done) | simp [go_sem, hkk])
    have q3 : w1.cell? ⟨w.heap.size, 3, none⟩ = some (.slice E a.p.args.length ce) := (cell_drawn hd _ _).trans (by first | (simp [go_sem]; done) | simp [go_sem, hkk])
    have HB := Lib.hid (show Below w.heap.size w w1 from Below.trans (by repeat (first | exact Below.refl _ _ | refine Below.setCell ?_ (by simp) _ | refine Below.alloc ?_ (by simp <;> omega) _)) (hd.below _))
    have C1 : w1.cell? ⟨bd, od + 1, none⟩ = some (.int .i64 d.ps) := (HB.out.cell (p := ⟨bd, od + 1, none⟩) hbd).trans c1
    have C2 : w1.cell? ⟨bd, od + 2, none⟩ = some (.slice (some ⟨b1, o1, none⟩) d.body.length cb) := (HB.out.cell (p := ⟨bd, od + 2, none⟩) hbd).trans c2
    clear hd
    rw [hkk] at q0
    have HRS := Lib.hid (show (trmB a.s a.p.args = true → rsn ls a = 0) ∧ (trmB a.s a.p.args = false → rsn ls a = 8) by constructor <;> (intro ht; unfold rsn; simp [JH.out, FH.out, GH.out, IH.out, hkk, ht]))
    go_wp2_with (first  | (go_at_call 128; refine (CS.out _ HB.out).mono ?_; rintro e w2 ⟨rfl, hd, hb⟩; have q0 := (cell_drawn hd w.heap.size 0).trans q0; have q3 := (cell_drawn hd w.heap.size 3).trans q3; have HB := Lib.hid hb; clear hd hb))
    go_loopw [10] (fun i wr => ∃ k : Nat, k ≤ a.p.args.length ∧ i = .int .i64 k ∧ Hid (Below w.heap.size w wr) ∧ Hid (wr.cell? ⟨w.heap.size, 3, none⟩ = some (.slice E a.p.args.length ce)) ∧ Hid (trmB a.s (a.p.args.take k) = true)) (fun i _ => a.p.args.length - (intOf i).toNat)
    case atStart => exact ⟨0, Nat.zero_le _, rfl, HB, Lib.hid q3, Lib.hid (by simp [trmB])⟩
    case round =>
      obtain ⟨k, hk, rfl, HBr, HQ, HT⟩ := hrel
      have q3r := HQ.out
      by_cases hlt : k < a.p.args.length
      · obtain ⟨b5, o5, cs5, e5, rfl, hb5, hR5, hx5, hc5⟩ := (HR.out.keep (SameOn.of_below HBr.out HS.out)).at_ (k := k) hlt
        obtain ⟨A5, c5, rfl, hl5, hm5, hr5⟩ := hR5
        have q5 : wr.cell? ⟨b5, o5 + k, none⟩ = some (.slice A5 e5.length c5) := by have := hc5 0 _ rfl; simpa [listR] using this
        have CI := l03Is_any A5 e5.length c5 e5 a.s 15 wr wr.heap.size (hr5.trow fun b hb => Nat.lt_of_lt_of_le (HS.out b hb) HBr.out.size) rfl (by have := (HOK.out.2 e5 (List.mem_of_getElem? hx5.out)).1; omega) (by omega) (by omega)
        clear hc5 hr5
        rcases t : exB a.s 15 e5 with _ | _
        · have HF := Lib.hid (show rsn ls a = 8 from HRS.out.2 (trm_bad hx5.out t))
          rw [t] at CI
          have C := Lib.hid CI
          clear CI t
          go_wp2_with (go_at_call 169; refine C.out.mono ?_; rintro e w3 ⟨rfl, rfl⟩)
          go_ret
          exact ⟨by rw [HF.out]; rfl, HBr.out⟩
        · have HN := Lib.hid (trm_next HT.out hx5.out t)
          rw [t] at CI
          have C := Lib.hid CI
          clear CI t
          go_wp2_with (go_at_call 169; refine C.out.mono ?_; rintro e w3 ⟨rfl, rfl⟩)
          go_roundw
          case rel => exact ⟨k + 1, by omega, by go_num, HBr, HQ, HN⟩
          case measure => simp [intOf]; omega
      · have hke : k = a.p.args.length := by omega
        have HF := Lib.hid (show rsn ls a = 0 from HRS.out.1 (by
          have ht := HT.out
          rwa [hke, List.take_length] at ht))
        go_wp2
        go_ret
        exact ⟨by rw [HF.out]; rfl, HBr.out⟩
  · rcases tn : nameB a.p.nm.data.toList with _ | _
    · have F1 : nmB a.p = false := by unfold nmB; rw [if_pos hkk]; exact tn
      have TN := Lib.hid tn
      have HF := Lib.hid (show rsn ls a = 3 by unfold rsn; simp [hkb, F1])
      clear tn F1 hkb
      go_enter Tryz.func156, Tryz.ntmps156
      go_wp2_with fail
      refine (specKind_any w.heap.size 0 a.p E ce _ (by first | (simp [go_sem]; done) | simp [go_sem, hkk]) (by first | (simp [go_sem]; done) | simp [go_sem, hkk]) (by first | (simp [go_sem]; done) | simp [go_sem, hkk]) (by first | (simp [go_sem]; done) | simp [go_sem, hkk])).mono ?_
      rw [hkd.out]
      rintro e w1 ⟨rfl, hd⟩
      have q0 : w1.cell? ⟨w.heap.size, 0, none⟩ = some (.int .i64 a.p.k) := (cell_drawn hd _ _).trans (by first | (simp [go_sem]; done) | simp [go_sem, hkk])
      have q1 : w1.cell? ⟨w.heap.size, 1, none⟩ = some (.int .i64 a.p.n) := (cell_drawn hd _ _).trans (by first | (simp [go_sem]; done) | simp [go_sem, hkk])
      have q2 : w1.cell? ⟨w.heap.size, 2, none⟩ = some (.string a.p.nm) := (cell_drawn hd _ _).trans (by first | (simp [go_sem]; done) | simp [go_sem, hkk])
      have q3 : w1.cell? ⟨w.heap.size, 3, none⟩ = some (.slice E a.p.args.length ce) := (cell_drawn hd _ _).trans (by first | (simp [go_sem]; done) | simp [go_sem, hkk])
      have HB := Lib.hid (show Below w.heap.size w w1 from Below.trans (by repeat (first | exact Below.refl _ _ | refine Below.setCell ?_ (by simp) _ | refine Below.alloc ?_ (by simp <;> omega) _)) (hd.below _))
      have C1 : w1.cell? ⟨bd, od + 1, none⟩ = some (.int .i64 d.ps) := (HB.out.cell (p := ⟨bd, od + 1, none⟩) hbd).trans c1
      have C2 : w1.cell? ⟨bd, od + 2, none⟩ = some (.slice (some ⟨b1, o1, none⟩) d.body.length cb) := (HB.out.cell (p := ⟨bd, od + 2, none⟩) hbd).trans c2
      clear hd
      rw [hkk] at q0
      go_wp2_with (first | (go_at_call 72; refine (specName_any _ _).mono ?_; rw [TN.out]; rintro e w2 ⟨rfl, rfl⟩))
      go_ret
      exact ⟨by rw [HF.out]; rfl, HB.out⟩
    have F1 : nmB a.p = true := by unfold nmB; rw [if_pos hkk]; exact tn
    have TN := Lib.hid tn
    have F2 : numB ls a.p = true := by unfold numB; rw [if_neg (by omega), if_neg (by omega)]
    clear tn
    by_cases m0 : a.p.args.length = 0
    · have F3 : cntB ls a.p = true := by unfold cntB; rw [if_pos hkk, m0]; rfl
      have g1 : ¬ (2 : Int) < (a.p.args.length : Int) := by omega
      have g2 : ¬ (0 : Int) < (a.p.args.length : Int) := by omega
      have M0 := Lib.hid m0
      clear m0
      have FH := Lib.hid F1
      have GH := Lib.hid F2
      have IH := Lib.hid F3
      have JH := Lib.hid hkb
      clear F1 F2 F3 hkb
      go_enter Tryz.func156, Tryz.ntmps156
      go_wp2_with fail
      refine (specKind_any w.heap.size 0 a.p E ce _ (by first | (simp [go_sem]; done) | simp [go_sem, hkk]) (by first | (simp [go_sem]; done) | simp [go_sem, hkk]) (by first | (simp [go_sem]; done) | simp [go_sem, hkk]) (by first | (simp [go_sem]; done) | simp [go_sem, hkk])).mono ?_
      rw [hkd.out]
      rintro e w1 ⟨rfl, hd⟩
      have q0 : w1.cell? ⟨w.heap.size, 0, none⟩ = some (.int .i64 a.p.k) := (cell_drawn hd _ _).trans (by first | (simp [go_sem]; done) | simp [go_sem, hkk])
      have q1 : w1.cell? ⟨w.heap.size, 1, none⟩ = some (.int .i64 a.p.n) := (cell_drawn hd _ _).trans (by first | (simp [go_sem]; done) | simp [go_sem, hkk])
      have q2 : w1.cell? ⟨w.heap.size, 2, none⟩ = some (.string a.p.nm) := (cell_drawn hd _ _).trans (by first | (simp [go_sem]; done) | simp [go_sem, hkk])
      have q3 : w1.cell? ⟨w.heap.size, 3, none⟩ = some (.slice E a.p.args.length ce) := (cell_drawn hd _ _).trans (by first | (simp [go_sem]; done) | simp [go_sem, hkk])
      have HB := Lib.hid (show Below w.heap.size w w1 from Below.trans (by repeat (first | exact Below.refl _ _ | refine Below.setCell ?_ (by simp) _ | refine Below.alloc ?_ (by simp <;> omega) _)) (hd.below _))
      have C1 : w1.cell? ⟨bd, od + 1, none⟩ = some (.int .i64 d.ps) := (HB.out.cell (p := ⟨bd, od + 1, none⟩) hbd).trans c1
      have C2 : w1.cell? ⟨bd, od + 2, none⟩ = some (.slice (some ⟨b1, o1, none⟩) d.body.length cb) := (HB.out.cell (p := ⟨bd, od + 2, none⟩) hbd).trans c2
      clear hd
      rw [hkk] at q0
      have HRS := Lib.hid (show (trmB a.s a.p.args = true → rsn ls a = 0) ∧ (trmB a.s a.p.args = false → rsn ls a = 8) by constructor <;> (intro ht; unfold rsn; simp [JH.out, FH.out, GH.out, IH.out, hkk, ht]))
      go_wp2_with (first | (go_at_call 72; refine (specName_any _ _).mono ?_; rw [TN.out]; rintro e w2 ⟨rfl, rfl⟩) | (go_at_call 128; refine (CS.out _ HB.out).mono ?_; rintro e w2 ⟨rfl, hd, hb⟩; have q0 := (cell_drawn hd w.heap.size 0).trans q0; have q3 := (cell_drawn hd w.heap.size 3).trans q3; have HB := Lib.hid hb; clear hd hb))
      clear g1 g2
      go_loopw [10] (fun i wr => ∃ k : Nat, k ≤ a.p.args.length ∧ i = .int .i64 k ∧ Hid (Below w.heap.size w wr) ∧ Hid (wr.cell? ⟨w.heap.size, 3, none⟩ = some (.slice E a.p.args.length ce)) ∧ Hid (trmB a.s (a.p.args.take k) = true)) (fun i _ => a.p.args.length - (intOf i).toNat)
      case atStart => exact ⟨0, Nat.zero_le _, rfl, HB, Lib.hid q3, Lib.hid (by simp [trmB])⟩
      case round =>
        obtain ⟨k, hk, rfl, HBr, HQ, HT⟩ := hrel
        have q3r := HQ.out
        by_cases hlt : k < a.p.args.length
        · exact absurd hlt (by rw [M0.out]; omega)
        · have hke : k = a.p.args.length := by omega
          have HF := Lib.hid (show rsn ls a = 0 from HRS.out.1 (by
            have ht := HT.out
            rwa [hke, List.take_length] at ht))
          go_wp2
          go_ret
          exact ⟨by rw [HF.out]; rfl, HBr.out⟩
    have g2 : (0 : Int) < (a.p.args.length : Int) := by omega
    have e0 : (a.p.args.length == 0) = false := by simp; intro h; rw [h] at m0; exact m0 rfl
    by_cases m2 : 2 < a.p.args.length
    · have F3 : cntB ls a.p = false := by unfold cntB; rw [if_pos hkk, e0, decide_eq_false (by omega)]; simp
      have g1 : (2 : Int) < (a.p.args.length : Int) := by omega
      have HF := Lib.hid (show rsn ls a = 5 by unfold rsn; simp [hkb, F1, F2, F3])
      clear m0 m2 e0 hkb F1 F2 F3
      go_enter Tryz.func156, Tryz.ntmps156
      go_wp2_with fail
      refine (specKind_any w.heap.size 0 a.p E ce _ (by first | (simp [go_sem]; done) | simp [go_sem, hkk]) (by first | (simp [go_sem]; done) | simp [go_sem, hkk]) (by first | (simp [go_sem]; done) | simp [go_sem, hkk]) (by first | (simp [go_sem]; done) | simp [go_sem, hkk])).mono ?_
      rw [hkd.out]
      rintro e w1 ⟨rfl, hd⟩
      have q0 : w1.cell? ⟨w.heap.size, 0, none⟩ = some (.int .i64 a.p.k) := (cell_drawn hd _ _).trans (by first | (simp [go_sem]; done) | simp [go_sem, hkk])
      have q1 : w1.cell? ⟨w.heap.size, 1, none⟩ = some (.int .i64 a.p.n) := (cell_drawn hd _ _).trans (by first | (simp [go_sem]; done) | simp [go_sem, hkk])
      have q2 : w1.cell? ⟨w.heap.size, 2, none⟩ = some (.string a.p.nm) := (cell_drawn hd _ _).trans (by first | (simp [go_sem]; done) | simp [go_sem, hkk])
      have q3 : w1.cell? ⟨w.heap.size, 3, none⟩ = some (.slice E a.p.args.length ce) := (cell_drawn hd _ _).trans (by first | (simp [go_sem]; done) | simp [go_sem, hkk])
      have HB := Lib.hid (show Below w.heap.size w w1 from Below.trans (by repeat (first | exact Below.refl _ _ | refine Below.setCell ?_ (by simp) _ | refine Below.alloc ?_ (by simp <;> omega) _)) (hd.below _))
      have C1 : w1.cell? ⟨bd, od + 1, none⟩ = some (.int .i64 d.ps) := (HB.out.cell (p := ⟨bd, od + 1, none⟩) hbd).trans c1
      have C2 : w1.cell? ⟨bd, od + 2, none⟩ = some (.slice (some ⟨b1, o1, none⟩) d.body.length cb) := (HB.out.cell (p := ⟨bd, od + 2, none⟩) hbd).trans c2
      clear hd
      rw [hkk] at q0
      go_wp2_with (first | (go_at_call 72; refine (specName_any _ _).mono ?_; rw [TN.out]; rintro e w2 ⟨rfl, rfl⟩))
      go_ret
      exact ⟨by rw [HF.out]; rfl, HB.out⟩
    have g1 : ¬ (2 : Int) < (a.p.args.length : Int) := by omega
    rcases tt : (a.p.nm.toList == [116, 97, 117]) with _ | _
    · have F3 : cntB ls a.p = true := by unfold cntB; rw [if_pos hkk, e0, tt, decide_eq_true (by omega)]; rfl
      clear m0 m2 e0
      have FH := Lib.hid F1
      have GH := Lib.hid F2
      have IH := Lib.hid F3
      have JH := Lib.hid hkb
      clear F1 F2 F3 hkb
      go_enter Tryz.func156, Tryz.ntmps156
      go_wp2_with fail
      refine (specKind_any w.heap.size 0 a.p E ce _ (by first | (simp [go_sem]; done) | simp [go_sem, hkk]) (by first | (simp [go_sem]; done) | simp [go_sem, hkk]) (by first | (simp [go_sem]; done) | simp [go_sem, hkk]) (by first | (simp [go_sem]; done) | simp [go_sem, hkk])).mono ?_
      rw [hkd.out]
      rintro e w1 ⟨rfl, hd⟩
      have q0 : w1.cell? ⟨w.heap.size, 0, none⟩ = some (.int .i64 a.p.k) := (cell_drawn hd _ _).trans (by first | (simp [go_sem]; done) | simp [go_sem, hkk])
      have q1 : w1.cell? ⟨w.heap.size, 1, none⟩ = some (.int .i64 a.p.n) := (cell_drawn hd _ _).trans (by first | (simp [go_sem]; done) | simp [go_sem, hkk])
      have q2 : w1.cell? ⟨w.heap.size, 2, none⟩ = some (.string a.p.nm) := (cell_drawn hd _ _).trans (by first | (simp [go_sem]; done) | simp [go_sem, hkk])
      have q3 : w1.cell? ⟨w.heap.size, 3, none⟩ = some (.slice E a.p.args.length ce) := (cell_drawn hd _ _).trans (by first | (simp [go_sem]; done) | simp [go_sem, hkk])
      have HB := Lib.hid (show Below w.heap.size w w1 from Below.trans (by repeat (first | exact Below.refl _ _ | refine Below.setCell ?_ (by simp) _ | refine Below.alloc ?_ (by simp <;> omega) _)) (hd.below _))
      have C1 : w1.cell? ⟨bd, od + 1, none⟩ = some (.int .i64 d.ps) := (HB.out.cell (p := ⟨bd, od + 1, none⟩) hbd).trans c1
      have C2 : w1.cell? ⟨bd, od + 2, none⟩ = some (.slice (some ⟨b1, o1, none⟩) d.body.length cb) := (HB.out.cell (p := ⟨bd, od + 2, none⟩) hbd).trans c2
      clear hd
      rw [hkk] at q0
      have HRS := Lib.hid (show (trmB a.s a.p.args = true → rsn ls a = 0) ∧ (trmB a.s a.p.args = false → rsn ls a = 8) by constructor <;> (intro ht; unfold rsn; simp [JH.out, FH.out, GH.out, IH.out, hkk, ht]))
      go_wp2_with (first | (go_at_call 72; refine (specName_any _ _).mono ?_; rw [TN.out]; rintro e w2 ⟨rfl, rfl⟩) | (go_at_call 128; refine (CS.out _ HB.out).mono ?_; rintro e w2 ⟨rfl, hd, hb⟩; have q0 := (cell_drawn hd w.heap.size 0).trans q0; have q3 := (cell_drawn hd w.heap.size 3).trans q3; have HB := Lib.hid hb; clear hd hb))
      go_loopw [10] (fun i wr => ∃ k : Nat, k ≤ a.p.args.length ∧ i = .int .i64 k ∧ Hid (Below w.heap.size w wr) ∧ Hid (wr.cell? ⟨w.heap.size, 3, none⟩ = some (.slice E a.p.args.length ce)) ∧ Hid (trmB a.s (a.p.args.take k) = true)) (fun i _ => a.p.args.length - (intOf i).toNat)
      case atStart => exact ⟨0, Nat.zero_le _, rfl, HB, Lib.hid q3, Lib.hid (by simp [trmB])⟩
      case round =>
        obtain ⟨k, hk, rfl, HBr, HQ, HT⟩ := hrel
        have q3r := HQ.out
        by_cases hlt : k < a.p.args.length
        · obtain ⟨b5, o5, cs5, e5, rfl, hb5, hR5, hx5, hc5⟩ := (HR.out.keep (SameOn.of_below HBr.out HS.out)).at_ (k := k) hlt
          obtain ⟨A5, c5, rfl, hl5, hm5, hr5⟩ := hR5
          have q5 : wr.cell? ⟨b5, o5 + k, none⟩ = some (.slice A5 e5.length c5) := by have := hc5 0 _ rfl; simpa [listR] using this
          have CI := l03Is_any A5 e5.length c5 e5 a.s 15 wr wr.heap.size (hr5.trow fun b hb => Nat.lt_of_lt_of_le (HS.out b hb) HBr.out.size) rfl (by have := (HOK.out.2 e5 (List.mem_of_getElem? hx5.out)).1; omega) (by omega) (by omega)
          clear hc5 hr5
          rcases t : exB a.s 15 e5 with _ | _
          · have HF := Lib.hid (show rsn ls a = 8 from HRS.out.2 (trm_bad hx5.out t))
            rw [t] at CI
            have C := Lib.hid CI
            clear CI t
            go_wp2_with (go_at_call 169; refine C.out.mono ?_; rintro e w3 ⟨rfl, rfl⟩)
            go_ret
            exact ⟨by rw [HF.out]; rfl, HBr.out⟩
          · have HN := Lib.hid (trm_next HT.out hx5.out t)
            rw [t] at CI
            have C := Lib.hid CI
            clear CI t
            go_wp2_with (go_at_call 169; refine C.out.mono ?_; rintro e w3 ⟨rfl, rfl⟩)
            go_roundw
            case rel => exact ⟨k + 1, by omega, by go_num, HBr, HQ, HN⟩
            case measure => simp [intOf]; omega
        · have hke : k = a.p.args.length := by omega
          have HF := Lib.hid (show rsn ls a = 0 from HRS.out.1 (by
            have ht := HT.out
            rwa [hke, List.take_length] at ht))
          go_wp2
          go_ret
          exact ⟨by rw [HF.out]; rfl, HBr.out⟩
    · have F3 : cntB ls a.p = false := by unfold cntB; rw [if_pos hkk, e0, tt]; rfl
      have HF := Lib.hid (show rsn ls a = 5 by unfold rsn; simp [hkb, F1, F2, F3])
      clear m0 m2 e0 hkb F1 F2 F3
      go_enter Tryz.func156, Tryz.ntmps156
      go_wp2_with fail
      refine (specKind_any w.heap.size 0 a.p E ce _ (by first | (simp [go_sem]; done) | simp [go_sem, hkk]) (by first | (simp [go_sem]; done) | simp [go_sem, hkk]) (by first | (simp [go_sem]; done) | simp [go_sem, hkk]) (by first | (simp [go_sem]; done) | simp [go_sem, hkk])).mono ?_
      rw [hkd.out]
      rintro e w1 ⟨rfl, hd⟩
      have q0 : w1.cell? ⟨w.heap.size, 0, none⟩ = some (.int .i64 a.p.k) := (cell_drawn hd _ _).trans (by first | (simp [go_sem]; done) | simp [go_sem, hkk])
      have q1 : w1.cell? ⟨w.heap.size, 1, none⟩ = some (.int .i64 a.p.n) := (cell_drawn hd _ _).trans (by first | (simp [go_sem]; done) | simp [go_sem, hkk])
      have q2 : w1.cell? ⟨w.heap.size, 2, none⟩ = some (.string a.p.nm) := (cell_drawn hd _ _).trans (by first | (simp [go_sem]; done) | simp [go_sem, hkk])
      have q3 : w1.cell? ⟨w.heap.size, 3, none⟩ = some (.slice E a.p.args.length ce) := (cell_drawn hd _ _).trans (by first | (simp [go_sem]; done) | simp [go_sem, hkk])
      have HB := Lib.hid (show Below w.heap.size w w1 from Below.trans (by repeat (first | exact Below.refl _ _ | refine Below.setCell ?_ (by simp) _ | refine Below.alloc ?_ (by simp <;> omega) _)) (hd.below _))
      have C1 : w1.cell? ⟨bd, od + 1, none⟩ = some (.int .i64 d.ps) := (HB.out.cell (p := ⟨bd, od + 1, none⟩) hbd).trans c1
      have C2 : w1.cell? ⟨bd, od + 2, none⟩ = some (.slice (some ⟨b1, o1, none⟩) d.body.length cb) := (HB.out.cell (p := ⟨bd, od + 2, none⟩) hbd).trans c2
      clear hd
      rw [hkk] at q0
      go_wp2_with (first | (go_at_call 72; refine (specName_any _ _).mono ?_; rw [TN.out]; rintro e w2 ⟨rfl, rfl⟩))
      go_ret
      exact ⟨by rw [HF.out]; rfl, HB.out⟩
  · have F1 : nmB a.p = true := by unfold nmB; rw [if_neg (by omega)]
    have F2 : numB ls a.p = true := by unfold numB; rw [if_neg (by omega), if_neg (by omega)]
    have F3 : cntB ls a.p = true := by unfold cntB; rw [if_neg (by omega), if_neg (by omega), if_neg (by omega)]
    have FH := Lib.hid F1
    have GH := Lib.hid F2
    have IH := Lib.hid F3
    have JH := Lib.hid hkb
    clear F1 F2 F3 hkb
    go_enter Tryz.func156, Tryz.ntmps156
    go_wp2_with fail
    refine (specKind_any w.heap.size 0 a.p E ce _ (by first | (simp [go_sem]; done) | simp [go_sem, hkk]) (by first | (simp [go_sem]; done) | simp [go_sem, hkk]) (by first | (simp [go_sem]; done) | simp [go_sem, hkk]) (by first | (simp [go_sem]; done) | simp [go_sem, hkk])).mono ?_
    rw [hkd.out]
    rintro e w1 ⟨rfl, hd⟩
    have q0 : w1.cell? ⟨w.heap.size, 0, none⟩ = some (.int .i64 a.p.k) := (cell_drawn hd _ _).trans (by first | (simp [go_sem]; done) | simp [go_sem, hkk])
    have q1 : w1.cell? ⟨w.heap.size, 1, none⟩ = some (.int .i64 a.p.n) := (cell_drawn hd _ _).trans (by first | (simp [go_sem]; done) | simp [go_sem, hkk])
    have q2 : w1.cell? ⟨w.heap.size, 2, none⟩ = some (.string a.p.nm) := (cell_drawn hd _ _).trans (by first | (simp [go_sem]; done) | simp [go_sem, hkk])
    have q3 : w1.cell? ⟨w.heap.size, 3, none⟩ = some (.slice E a.p.args.length ce) := (cell_drawn hd _ _).trans (by first | (simp [go_sem]; done) | simp [go_sem, hkk])
    have HB := Lib.hid (show Below w.heap.size w w1 from Below.trans (by repeat (first | exact Below.refl _ _ | refine Below.setCell ?_ (by simp) _ | refine Below.alloc ?_ (by simp <;> omega) _)) (hd.below _))
    have C1 : w1.cell? ⟨bd, od + 1, none⟩ = some (.int .i64 d.ps) := (HB.out.cell (p := ⟨bd, od + 1, none⟩) hbd).trans c1
    have C2 : w1.cell? ⟨bd, od + 2, none⟩ = some (.slice (some ⟨b1, o1, none⟩) d.body.length cb) := (HB.out.cell (p := ⟨bd, od + 2, none⟩) hbd).trans c2
    clear hd
    rw [hkk] at q0
    have HRS := Lib.hid (show (trmB a.s a.p.args = true → rsn ls a = 0) ∧ (trmB a.s a.p.args = false → rsn ls a = 8) by constructor <;> (intro ht; unfold rsn; simp [JH.out, FH.out, GH.out, IH.out, hkk, ht]))
    go_wp2_with (first  | (go_at_call 128; refine (CS.out _ HB.out).mono ?_; rintro e w2 ⟨rfl, hd, hb⟩; have q0 := (cell_drawn hd w.heap.size 0).trans q0; have q3 := (cell_drawn hd w.heap.size 3).trans q3; have HB := Lib.hid hb; clear hd hb))
    go_loopw [10] (fun i wr => ∃ k : Nat, k ≤ a.p.args.length ∧ i = .int .i64 k ∧ Hid (Below w.heap.size w wr) ∧ Hid (wr.cell? ⟨w.heap.size, 3, none⟩ = some (.slice E a.p.args.length ce)) ∧ Hid (trmB a.s (a.p.args.take k) = true)) (fun i _ => a.p.args.length - (intOf i).toNat)
    case atStart => exact ⟨0, Nat.zero_le _, rfl, HB, Lib.hid q3, Lib.hid (by simp [trmB])⟩
    case round =>
      obtain ⟨k, hk, rfl, HBr, HQ, HT⟩ := hrel
      have q3r := HQ.out
      by_cases hlt : k < a.p.args.length
      · obtain ⟨b5, o5, cs5, e5, rfl, hb5, hR5, hx5, hc5⟩ := (HR.out.keep (SameOn.of_below HBr.out HS.out)).at_ (k := k) hlt
        obtain ⟨A5, c5, rfl, hl5, hm5, hr5⟩ := hR5
        have q5 : wr.cell? ⟨b5, o5 + k, none⟩ = some (.slice A5 e5.length c5) := by have := hc5 0 _ rfl; simpa [listR] using this
        have CI := l03Is_any A5 e5.length c5 e5 a.s 15 wr wr.heap.size (hr5.trow fun b hb => Nat.lt_of_lt_of_le (HS.out b hb) HBr.out.size) rfl (by have := (HOK.out.2 e5 (List.mem_of_getElem? hx5.out)).1; omega) (by omega) (by omega)
        clear hc5 hr5
        rcases t : exB a.s 15 e5 with _ | _
        · have HF := Lib.hid (show rsn ls a = 8 from HRS.out.2 (trm_bad hx5.out t))
          rw [t] at CI
          have C := Lib.hid CI
          clear CI t
          go_wp2_with (go_at_call 169; refine C.out.mono ?_; rintro e w3 ⟨rfl, rfl⟩)
          go_ret
          exact ⟨by rw [HF.out]; rfl, HBr.out⟩
        · have HN := Lib.hid (trm_next HT.out hx5.out t)
          rw [t] at CI
          have C := Lib.hid CI
          clear CI t
          go_wp2_with (go_at_call 169; refine C.out.mono ?_; rintro e w3 ⟨rfl, rfl⟩)
          go_roundw
          case rel => exact ⟨k + 1, by omega, by go_num, HBr, HQ, HN⟩
          case measure => simp [intOf]; omega
      · have hke : k = a.p.args.length := by omega
        have HF := Lib.hid (show rsn ls a = 0 from HRS.out.1 (by
          have ht := HT.out
          rwa [hke, List.take_length] at ht))
        go_wp2
        go_ret
        exact ⟨by rw [HF.out]; rfl, HBr.out⟩
  · have F1 : nmB a.p = true := by unfold nmB; rw [if_neg (by omega)]
    have F2 : numB ls a.p = true := by unfold numB; rw [if_neg (by omega), if_neg (by omega)]
    by_cases m1 : a.p.args.length = 1
    · have F3 : cntB ls a.p = true := by unfold cntB; rw [if_neg (by omega), if_pos hkk, m1]; rfl
      have g1 : ((a.p.args.length : Int) != 1) = false := by rw [m1]; rfl
      clear m1
      have FH := Lib.hid F1
      have GH := Lib.hid F2
      have IH := Lib.hid F3
      have JH := Lib.hid hkb
      clear F1 F2 F3 hkb
      go_enter Tryz.func156, Tryz.ntmps156
      go_wp2_with fail
      refine (specKind_any w.heap.size 0 a.p E ce _ (by first | (simp [go_sem]; done) | simp [go_sem, hkk]) (by first | (simp [go_sem]; done) | simp [go_sem, hkk]) (by first | (simp [go_sem]; done) | simp [go_sem, hkk]) (by first | (simp [go_sem]; done) | simp [go_sem, hkk])).mono ?_
      rw [hkd.out]
      rintro e w1 ⟨rfl, hd⟩
      have q0 : w1.cell? ⟨w.heap.size, 0, none⟩ = some (.int .i64 a.p.k) := (cell_drawn hd _ _).trans (by first | (simp [go_sem]; done) | simp [go_sem, hkk])
      have q1 : w1.cell? ⟨w.heap.size, 1, none⟩ = some (.int .i64 a.p.n) := (cell_drawn hd _ _).trans (by first | (simp [go_sem]; done) | simp [go_sem, hkk])
      have q2 : w1.cell? ⟨w.heap.size, 2, none⟩ = some (.string a.p.nm) := (cell_drawn hd _ _).trans (by first | (simp [go_sem]; done) | simp [go_sem, hkk])
      have q3 : w1.cell? ⟨w.heap.size, 3, none⟩ = some (.slice E a.p.args.length ce) := (cell_drawn hd _ _).trans (by first | (simp [go_sem]; done) | simp [go_sem, hkk])
      have HB := Lib.hid (show Below w.heap.size w w1 from Below.trans (by repeat (first | exact Below.refl _ _ | refine Below.setCell ?_ (by simp) _ | refine Below.alloc ?_ (by simp <;> omega) _)) (hd.below _))
      have C1 : w1.cell? ⟨bd, od + 1, none⟩ = some (.int .i64 d.ps) := (HB.out.cell (p := ⟨bd, od + 1, none⟩) hbd).trans c1
      have C2 : w1.cell? ⟨bd, od + 2, none⟩ = some (.slice (some ⟨b1, o1, none⟩) d.body.length cb) := (HB.out.cell (p := ⟨bd, od + 2, none⟩) hbd).trans c2
      clear hd
      rw [hkk] at q0
      have HRS := Lib.hid (show (trmB a.s a.p.args = true → rsn ls a = 0) ∧ (trmB a.s a.p.args = false → rsn ls a = 8) by constructor <;> (intro ht; unfold rsn; simp [JH.out, FH.out, GH.out, IH.out, hkk, ht]))
      go_wp2_with (first  | (go_at_call 128; refine (CS.out _ HB.out).mono ?_; rintro e w2 ⟨rfl, hd, hb⟩; have q0 := (cell_drawn hd w.heap.size 0).trans q0; have q3 := (cell_drawn hd w.heap.size 3).trans q3; have HB := Lib.hid hb; clear hd hb))
      go_loopw [10] (fun i wr => ∃ k : Nat, k ≤ a.p.args.length ∧ i = .int .i64 k ∧ Hid (Below w.heap.size w wr) ∧ Hid (wr.cell? ⟨w.heap.size, 3, none⟩ = some (.slice E a.p.args.length ce)) ∧ Hid (trmB a.s (a.p.args.take k) = true)) (fun i _ => a.p.args.length - (intOf i).toNat)
      case atStart => exact ⟨0, Nat.zero_le _, rfl, HB, Lib.hid q3, Lib.hid (by simp [trmB])⟩
      case round =>
        obtain ⟨k, hk, rfl, HBr, HQ, HT⟩ := hrel
        have q3r := HQ.out
        by_cases hlt : k < a.p.args.length
        · obtain ⟨b5, o5, cs5, e5, rfl, hb5, hR5, hx5, hc5⟩ := (HR.out.keep (SameOn.of_below HBr.out HS.out)).at_ (k := k) hlt
          obtain ⟨A5, c5, rfl, hl5, hm5, hr5⟩ := hR5
          have q5 : wr.cell? ⟨b5, o5 + k, none⟩ = some (.slice A5 e5.length c5) := by have := hc5 0 _ rfl; simpa [listR] using this
          have CI := l03Is_any A5 e5.length c5 e5 a.s 15 wr wr.heap.size (hr5.trow fun b hb => Nat.lt_of_lt_of_le (HS.out b hb) HBr.out.size) rfl (by have := (HOK.out.2 e5 (List.mem_of_getElem? hx5.out)).1; omega) (by omega) (by omega)
          clear hc5 hr5
          rcases t : exB a.s 15 e5 with _ | _
          · have HF := Lib.hid (show rsn ls a = 8 from HRS.out.2 (trm_bad hx5.out t))
            rw [t] at CI
            have C := Lib.hid CI
            clear CI t
            go_wp2_with (go_at_call 169; refine C.out.mono ?_; rintro e w3 ⟨rfl, rfl⟩)
            go_ret
            exact ⟨by rw [HF.out]; rfl, HBr.out⟩
          · have HN := Lib.hid (trm_next HT.out hx5.out t)
            rw [t] at CI
            have C := Lib.hid CI
            clear CI t
            go_wp2_with (go_at_call 169; refine C.out.mono ?_; rintro e w3 ⟨rfl, rfl⟩)
            go_roundw
            case rel => exact ⟨k + 1, by omega, by go_num, HBr, HQ, HN⟩
            case measure => simp [intOf]; omega
        · have hke : k = a.p.args.length := by omega
          have HF := Lib.hid (show rsn ls a = 0 from HRS.out.1 (by
            have ht := HT.out
            rwa [hke, List.take_length] at ht))
          go_wp2
          go_ret
          exact ⟨by rw [HF.out]; rfl, HBr.out⟩
    · have F3 : cntB ls a.p = false := by unfold cntB; rw [if_neg (by omega), if_pos hkk]; simpa using m1
      have g1 : ((a.p.args.length : Int) != 1) = true := by simp; omega
      have HF := Lib.hid (show rsn ls a = 5 by unfold rsn; simp [hkb, F1, F2, F3])
      clear m1 hkb F1 F2 F3
      go_enter Tryz.func156, Tryz.ntmps156
      go_wp2_with fail
      refine (specKind_any w.heap.size 0 a.p E ce _ (by first | (simp [go_sem]; done) | simp [go_sem, hkk]) (by first | (simp [go_sem]; done) | simp [go_sem, hkk]) (by first | (simp [go_sem]; done) | simp [go_sem, hkk]) (by first | (simp [go_sem]; done) | simp [go_sem, hkk])).mono ?_
      rw [hkd.out]
      rintro e w1 ⟨rfl, hd⟩
      have q0 : w1.cell? ⟨w.heap.size, 0, none⟩ = some (.int .i64 a.p.k) := (cell_drawn hd _ _).trans (by first | (simp [go_sem]; done) | simp [go_sem, hkk])
      have q1 : w1.cell? ⟨w.heap.size, 1, none⟩ = some (.int .i64 a.p.n) := (cell_drawn hd _ _).trans (by first | (simp [go_sem]; done) | simp [go_sem, hkk])
      have q2 : w1.cell? ⟨w.heap.size, 2, none⟩ = some (.string a.p.nm) := (cell_drawn hd _ _).trans (by first | (simp [go_sem]; done) | simp [go_sem, hkk])
      have q3 : w1.cell? ⟨w.heap.size, 3, none⟩ = some (.slice E a.p.args.length ce) := (cell_drawn hd _ _).trans (by first | (simp [go_sem]; done) | simp [go_sem, hkk])
      have HB := Lib.hid (show Below w.heap.size w w1 from Below.trans (by repeat (first | exact Below.refl _ _ | refine Below.setCell ?_ (by simp) _ | refine Below.alloc ?_ (by simp <;> omega) _)) (hd.below _))
      have C1 : w1.cell? ⟨bd, od + 1, none⟩ = some (.int .i64 d.ps) := (HB.out.cell (p := ⟨bd, od + 1, none⟩) hbd).trans c1
      have C2 : w1.cell? ⟨bd, od + 2, none⟩ = some (.slice (some ⟨b1, o1, none⟩) d.body.length cb) := (HB.out.cell (p := ⟨bd, od + 2, none⟩) hbd).trans c2
      clear hd
      rw [hkk] at q0
      go_wp2
      go_ret
      exact ⟨by rw [HF.out]; rfl, HB.out⟩
  · have F1 : nmB a.p = true := by unfold nmB; rw [if_neg (by omega)]
    have F3 : cntB ls a.p = true := by unfold cntB; rw [if_neg (by omega), if_neg (by omega), if_neg (by omega)]
    by_cases hn4 : 1 ≤ a.p.n ∧ a.p.n ≤ 7
    · have F2 : numB ls a.p = true := by unfold numB; rw [if_pos hkk]; exact decide_eq_true hn4
      by_cases h6 : 6 ≤ a.s
      · have HF := Lib.hid (show rsn ls a = 7 by unfold rsn; simp [hkb, F1, F2, F3, hkk, h6])
        clear hkb F1 F2 F3
        go_enter Tryz.func156, Tryz.ntmps156
        go_wp2_with fail
        refine (specKind_any w.heap.size 0 a.p E ce _ (by first | (simp [go_sem]; done) | simp [go_sem, hkk]) (by first | (simp [go_sem]; done) | simp [go_sem, hkk]) (by first | (simp [go_sem]; done) | simp [go_sem, hkk]) (by first | (simp [go_sem]; done) | simp [go_sem, hkk])).mono ?_
        rw [hkd.out]
        rintro e w1 ⟨rfl, hd⟩
        have q0 : w1.cell? ⟨w.heap.size, 0, none⟩ = some (.int .i64 a.p.k) := (cell_drawn hd _ _).trans (by first | (simp [go_sem]; done) | simp [go_sem, hkk])
        have q1 : w1.cell? ⟨w.heap.size, 1, none⟩ = some (.int .i64 a.p.n) := (cell_drawn hd _ _).trans (by first | (simp [go_sem]; done) | simp [go_sem, hkk])
        have q2 : w1.cell? ⟨w.heap.size, 2, none⟩ = some (.string a.p.nm) := (cell_drawn hd _ _).trans (by first | (simp [go_sem]; done) | simp [go_sem, hkk])
        have q3 : w1.cell? ⟨w.heap.size, 3, none⟩ = some (.slice E a.p.args.length ce) := (cell_drawn hd _ _).trans (by first | (simp [go_sem]; done) | simp [go_sem, hkk])
        have HB := Lib.hid (show Below w.heap.size w w1 from Below.trans (by repeat (first | exact Below.refl _ _ | refine Below.setCell ?_ (by simp) _ | refine Below.alloc ?_ (by simp <;> omega) _)) (hd.below _))
        have C1 : w1.cell? ⟨bd, od + 1, none⟩ = some (.int .i64 d.ps) := (HB.out.cell (p := ⟨bd, od + 1, none⟩) hbd).trans c1
        have C2 : w1.cell? ⟨bd, od + 2, none⟩ = some (.slice (some ⟨b1, o1, none⟩) d.body.length cb) := (HB.out.cell (p := ⟨bd, od + 2, none⟩) hbd).trans c2
        clear hd
        rw [hkk] at q0
        go_wp2_with (first | (go_at_call 52; refine (l00In_yes _ _ _ (by omega) _).mono ?_; rintro e w2 ⟨rfl, rfl⟩) | (go_at_call 128; refine (CS.out _ HB.out).mono ?_; rintro e w2 ⟨rfl, hd, hb⟩; have q0 := (cell_drawn hd w.heap.size 0).trans q0; have HB := Lib.hid hb; clear hd hb))
        go_ret
        exact ⟨by rw [HF.out]; rfl, HB.out⟩
      · have h6' : a.s < 6 := by omega
        have FH := Lib.hid F1
        have GH := Lib.hid F2
        have IH := Lib.hid F3
        have JH := Lib.hid hkb
        clear F1 F2 F3 hkb
        go_enter Tryz.func156, Tryz.ntmps156
        go_wp2_with fail
        refine (specKind_any w.heap.size 0 a.p E ce _ (by first | (simp [go_sem]; done) | simp [go_sem, hkk]) (by first | (simp [go_sem]; done) | simp [go_sem, hkk]) (by first | (simp [go_sem]; done) | simp [go_sem, hkk]) (by first | (simp [go_sem]; done) | simp [go_sem, hkk])).mono ?_
        rw [hkd.out]
        rintro e w1 ⟨rfl, hd⟩
        have q0 : w1.cell? ⟨w.heap.size, 0, none⟩ = some (.int .i64 a.p.k) := (cell_drawn hd _ _).trans (by first | (simp [go_sem]; done) | simp [go_sem, hkk])
        have q1 : w1.cell? ⟨w.heap.size, 1, none⟩ = some (.int .i64 a.p.n) := (cell_drawn hd _ _).trans (by first | (simp [go_sem]; done) | simp [go_sem, hkk])
        have q2 : w1.cell? ⟨w.heap.size, 2, none⟩ = some (.string a.p.nm) := (cell_drawn hd _ _).trans (by first | (simp [go_sem]; done) | simp [go_sem, hkk])
        have q3 : w1.cell? ⟨w.heap.size, 3, none⟩ = some (.slice E a.p.args.length ce) := (cell_drawn hd _ _).trans (by first | (simp [go_sem]; done) | simp [go_sem, hkk])
        have HB := Lib.hid (show Below w.heap.size w w1 from Below.trans (by repeat (first | exact Below.refl _ _ | refine Below.setCell ?_ (by simp) _ | refine Below.alloc ?_ (by simp <;> omega) _)) (hd.below _))
        have C1 : w1.cell? ⟨bd, od + 1, none⟩ = some (.int .i64 d.ps) := (HB.out.cell (p := ⟨bd, od + 1, none⟩) hbd).trans c1
        have C2 : w1.cell? ⟨bd, od + 2, none⟩ = some (.slice (some ⟨b1, o1, none⟩) d.body.length cb) := (HB.out.cell (p := ⟨bd, od + 2, none⟩) hbd).trans c2
        clear hd
        rw [hkk] at q0
        have HRS := Lib.hid (show (trmB a.s a.p.args = true → rsn ls a = 0) ∧ (trmB a.s a.p.args = false → rsn ls a = 8) by constructor <;> (intro ht; unfold rsn; simp [JH.out, FH.out, GH.out, IH.out, hkk, h6, ht]))
        go_wp2_with (first | (go_at_call 52; refine (l00In_yes _ _ _ (by omega) _).mono ?_; rintro e w2 ⟨rfl, rfl⟩) | (go_at_call 128; refine (CS.out _ HB.out).mono ?_; rintro e w2 ⟨rfl, hd, hb⟩; have q0 := (cell_drawn hd w.heap.size 0).trans q0; have q3 := (cell_drawn hd w.heap.size 3).trans q3; have HB := Lib.hid hb; clear hd hb))
        go_loopw [10] (fun i wr => ∃ k : Nat, k ≤ a.p.args.length ∧ i = .int .i64 k ∧ Hid (Below w.heap.size w wr) ∧ Hid (wr.cell? ⟨w.heap.size, 3, none⟩ = some (.slice E a.p.args.length ce)) ∧ Hid (trmB a.s (a.p.args.take k) = true)) (fun i _ => a.p.args.length - (intOf i).toNat)
        case atStart => exact ⟨0, Nat.zero_le _, rfl, HB, Lib.hid q3, Lib.hid (by simp [trmB])⟩
        case round =>
          obtain ⟨k, hk, rfl, HBr, HQ, HT⟩ := hrel
          have q3r := HQ.out
          by_cases hlt : k < a.p.args.length
          · obtain ⟨b5, o5, cs5, e5, rfl, hb5, hR5, hx5, hc5⟩ := (HR.out.keep (SameOn.of_below HBr.out HS.out)).at_ (k := k) hlt
            obtain ⟨A5, c5, rfl, hl5, hm5, hr5⟩ := hR5
            have q5 : wr.cell? ⟨b5, o5 + k, none⟩ = some (.slice A5 e5.length c5) := by have := hc5 0 _ rfl; simpa [listR] using this
            have CI := l03Is_any A5 e5.length c5 e5 a.s 15 wr wr.heap.size (hr5.trow fun b hb => Nat.lt_of_lt_of_le (HS.out b hb) HBr.out.size) rfl (by have := (HOK.out.2 e5 (List.mem_of_getElem? hx5.out)).1; omega) (by omega) (by omega)
            clear hc5 hr5
            rcases t : exB a.s 15 e5 with _ | _
            · have HF := Lib.hid (show rsn ls a = 8 from HRS.out.2 (trm_bad hx5.out t))
              rw [t] at CI
              have C := Lib.hid CI
              clear CI t
              go_wp2_with (go_at_call 169; refine C.out.mono ?_; rintro e w3 ⟨rfl, rfl⟩)
              go_ret
              exact ⟨by rw [HF.out]; rfl, HBr.out⟩
            · have HN := Lib.hid (trm_next HT.out hx5.out t)
              rw [t] at CI
              have C := Lib.hid CI
              clear CI t
              go_wp2_with (go_at_call 169; refine C.out.mono ?_; rintro e w3 ⟨rfl, rfl⟩)
              go_roundw
              case rel => exact ⟨k + 1, by omega, by go_num, HBr, HQ, HN⟩
              case measure => simp [intOf]; omega
          · have hke : k = a.p.args.length := by omega
            have HF := Lib.hid (show rsn ls a = 0 from HRS.out.1 (by
              have ht := HT.out
              rwa [hke, List.take_length] at ht))
            go_wp2
            go_ret
            exact ⟨by rw [HF.out]; rfl, HBr.out⟩
    · have F2 : numB ls a.p = false := by unfold numB; rw [if_pos hkk]; exact decide_eq_false hn4
      have HF := Lib.hid (show rsn ls a = 4 by unfold rsn; simp [hkb, F1, F2])
      clear hkb F1 F2 F3
      go_enter Tryz.func156, Tryz.ntmps156
      go_wp2_with fail
      refine (specKind_any w.heap.size 0 a.p E ce _ (by first | (simp [go_sem]; done) | simp [go_sem, hkk]) (by first | (simp [go_sem]; done) | simp [go_sem, hkk]) (by first | (simp [go_sem]; done) | simp [go_sem, hkk]) (by first | (simp [go_sem]; done) | simp [go_sem, hkk])).mono ?_
      rw [hkd.out]
      rintro e w1 ⟨rfl, hd⟩
      have q0 : w1.cell? ⟨w.heap.size, 0, none⟩ = some (.int .i64 a.p.k) := (cell_drawn hd _ _).trans (by first | (simp [go_sem]; done) | simp [go_sem, hkk])
      have q1 : w1.cell? ⟨w.heap.size, 1, none⟩ = some (.int .i64 a.p.n) := (cell_drawn hd _ _).trans (by first | (simp [go_sem]; done) | simp [go_sem, hkk])
      have q2 : w1.cell? ⟨w.heap.size, 2, none⟩ = some (.string a.p.nm) := (cell_drawn hd _ _).trans (by first | (simp [go_sem]; done) | simp [go_sem, hkk])
      have q3 : w1.cell? ⟨w.heap.size, 3, none⟩ = some (.slice E a.p.args.length ce) := (cell_drawn hd _ _).trans (by first | (simp [go_sem]; done) | simp [go_sem, hkk])
      have HB := Lib.hid (show Below w.heap.size w w1 from Below.trans (by repeat (first | exact Below.refl _ _ | refine Below.setCell ?_ (by simp) _ | refine Below.alloc ?_ (by simp <;> omega) _)) (hd.below _))
      have C1 : w1.cell? ⟨bd, od + 1, none⟩ = some (.int .i64 d.ps) := (HB.out.cell (p := ⟨bd, od + 1, none⟩) hbd).trans c1
      have C2 : w1.cell? ⟨bd, od + 2, none⟩ = some (.slice (some ⟨b1, o1, none⟩) d.body.length cb) := (HB.out.cell (p := ⟨bd, od + 2, none⟩) hbd).trans c2
      clear hd
      rw [hkk] at q0
      go_wp2_with (first | (go_at_call 52; refine (l00In_no _ _ _ (by omega) _).mono ?_; rintro e w2 ⟨rfl, rfl⟩))
      go_ret
      exact ⟨by rw [HF.out]; rfl, HB.out⟩
  · have F1 : nmB a.p = true := by unfold nmB; rw [if_neg (by omega)]
    by_cases hn5 : 0 ≤ a.p.n ∧ a.p.n < ls.length
    · have F2 : numB ls a.p = true := by unfold numB; rw [if_neg (by omega), if_pos hkk]; exact decide_eq_true hn5
      obtain ⟨kn, hkn⟩ : ∃ kn : Nat, a.p.n = kn := ⟨a.p.n.toNat, by omega⟩
      have hnl := LL.out
      obtain ⟨b2, o2, cs2, x2, rfl, hb2, hR2, hx2, hc2⟩ := HL.out.at_ (k := kn) (by omega)
      obtain ⟨E2, ce2, rfl, hz2, hlc2, hcm2, hr2⟩ := hR2
      have l1 : w.cell? ⟨b2, o2 + kn * 3 + 1, none⟩ = some (.int .i64 x2.ps) := hc2 1 _ rfl
      have hb2w := HS.out b2 hb2
      have hgd : ls.getD a.p.n.toNat default = x2 := by rw [hkn, Int.toNat_natCast, List.getD_eq_getElem?_getD, hx2.out]; rfl
      clear hc2 hr2 hlc2 hcm2 hz2
      rcases tc : ((a.p.args.length : Int) != x2.ps) with _ | _
      · have F3 : cntB ls a.p = true := by unfold cntB; rw [if_neg (by omega), if_neg (by omega), if_pos hkk, hgd]; simpa using tc
        have hkl : kn < n := by have := (List.getElem?_eq_some_iff.1 hx2.out).1; omega
        have hcc := HC.out
        clear hgd hn5
        rcases part with _ | j
        · rw [Nat.zero_mul, Nat.add_zero] at p0' p1' p2' p3'
          have hcf : a.c = false := hcc
          have HF := Lib.hid (show rsn ls a = 6 by unfold rsn; simp [hkb, F1, F2, F3, hkk, hcf])
          clear hkb F1 F2 F3 hcc hcf
          go_enter Tryz.func156, Tryz.ntmps156
          go_wp2_with fail
          refine (specKind_any w.heap.size 0 a.p E ce _ (by first | (simp [go_sem]; done) | simp [go_sem, hkk]) (by first | (simp [go_sem]; done) | simp [go_sem, hkn]) (by first | (simp [go_sem]; done) | simp [go_sem, hkk, hkn]) (by first | (simp [go_sem]; done) | simp [go_sem, hkk, hkn])).mono ?_
          rw [hkd.out]
          rintro e w1 ⟨rfl, hd⟩
          have q0 : w1.cell? ⟨w.heap.size, 0, none⟩ = some (.int .i64 a.p.k) := (cell_drawn hd _ _).trans (by first | (simp [go_sem]; done) | simp [go_sem, hkk])
          have q1 : w1.cell? ⟨w.heap.size, 1, none⟩ = some (.int .i64 a.p.n) := (cell_drawn hd _ _).trans (by first | (simp [go_sem]; done) | simp [go_sem, hkn])
          have q2 : w1.cell? ⟨w.heap.size, 2, none⟩ = some (.string a.p.nm) := (cell_drawn hd _ _).trans (by first | (simp [go_sem]; done) | simp [go_sem, hkk, hkn])
          have q3 : w1.cell? ⟨w.heap.size, 3, none⟩ = some (.slice E a.p.args.length ce) := (cell_drawn hd _ _).trans (by first | (simp [go_sem]; done) | simp [go_sem, hkk, hkn])
          have HB := Lib.hid (show Below w.heap.size w w1 from Below.trans (by repeat (first | exact Below.refl _ _ | refine Below.setCell ?_ (by simp) _ | refine Below.alloc ?_ (by simp <;> omega) _)) (hd.below _))
          have C1 : w1.cell? ⟨bd, od + 1, none⟩ = some (.int .i64 d.ps) := (HB.out.cell (p := ⟨bd, od + 1, none⟩) hbd).trans c1
          have C2 : w1.cell? ⟨bd, od + 2, none⟩ = some (.slice (some ⟨b1, o1, none⟩) d.body.length cb) := (HB.out.cell (p := ⟨bd, od + 2, none⟩) hbd).trans c2
          have L1 : w1.cell? ⟨b2, o2 + kn * 3 + 1, none⟩ = some (.int .i64 x2.ps) := (HB.out.cell (p := ⟨b2, o2 + kn * 3 + 1, none⟩) hb2w).trans l1
          rw [hkn] at q1
          clear hd
          rw [hkk] at q0
          go_wp2_with (first | (go_at_call 52; refine (l00In_yes _ _ _ (by omega) _).mono ?_; rintro e w2 ⟨rfl, rfl⟩))
          go_ret
          exact ⟨by rw [HF.out]; rfl, HB.out⟩
        · obtain ⟨bj, oj, csj, xj, ej, hbj, hRj, hxj, hcj⟩ := HG.out.at_ (k := j) (by omega)
          obtain ⟨rfl, rfl⟩ : b1 = bj ∧ o1 = oj := by injection ej with ej; injection ej with e1 e2; exact ⟨e1, e2⟩
          obtain ⟨Ej, cej, rfl, hzj, hlcj, hcmj, hrj⟩ := hRj
          have j0 : w.cell? ⟨b1, o1 + j * 4, none⟩ = some (.int .i64 xj.k) := hcj 0 _ rfl
          have hbjw := HS.out b1 hb1
          have hcv : a.c = (xj.k == 1) := by rw [hcc]; show (match d.body[j]? with | some q => q.k == 1 | none => false) = _; rw [hxj.out]
          clear hcj hrj hlcj hcmj hzj hcc ej
          rcases t1 : (xj.k == 1) with _ | _
          · have hcf : a.c = false := hcv.trans t1
            have t1' : (xj.k != 1) = true := by simp [bne, t1]
            have HF := Lib.hid (show rsn ls a = 6 by unfold rsn; simp [hkb, F1, F2, F3, hkk, hcf])
            clear hkb F1 F2 F3 hcv hcf
            go_enter Tryz.func156, Tryz.ntmps156
            go_wp2_with fail
            refine (specKind_any w.heap.size 0 a.p E ce _ (by first | (simp [go_sem]; done) | simp [go_sem, hkk]) (by first | (simp [go_sem]; done) | simp [go_sem, hkn]) (by first | (simp [go_sem]; done) | simp [go_sem, hkk, hkn]) (by first | (simp [go_sem]; done) | simp [go_sem, hkk, hkn])).mono ?_
            rw [hkd.out]
            rintro e w1 ⟨rfl, hd⟩
            have q0 : w1.cell? ⟨w.heap.size, 0, none⟩ = some (.int .i64 a.p.k) := (cell_drawn hd _ _).trans (by first | (simp [go_sem]; done) | simp [go_sem, hkk])
            have q1 : w1.cell? ⟨w.heap.size, 1, none⟩ = some (.int .i64 a.p.n) := (cell_drawn hd _ _).trans (by first | (simp [go_sem]; done) | simp [go_sem, hkn])
            have q2 : w1.cell? ⟨w.heap.size, 2, none⟩ = some (.string a.p.nm) := (cell_drawn hd _ _).trans (by first | (simp [go_sem]; done) | simp [go_sem, hkk, hkn])
            have q3 : w1.cell? ⟨w.heap.size, 3, none⟩ = some (.slice E a.p.args.length ce) := (cell_drawn hd _ _).trans (by first | (simp [go_sem]; done) | simp [go_sem, hkk, hkn])
            have HB := Lib.hid (show Below w.heap.size w w1 from Below.trans (by repeat (first | exact Below.refl _ _ | refine Below.setCell ?_ (by simp) _ | refine Below.alloc ?_ (by simp <;> omega) _)) (hd.below _))
            have C1 : w1.cell? ⟨bd, od + 1, none⟩ = some (.int .i64 d.ps) := (HB.out.cell (p := ⟨bd, od + 1, none⟩) hbd).trans c1
            have C2 : w1.cell? ⟨bd, od + 2, none⟩ = some (.slice (some ⟨b1, o1, none⟩) d.body.length cb) := (HB.out.cell (p := ⟨bd, od + 2, none⟩) hbd).trans c2
            have L1 : w1.cell? ⟨b2, o2 + kn * 3 + 1, none⟩ = some (.int .i64 x2.ps) := (HB.out.cell (p := ⟨b2, o2 + kn * 3 + 1, none⟩) hb2w).trans l1
            rw [hkn] at q1
            have J0 : w1.cell? ⟨b1, o1 + j * 4, none⟩ = some (.int .i64 xj.k) := (HB.out.cell (p := ⟨b1, o1 + j * 4, none⟩) hbjw).trans j0
            clear hd
            rw [hkk] at q0
            go_wp2_with (first | (go_at_call 52; refine (l00In_yes _ _ _ (by omega) _).mono ?_; rintro e w2 ⟨rfl, rfl⟩))
            go_ret
            exact ⟨by rw [HF.out]; rfl, HB.out⟩
          · have hcf : a.c = true := hcv.trans t1
            have t1' : (xj.k != 1) = false := by simp [bne, t1]
            have CH := Lib.hid hcf
            clear hcv hcf
            have FH := Lib.hid F1
            have GH := Lib.hid F2
            have IH := Lib.hid F3
            have JH := Lib.hid hkb
            clear F1 F2 F3 hkb
            go_enter Tryz.func156, Tryz.ntmps156
            go_wp2_with fail
            refine (specKind_any w.heap.size 0 a.p E ce _ (by first | (simp [go_sem]; done) | simp [go_sem, hkk]) (by first | (simp [go_sem]; done) | simp [go_sem, hkn]) (by first | (simp [go_sem]; done) | simp [go_sem, hkk, hkn]) (by first | (simp [go_sem]; done) | simp [go_sem, hkk, hkn])).mono ?_
            rw [hkd.out]
            rintro e w1 ⟨rfl, hd⟩
            have q0 : w1.cell? ⟨w.heap.size, 0, none⟩ = some (.int .i64 a.p.k) := (cell_drawn hd _ _).trans (by first | (simp [go_sem]; done) | simp [go_sem, hkk])
            have q1 : w1.cell? ⟨w.heap.size, 1, none⟩ = some (.int .i64 a.p.n) := (cell_drawn hd _ _).trans (by first | (simp [go_sem]; done) | simp [go_sem, hkn])
            have q2 : w1.cell? ⟨w.heap.size, 2, none⟩ = some (.string a.p.nm) := (cell_drawn hd _ _).trans (by first | (simp [go_sem]; done) | simp [go_sem, hkk, hkn])
            have q3 : w1.cell? ⟨w.heap.size, 3, none⟩ = some (.slice E a.p.args.length ce) := (cell_drawn hd _ _).trans (by first | (simp [go_sem]; done) | simp [go_sem, hkk, hkn])
            have HB := Lib.hid (show Below w.heap.size w w1 from Below.trans (by repeat (first | exact Below.refl _ _ | refine Below.setCell ?_ (by simp) _ | refine Below.alloc ?_ (by simp <;> omega) _)) (hd.below _))
            have C1 : w1.cell? ⟨bd, od + 1, none⟩ = some (.int .i64 d.ps) := (HB.out.cell (p := ⟨bd, od + 1, none⟩) hbd).trans c1
            have C2 : w1.cell? ⟨bd, od + 2, none⟩ = some (.slice (some ⟨b1, o1, none⟩) d.body.length cb) := (HB.out.cell (p := ⟨bd, od + 2, none⟩) hbd).trans c2
            have L1 : w1.cell? ⟨b2, o2 + kn * 3 + 1, none⟩ = some (.int .i64 x2.ps) := (HB.out.cell (p := ⟨b2, o2 + kn * 3 + 1, none⟩) hb2w).trans l1
            rw [hkn] at q1
            have J0 : w1.cell? ⟨b1, o1 + j * 4, none⟩ = some (.int .i64 xj.k) := (HB.out.cell (p := ⟨b1, o1 + j * 4, none⟩) hbjw).trans j0
            clear hd
            rw [hkk] at q0
            have HRS := Lib.hid (show (trmB a.s a.p.args = true → rsn ls a = 0) ∧ (trmB a.s a.p.args = false → rsn ls a = 8) by constructor <;> (intro ht; unfold rsn; simp [JH.out, FH.out, GH.out, IH.out, hkk, CH.out, ht]))
            go_wp2_with (first | (go_at_call 52; refine (l00In_yes _ _ _ (by omega) _).mono ?_; rintro e w2 ⟨rfl, rfl⟩) | (go_at_call 128; refine (CS.out _ HB.out).mono ?_; rintro e w2 ⟨rfl, hd, hb⟩; have q0 := (cell_drawn hd w.heap.size 0).trans q0; have q3 := (cell_drawn hd w.heap.size 3).trans q3; have HB := Lib.hid hb; clear hd hb))
            go_loopw [10] (fun i wr => ∃ k : Nat, k ≤ a.p.args.length ∧ i = .int .i64 k ∧ Hid (Below w.heap.size w wr) ∧ Hid (wr.cell? ⟨w.heap.size, 3, none⟩ = some (.slice E a.p.args.length ce)) ∧ Hid (trmB a.s (a.p.args.take k) = true)) (fun i _ => a.p.args.length - (intOf i).toNat)
            case atStart => exact ⟨0, Nat.zero_le _, rfl, HB, Lib.hid q3, Lib.hid (by simp [trmB])⟩
            case round =>
              obtain ⟨k, hk, rfl, HBr, HQ, HT⟩ := hrel
              have q3r := HQ.out
              by_cases hlt : k < a.p.args.length
              · obtain ⟨b5, o5, cs5, e5, rfl, hb5, hR5, hx5, hc5⟩ := (HR.out.keep (SameOn.of_below HBr.out HS.out)).at_ (k := k) hlt
                obtain ⟨A5, c5, rfl, hl5, hm5, hr5⟩ := hR5
                have q5 : wr.cell? ⟨b5, o5 + k, none⟩ = some (.slice A5 e5.length c5) := by have := hc5 0 _ rfl; simpa [listR] using this
                have CI := l03Is_any A5 e5.length c5 e5 a.s 15 wr wr.heap.size (hr5.trow fun b hb => Nat.lt_of_lt_of_le (HS.out b hb) HBr.out.size) rfl (by have := (HOK.out.2 e5 (List.mem_of_getElem? hx5.out)).1; omega) (by omega) (by omega)
                clear hc5 hr5
                rcases t : exB a.s 15 e5 with _ | _
                · have HF := Lib.hid (show rsn ls a = 8 from HRS.out.2 (trm_bad hx5.out t))
                  rw [t] at CI
                  have C := Lib.hid CI
                  clear CI t
                  go_wp2_with (go_at_call 169; refine C.out.mono ?_; rintro e w3 ⟨rfl, rfl⟩)
                  go_ret
                  exact ⟨by rw [HF.out]; rfl, HBr.out⟩
                · have HN := Lib.hid (trm_next HT.out hx5.out t)
                  rw [t] at CI
                  have C := Lib.hid CI
                  clear CI t
                  go_wp2_with (go_at_call 169; refine C.out.mono ?_; rintro e w3 ⟨rfl, rfl⟩)
                  go_roundw
                  case rel => exact ⟨k + 1, by omega, by go_num, HBr, HQ, HN⟩
                  case measure => simp [intOf]; omega
              · have hke : k = a.p.args.length := by omega
                have HF := Lib.hid (show rsn ls a = 0 from HRS.out.1 (by
                  have ht := HT.out
                  rwa [hke, List.take_length] at ht))
                go_wp2
                go_ret
                exact ⟨by rw [HF.out]; rfl, HBr.out⟩
      · have F3 : cntB ls a.p = false := by unfold cntB; rw [if_neg (by omega), if_neg (by omega), if_pos hkk, hgd]; simpa using tc
        have HF := Lib.hid (show rsn ls a = 5 by unfold rsn; simp [hkb, F1, F2, F3])
        clear hkb F1 F2 F3 hgd hn5
        have hkl : kn < n := by have := (List.getElem?_eq_some_iff.1 hx2.out).1; omega
        go_enter Tryz.func156, Tryz.ntmps156
        go_wp2_with fail
        refine (specKind_any w.heap.size 0 a.p E ce _ (by first | (simp [go_sem]; done) | simp [go_sem, hkk]) (by first | (simp [go_sem]; done) | simp [go_sem, hkn]) (by first | (simp [go_sem]; done) | simp [go_sem, hkk, hkn]) (by first | (simp [go_sem]; done) | simp [go_sem, hkk, hkn])).mono ?_
        rw [hkd.out]
        rintro e w1 ⟨rfl, hd⟩
        have q0 : w1.cell? ⟨w.heap.size, 0, none⟩ = some (.int .i64 a.p.k) := (cell_drawn hd _ _).trans (by first | (simp [go_sem]; done) | simp [go_sem, hkk])
        have q1 : w1.cell? ⟨w.heap.size, 1, none⟩ = some (.int .i64 a.p.n) := (cell_drawn hd _ _).trans (by first | (simp [go_sem]; done) | simp [go_sem, hkn])
        have q2 : w1.cell? ⟨w.heap.size, 2, none⟩ = some (.string a.p.nm) := (cell_drawn hd _ _).trans (by first | (simp [go_sem]; done) | simp [go_sem, hkk, hkn])
        have q3 : w1.cell? ⟨w.heap.size, 3, none⟩ = some (.slice E a.p.args.length ce) := (cell_drawn hd _ _).trans (by first | (simp [go_sem]; done) | simp [go_sem, hkk, hkn])
        have HB := Lib.hid (show Below w.heap.size w w1 from Below.trans (by repeat (first | exact Below.refl _ _ | refine Below.setCell ?_ (by simp) _ | refine Below.alloc ?_ (by simp <;> omega) _)) (hd.below _))
        have C1 : w1.cell? ⟨bd, od + 1, none⟩ = some (.int .i64 d.ps) := (HB.out.cell (p := ⟨bd, od + 1, none⟩) hbd).trans c1
        have C2 : w1.cell? ⟨bd, od + 2, none⟩ = some (.slice (some ⟨b1, o1, none⟩) d.body.length cb) := (HB.out.cell (p := ⟨bd, od + 2, none⟩) hbd).trans c2
        have L1 : w1.cell? ⟨b2, o2 + kn * 3 + 1, none⟩ = some (.int .i64 x2.ps) := (HB.out.cell (p := ⟨b2, o2 + kn * 3 + 1, none⟩) hb2w).trans l1
        rw [hkn] at q1
        clear hd
        rw [hkk] at q0
        go_wp2_with (first | (go_at_call 52; refine (l00In_yes _ _ _ (by omega) _).mono ?_; rintro e w2 ⟨rfl, rfl⟩))
        go_ret
        exact ⟨by rw [HF.out]; rfl, HB.out⟩
    · have F2 : numB ls a.p = false := by unfold numB; rw [if_neg (by omega), if_pos hkk]; exact decide_eq_false hn5
      have HF := Lib.hid (show rsn ls a = 4 by unfold rsn; simp [hkb, F1, F2])
      have hnl := LL.out
      clear hkb F1 F2
      go_enter Tryz.func156, Tryz.ntmps156
      go_wp2_with fail
      refine (specKind_any w.heap.size 0 a.p E ce _ (by first | (simp [go_sem]; done) | simp [go_sem, hkk]) (by first | (simp [go_sem]; done) | simp [go_sem, hkk]) (by first | (simp [go_sem]; done) | simp [go_sem, hkk]) (by first | (simp [go_sem]; done) | simp [go_sem, hkk])).mono ?_
      rw [hkd.out]
      rintro e w1 ⟨rfl, hd⟩
      have q0 : w1.cell? ⟨w.heap.size, 0, none⟩ = some (.int .i64 a.p.k) := (cell_drawn hd _ _).trans (by first | (simp [go_sem]; done) | simp [go_sem, hkk])
      have q1 : w1.cell? ⟨w.heap.size, 1, none⟩ = some (.int .i64 a.p.n) := (cell_drawn hd _ _).trans (by first | (simp [go_sem]; done) | simp [go_sem, hkk])
      have q2 : w1.cell? ⟨w.heap.size, 2, none⟩ = some (.string a.p.nm) := (cell_drawn hd _ _).trans (by first | (simp [go_sem]; done) | simp [go_sem, hkk])
      have q3 : w1.cell? ⟨w.heap.size, 3, none⟩ = some (.slice E a.p.args.length ce) := (cell_drawn hd _ _).trans (by first | (simp [go_sem]; done) | simp [go_sem, hkk])
      have HB := Lib.hid (show Below w.heap.size w w1 from Below.trans (by repeat (first | exact Below.refl _ _ | refine Below.setCell ?_ (by simp) _ | refine Below.alloc ?_ (by simp <;> omega) _)) (hd.below _))
      have C1 : w1.cell? ⟨bd, od + 1, none⟩ = some (.int .i64 d.ps) := (HB.out.cell (p := ⟨bd, od + 1, none⟩) hbd).trans c1
      have C2 : w1.cell? ⟨bd, od + 2, none⟩ = some (.slice (some ⟨b1, o1, none⟩) d.body.length cb) := (HB.out.cell (p := ⟨bd, od + 2, none⟩) hbd).trans c2
      clear hd
      rw [hkk] at q0
      go_wp2_with (first | (go_at_call 52; refine (l00In_no _ _ _ (by omega) _).mono ?_; rintro e w2 ⟨rfl, rfl⟩))
      go_ret
      exact ⟨by rw [HF.out]; rfl, HB.out⟩
end Go.Proofs.YtdgcpaeneafejaaGreatDoor
