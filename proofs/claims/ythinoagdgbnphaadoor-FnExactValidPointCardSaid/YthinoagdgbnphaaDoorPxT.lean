/- Scopes and kinds of parts: the model's functions. -/
import Derived.Test.YthinoagdgbnphaaDoorPxS
namespace Go.Proofs.YthinoagdgbnphaaDoor
open Go.RowKit
theorem sc_step {l : List An} {i : Nat} {a : An} {n : Nat} (h : l[i]? = some a) : sc (l.take (i + 1)) n = sc (l.take i) n + (if n < a.e then sm a.p else 0) := by
  obtain ⟨hlt, e⟩ := List.getElem?_eq_some_iff.1 h
  rw [List.take_succ_eq_append_getElem hlt, sc_app, e]
  simp [sc]
set_option maxRecDepth 100000 in
set_option maxHeartbeats 1600000 in
theorem specScope_any (bd od : Nat) (d : Df) (B : Option Addr) (cb part : Nat) (a : An) (w : World) (S : Nat → Prop) (c1 : w.cell? ⟨bd, od + 1, none⟩ = some (.int .i64 d.ps)) (c2 : w.cell? ⟨bd, od + 2, none⟩ = some (.slice B d.body.length cb)) (h : LRow ptR w S B d.body) (sh : shapeB d.body = true) (p0 : 0 ≤ d.ps) (p3 : d.ps ≤ 3) (ha : (annOf d)[part]? = some a) :
    Calls Tryd.prog 26 #[.pointer (some ⟨bd, od, none⟩), .int .i64 part] w fun e w' => e = .returned (.int .i64 a.s) ∧ Drawn w w' := by
  have HA := Lib.hid ha
  have SH := Lib.hid sh
  have h20 : d.body.length ≤ 20 := by have := (pxOf_ok sh).2.2; rw [← Px.flat_len, (pxOf_ok sh).1] at this; exact this
  have hpl : part < d.body.length := by have := (List.getElem?_eq_some_iff.1 ha).1; rwa [annOf_len sh] at this
  clear ha sh
  go_enter Tryd.func26, Tryd.ntmps26
  go_wp2
  go_loopw [5, 6] (fun r i wr => ∃ (k : Nat) (q : Int), k ≤ part ∧ i = .int .i64 k ∧ r = .int .i64 q ∧ d.ps ≤ q ∧ q ≤ d.ps + k ∧ Hid (Drawn w wr) ∧ Hid (q = d.ps + sc ((annOf d).take k) part)) (fun _ i _ => part - (intOf i).toNat)
  case atStart => exact ⟨0, d.ps, Nat.zero_le _, rfl, rfl, by omega, by omega, Lib.hid (Drawn.refl _), Lib.hid (by simp [sc])⟩
  case round =>
    obtain ⟨k, q, hk, rfl, rfl, hq0, hq1, HD, HE⟩ := hrel
    by_cases hlt : k < part
    · obtain ⟨b1, o1, cs1, x, rfl, hb1, hR1, hx, hc1⟩ := (h.keep (SameOn.of_drawn HD.out)).at_ (k := k) (by omega)
      obtain ⟨B1, d1, rfl, hz1, hlc1, hcm1, hr1⟩ := hR1
      have p1 : wr.cell? ⟨b1, o1 + k * 4, none⟩ = some (.int .i64 x.k) := hc1 0 _ rfl
      have hkb : k < d.body.length := by omega
      have C1 : wr.cell? ⟨bd, od + 1, none⟩ = some (.int .i64 d.ps) := (SameOn.of_drawn (S := fun _ => True) HD.out bd (od + 1) trivial).trans c1
      have C2 : wr.cell? ⟨bd, od + 2, none⟩ = some (.slice (some ⟨b1, o1, none⟩) d.body.length cb) := (SameOn.of_drawn (S := fun _ => True) HD.out bd (od + 2) trivial).trans c2
      obtain ⟨b, hb⟩ : ∃ b, (annOf d)[k]? = some b := ⟨_, List.getElem?_eq_getElem (by rw [annOf_len SH.out]; omega)⟩
      have hbx : b.p = x := by have := (annOf_part SH.out hb).symm.trans hx.out; injection this
      have hst := sc_step (n := part) hb
      rw [hbx] at hst
      have hen := annOf_end SH.out hb
      have hbe : b.e ≤ d.body.length := annOf_le SH.out (List.mem_of_getElem? hb)
      have hep : 0 < (b.e : Int) := by
        rcases Nat.eq_zero_or_pos b.e with e | e
        · exfalso
          have hs := Px.ann_end (pxOf d.body) 0 d.ps false [] k b (pxOf_ok SH.out).2.1 hb
          have hx2 := annOf_scope SH.out hb
          rw [List.append_nil, (pxOf_ok SH.out).1, Nat.zero_add] at hs
          rw [e] at hs
          exact pf_ne_zero hs
        · omega
      have CE := Lib.hid (specEnd_any (some ⟨b1, o1, none⟩) d.body.length cb d.body k b.e wr S (h.keep (SameOn.of_drawn HD.out)) rfl h20 hen hep (by omega))
      clear hc1 hr1 hz1 hlc1 hcm1 hb hen
      by_cases h4 : x.k = 4
      · have e4 : (x.k == 4) = true := ib_eq h4
        have hsm : sm x = 1 := by unfold sm; rw [if_pos h4]
        rw [hsm] at hst
        by_cases hgt : part < b.e
        · rw [if_pos hgt] at hst
          have HN := Lib.hid (show q + 1 = d.ps + sc ((annOf d).take (k + 1)) part by rw [hst, HE.out]; omega)
          have hg : (part : Int) < (b.e : Int) := by omega
          clear hst hsm h4
          go_wp2_with (go_at_call 41; refine CE.out.mono ?_; rintro e w2 ⟨rfl, hd⟩; have HD2 := Lib.hid (HD.out.trans hd); clear hd)
          go_roundw
          case rel => exact ⟨k + 1, q + 1, by omega, by go_num, rfl, by omega, by omega, HD2, HN⟩
          case measure => simp [intOf]; omega
        · rw [if_neg hgt] at hst
          have HN := Lib.hid (show q = d.ps + sc ((annOf d).take (k + 1)) part by rw [hst, HE.out]; omega)
          have hg : ¬ (part : Int) < (b.e : Int) := by omega
          clear hst hsm h4
          go_wp2_with (go_at_call 41; refine CE.out.mono ?_; rintro e w2 ⟨rfl, hd⟩; have HD2 := Lib.hid (HD.out.trans hd); clear hd)
          go_roundw
          case rel => exact ⟨k + 1, q, by omega, by go_num, rfl, by omega, by omega, HD2, HN⟩
          case measure => simp [intOf]; omega
      · have e4 : (x.k == 4) = false := ib_ne h4
        have hsm : sm x = 0 := by unfold sm; rw [if_neg h4]
        have HN := Lib.hid (show q = d.ps + sc ((annOf d).take (k + 1)) part by rw [hst, hsm, HE.out]; split <;> omega)
        clear hst hsm h4
        go_wp2
        go_roundw
        case rel => exact ⟨k + 1, q, by omega, by go_num, rfl, by omega, by omega, HD, HN⟩
        case measure => simp [intOf]; omega
    · obtain rfl : k = part := by omega
      have HF := Lib.hid (show q = a.s by rw [annOf_scope SH.out HA.out]; exact HE.out)
      go_wp2
      go_ret
      exact ⟨by rw [← HF.out]; rfl, HD.out⟩
end Go.Proofs.YthinoagdgbnphaaDoor
