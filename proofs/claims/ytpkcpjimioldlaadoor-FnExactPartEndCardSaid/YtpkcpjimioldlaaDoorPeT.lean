/- The end and the scope of a part: the model. -/
import Derived.Test.YtpkcpjimioldlaaDoorPeS
namespace Go.Proofs.YtpkcpjimioldlaaDoor
open Go.RowKit
theorem askC_zero {ls : List Df} {k part : Int} (h : askC ls k part = 0) : vdB ls = true ∧ ∃ (j i : Nat) (d : Df), k = j ∧ part = i ∧ ls[j]? = some d ∧ i < d.body.length := by
  unfold askC at h
  rcases hv : vdB ls with _ | _
  · rw [if_pos hv] at h; omega
  rw [if_neg (by rw [hv]; simp)] at h
  rcases hk : idxB k ls.length with _ | _
  · rw [if_pos hk] at h; omega
  rw [if_neg (by rw [hk]; simp)] at h
  obtain ⟨j, rfl, hj⟩ := idxB_yes hk
  obtain ⟨d, hd⟩ : ∃ d, ls[j]? = some d := ⟨_, List.getElem?_eq_getElem hj⟩
  rw [List.getD_eq_getElem?_getD, Int.toNat_natCast, hd] at h
  rcases hp : idxB part d.body.length with _ | _
  · rw [if_pos (by exact hp)] at h; omega
  obtain ⟨i, rfl, hi⟩ := idxB_yes hp
  exact ⟨rfl, j, i, d, rfl, rfl, hd, hi⟩
set_option maxRecDepth 100000 in
set_option maxHeartbeats 2000000 in
theorem specPartEnd_any (A : Option Addr) (n c : Nat) (ls : List Df) (k part : Int) (w : World) (S : Nat → Prop) (h : LRow dfR w S A ls) (l : ls.length = n) (hS : ∀ b, S b → b < w.heap.size) (hok : okList okDf ls) :
    Calls Tryd.prog 11 #[.slice A n c, .int .i64 k, .int .i64 part] w fun e w' => e = .returned (.tuple #[.int .i64 (peR ls k part).1, .int .i64 (peR ls k part).2]) ∧ Below w.heap.size w w' := by
  subst l
  by_cases hz : askC ls k part = 0
  · obtain ⟨tv, j, i, d0, rfl, rfl, hd0, hi⟩ := askC_zero hz
    have hj := (List.getElem?_eq_some_iff.1 hd0).1
    obtain ⟨hl4, hp0, hp3, hsh⟩ := vdB_parts tv hd0
    have h20 := (pxOf_ok hsh).2.2
    rw [← Px.flat_len, (pxOf_ok hsh).1] at h20
    obtain ⟨a, ha⟩ : ∃ a, (annOf d0)[i]? = some a := ⟨_, List.getElem?_eq_getElem (by rw [annOf_len hsh]; exact hi)⟩
    have HF := Lib.hid (peR_ok tv hd0 hi ha)
    have CA := Lib.hid (specAsk_any A _ c ls j i w S h rfl hS hok)
    have HZ := Lib.hid hz
    have HA := Lib.hid ha
    have HR := Lib.hid h
    have HS := Lib.hid hS
    have HD := Lib.hid hd0
    have HSH := Lib.hid hsh
    clear hok tv hz ha h hS hd0 hsh
    go_enter Tryd.func11, Tryd.ntmps11
    go_wp2_with fail
    refine CA.out.mono ?_
    rw [HZ.out]
    rintro e w2 ⟨rfl, hb⟩
    have hsz := hb.size
    have HB := Lib.hid hb
    obtain ⟨b0, o0, cs0, d, rfl, hb0, hR0, hd, hc0⟩ := (HR.out.keep (SameOn.of_below hb HS.out)).at_ (k := j) hj
    obtain rfl : d = d0 := by have := hd.out.symm.trans HD.out; injection this
    obtain ⟨B, cb, rfl, _, _, _, hrb⟩ := hR0
    have z0 : w2.cell? ⟨b0, o0 + j * 3, none⟩ = some (.string d.nm) := hc0 0 _ rfl
    have z1 : w2.cell? ⟨b0, o0 + j * 3 + 1, none⟩ = some (.int .i64 d.ps) := hc0 1 _ rfl
    have z2 : w2.cell? ⟨b0, o0 + j * 3 + 2, none⟩ = some (.slice B d.body.length cb) := hc0 2 _ rfl
    have l0 : b0 < w2.heap.size := World.block_lt_of_cell? w2 _ z0
    have he := annOf_end HSH.out HA.out
    have hpos : 0 < (a.e : Int) := by
      rcases pf_pos (d.body.drop i) 1 i (by omega) with h1 | h1 <;> rw [he] at h1 <;> omega
    have C := Lib.hid (fun (W : World) (hW : Drawn w2 W) => specEnd_any B d.body.length cb d.body i a.e W S (hrb.keep (SameOn.of_drawn hW)) rfl h20 he hpos (by omega))
    clear hc0 hrb hb
    go_wp2_with (go_at_call 22; refine (C.out _ (by first | exact Drawn.refl _ | exact (Drawn.refl _).drew)).mono ?_; rintro e w3 ⟨rfl, hd3⟩; have HB3 := Lib.hid (HB.out.trans ((hd3.below _).mono (by exact hsz))); clear hd3)
    go_ret2
    exact ⟨by rw [HF.out]; rfl, HB3.out⟩
  · have HF := Lib.hid (peR_bad (ls := ls) (k := k) (part := part) rfl hz)
    have CA := Lib.hid (specAsk_any A _ c ls k part w S h rfl hS hok)
    have hzb : (askC ls k part != 0) = true := by simpa using hz
    clear h hS hok hz
    go_enter Tryd.func11, Tryd.ntmps11
    go_wp2_with (go_at_call 21; refine CA.out.mono ?_; rintro e w2 ⟨rfl, hb⟩; have HB := Lib.hid hb; clear hb)
    go_ret2
    exact ⟨by rw [HF.out]; rfl, HB.out⟩
set_option maxRecDepth 100000 in
set_option maxHeartbeats 2000000 in
theorem specScopeAt_any (A : Option Addr) (n c : Nat) (ls : List Df) (k part : Int) (w : World) (S : Nat → Prop) (h : LRow dfR w S A ls) (l : ls.length = n) (hS : ∀ b, S b → b < w.heap.size) (hok : okList okDf ls) :
    Calls Tryd.prog 13 #[.slice A n c, .int .i64 k, .int .i64 part] w fun e w' => e = .returned (.tuple #[.int .i64 (saR ls k part).1, .int .i64 (saR ls k part).2]) ∧ Below w.heap.size w w' := by
  subst l
  by_cases hz : askC ls k part = 0
  · obtain ⟨tv, j, i, d0, rfl, rfl, hd0, hi⟩ := askC_zero hz
    have hj := (List.getElem?_eq_some_iff.1 hd0).1
    obtain ⟨hl4, hp0, hp3, hsh⟩ := vdB_parts tv hd0
    have h20 := (pxOf_ok hsh).2.2
    rw [← Px.flat_len, (pxOf_ok hsh).1] at h20
    obtain ⟨a, ha⟩ : ∃ a, (annOf d0)[i]? = some a := ⟨_, List.getElem?_eq_getElem (by rw [annOf_len hsh]; exact hi)⟩
    have HF := Lib.hid (saR_ok tv hd0 hi ha)
    have CA := Lib.hid (specAsk_any A _ c ls j i w S h rfl hS hok)
    have HZ := Lib.hid hz
    have HA := Lib.hid ha
    have HR := Lib.hid h
    have HS := Lib.hid hS
    have HD := Lib.hid hd0
    have HSH := Lib.hid hsh
    clear hok tv hz ha h hS hd0 hsh
    go_enter Tryd.func13, Tryd.ntmps13
    go_wp2_with fail
    refine CA.out.mono ?_
    rw [HZ.out]
    rintro e w2 ⟨rfl, hb⟩
    have hsz := hb.size
    have HB := Lib.hid hb
    obtain ⟨b0, o0, cs0, d, rfl, hb0, hR0, hd, hc0⟩ := (HR.out.keep (SameOn.of_below hb HS.out)).at_ (k := j) hj
    obtain rfl : d = d0 := by have := hd.out.symm.trans HD.out; injection this
    obtain ⟨B, cb, rfl, _, _, _, hrb⟩ := hR0
    have z0 : w2.cell? ⟨b0, o0 + j * 3, none⟩ = some (.string d.nm) := hc0 0 _ rfl
    have z1 : w2.cell? ⟨b0, o0 + j * 3 + 1, none⟩ = some (.int .i64 d.ps) := hc0 1 _ rfl
    have z2 : w2.cell? ⟨b0, o0 + j * 3 + 2, none⟩ = some (.slice B d.body.length cb) := hc0 2 _ rfl
    have l0 : b0 < w2.heap.size := World.block_lt_of_cell? w2 _ z0
    have C := Lib.hid (fun (W : World) (hW : Drawn w2 W) => specScope_any b0 (o0 + j * 3) d B cb i a W S ((hW.below _).cell (p := ⟨_, _, none⟩) l0 |>.trans z1) ((hW.below _).cell (p := ⟨_, _, none⟩) l0 |>.trans z2) (hrb.keep (SameOn.of_drawn hW)) HSH.out hp0 hp3 HA.out)
    clear hc0 hrb hb
    go_wp2_with (go_at_call 24; refine (C.out _ (by first | exact Drawn.refl _ | exact (Drawn.refl _).drew)).mono ?_; rintro e w3 ⟨rfl, hd3⟩; have HB3 := Lib.hid (HB.out.trans ((hd3.below _).mono (by exact hsz))); clear hd3)
    go_ret2
    exact ⟨by rw [HF.out]; rfl, HB3.out⟩
  · have HF := Lib.hid (saR_bad (ls := ls) (k := k) (part := part) rfl hz)
    have CA := Lib.hid (specAsk_any A _ c ls k part w S h rfl hS hok)
    have hzb : (askC ls k part != 0) = true := by simpa using hz
    clear h hS hok hz
    go_enter Tryd.func13, Tryd.ntmps13
    go_wp2_with (go_at_call 21; refine CA.out.mono ?_; rintro e w2 ⟨rfl, hb⟩; have HB := Lib.hid hb; clear hb)
    go_ret2
    exact ⟨by rw [HF.out]; rfl, HB.out⟩
end Go.Proofs.YtpkcpjimioldlaaDoor
