/- Bodies and definitions: the model's functions. -/
/- Definitions: the model's functions. -/
import Derived.Test.YtdgcpaeneafejaaGreatDoorPxV
import Derived.BigQuiet
namespace Go.Proofs.YtdgcpaeneafejaaGreatDoor
open Go.RowKit
set_option maxRecDepth 100000 in
set_option maxHeartbeats 4000000 in
theorem specBody_any (A : Option Addr) (n c : Nat) (ls : List Df) (bd od : Nat) (d : Df) (B : Option Addr) (cb : Nat) (w : World) (S : Nat → Prop) (h : LRow dfR w S A ls) (l : ls.length = n) (hn : n ≤ 4) (c1 : w.cell? ⟨bd, od + 1, none⟩ = some (.int .i64 d.ps)) (c2 : w.cell? ⟨bd, od + 2, none⟩ = some (.slice B d.body.length cb)) (hbd : bd < w.heap.size) (g : LRow ptR w S B d.body) (hS : ∀ b, S b → b < w.heap.size) (p0 : 0 ≤ d.ps) (p3 : d.ps ≤ 3) (hok : okList okPt d.body) :
    Calls Tryz.prog 131 #[.slice A n c, .pointer (some ⟨bd, od, none⟩)] w fun e w' => e = .returned (.tuple #[.int .i64 (bodyF ls d).1, .int .i64 (bodyF ls d).2]) ∧ Below w.heap.size w w' := by
  have CH := Lib.hid (specShape_any B d.body.length cb d.body w S g rfl)
  rcases sh : shapeB d.body with _ | _
  · have HF := Lib.hid (show bodyF ls d = (0, 1) by unfold bodyF; rw [if_neg (by rw [sh]; simp)])
    rw [sh] at CH
    clear sh h g
    go_enter Tryz.func131, Tryz.ntmps131
    go_wp2_with (go_at_call 155; refine CH.out.mono ?_; rintro e w1 ⟨rfl, hd⟩; have HB := Lib.hid (hd.below w.heap.size); clear hd)
    go_ret2
    exact ⟨by rw [HF.out]; rfl, HB.out⟩
  have HBF := Lib.hid (show bodyF ls d = firstR ls (annOf d) 0 by unfold bodyF; rw [if_pos sh])
  rw [sh] at CH
  have SH := Lib.hid sh
  have h20 : d.body.length ≤ 20 := by have := (pxOf_ok sh).2.2; rw [← Px.flat_len, (pxOf_ok sh).1] at this; exact this
  have HAL := Lib.hid (annOf_len sh)
  have HL := Lib.hid h
  have HG := Lib.hid g
  have HS := Lib.hid hS
  have HOK := Lib.hid hok.2
  have LL := Lib.hid l
  clear sh h g hS hok l
  go_enter Tryz.func131, Tryz.ntmps131
  go_wp2_with (go_at_call 155; refine CH.out.mono ?_; rintro e w1 ⟨rfl, hd⟩; have HB := Lib.hid (hd.below w.heap.size); clear hd)
  have C1 : w1.cell? ⟨bd, od + 1, none⟩ = some (.int .i64 d.ps) := (HB.out.cell (p := ⟨bd, od + 1, none⟩) hbd).trans c1
  have C2 : w1.cell? ⟨bd, od + 2, none⟩ = some (.slice B d.body.length cb) := (HB.out.cell (p := ⟨bd, od + 2, none⟩) hbd).trans c2
  go_loopw [6, 7] (fun i _ wr => ∃ k : Nat, k ≤ d.body.length ∧ i = .int .i64 k ∧ Hid (Below w.heap.size w wr) ∧ Hid (bodyF ls d = firstR ls ((annOf d).drop k) k)) (fun i _ _ => d.body.length - (intOf i).toNat)
  case atStart => exact ⟨0, Nat.zero_le _, rfl, HB, Lib.hid (by rw [HBF.out, List.drop_zero]; rfl)⟩
  case round =>
    clear C1 C2 HB
    obtain ⟨k, hk, rfl, HB, HE⟩ := hrel
    have C1 : wr.cell? ⟨bd, od + 1, none⟩ = some (.int .i64 d.ps) := (HB.out.cell (p := ⟨bd, od + 1, none⟩) hbd).trans c1
    have C2 : wr.cell? ⟨bd, od + 2, none⟩ = some (.slice B d.body.length cb) := (HB.out.cell (p := ⟨bd, od + 2, none⟩) hbd).trans c2
    by_cases hlt : k < d.body.length
    · obtain ⟨a, ha⟩ : ∃ a, (annOf d)[k]? = some a := ⟨_, List.getElem?_eq_getElem (by rw [HAL.out]; exact hlt)⟩
      have hpa := annOf_part SH.out ha
      have hst := HE.out.trans (firstR_drop (ls := ls) (k : Int) ha)
      have CRr := specReason_any A n c ls bd od d B cb k a wr S (HL.out.keep (SameOn.of_below HB.out HS.out)) LL.out hn C1 C2 (Nat.lt_of_lt_of_le hbd HB.out.size) (HG.out.keep (SameOn.of_below HB.out HS.out)) (fun b hb => Nat.lt_of_lt_of_le (HS.out b hb) HB.out.size) SH.out p0 p3 ha (HOK.out a.p (List.mem_of_getElem? hpa))
      have hr0 := rsn_nonneg ls a
      obtain ⟨r, hr⟩ : ∃ r, r = rsn ls a := ⟨_, rfl⟩
      rw [← hr] at hst CRr hr0
      have C := Lib.hid CRr
      clear CRr hr ha hpa
      by_cases hz : r = 0
      · rw [if_pos hz] at hst
        have HN := Lib.hid (show bodyF ls d = firstR ls ((annOf d).drop (k + 1)) ((k + 1 : Nat) : Int) by rw [hst]; rfl)
        have hg : ¬ (0 : Int) < r := by omega
        clear hst hz
        go_wp2_with (go_at_call 156; refine C.out.mono ?_; rintro e w2 ⟨rfl, hb⟩; have HB2 := Lib.hid (HB.out.trans (hb.mono HB.out.size)); clear hb)
        go_roundw
        case rel => exact ⟨k + 1, by omega, by go_num, HB2, HN⟩
        case measure => simp [intOf]; omega
      · rw [if_neg hz] at hst
        have HF := Lib.hid hst
        have hg : (0 : Int) < r := by omega
        clear hst hz
        go_wp2_with (go_at_call 156; refine C.out.mono ?_; rintro e w2 ⟨rfl, hb⟩; have HB2 := Lib.hid (HB.out.trans (hb.mono HB.out.size)); clear hb)
        go_ret2
        exact ⟨by rw [HF.out]; rfl, HB2.out⟩
    · have HF := Lib.hid (show bodyF ls d = (0, 0) by rw [HE.out, List.drop_of_length_le (by rw [HAL.out]; omega)]; rfl)
      go_wp2
      go_ret2
      exact ⟨by rw [HF.out]; rfl, HB.out⟩
end Go.Proofs.YtdgcpaeneafejaaGreatDoor

namespace Go.Proofs.YtdgcpaeneafejaaGreatDoor
open Go.RowKit
theorem firstR_nonneg (ls : List Df) : ∀ (l : List An) (i : Int), 0 ≤ (firstR ls l i).2 := by
  intro l
  induction l with
  | nil => intro i; exact Int.le_refl 0
  | cons a l ih =>
    intro i
    unfold firstR
    split
    · exact ih _
    · exact rsn_nonneg ls a
theorem bodyF_nonneg (ls : List Df) (d : Df) : 0 ≤ (bodyF ls d).2 := by
  unfold bodyF
  split
  · exact firstR_nonneg ls _ _
  · show (0 : Int) ≤ 1; omega
/-- The cells of definitions. -/
def DfAt (w : World) (S : Nat → Prop) (b o : Nat) (ls : List Df) : Prop :=
  ∀ (i : Nat) (d : Df), ls[i]? = some d → ∃ E ce, w.cell? ⟨b, o + i * 3, none⟩ = some (.string d.nm) ∧ w.cell? ⟨b, o + i * 3 + 1, none⟩ = some (.int .i64 d.ps) ∧ w.cell? ⟨b, o + i * 3 + 2, none⟩ = some (.slice E d.body.length ce) ∧ LRow ptR w S E d.body ∧ d.body.length ≤ ce ∧ ce ≤ maxLen
theorem dfs_at {w : World} {S : Nat → Prop} {A : Option Addr} {ls : List Df} (h : LRow dfR w S A ls) (hp : 0 < ls.length) : ∃ b o, A = some ⟨b, o, none⟩ ∧ S b ∧ DfAt w S b o ls := by
  obtain ⟨b, o, cs, x, rfl, hb, hR, hx, hc⟩ := h.at_ (k := 0) hp
  refine ⟨b, o, rfl, hb, fun i d hd => ?_⟩
  obtain ⟨b2, o2, cs2, x2, e2, hb2, hR2, hx2, hc2⟩ := h.at_ (k := i) (List.getElem?_eq_some_iff.1 hd).1
  obtain ⟨rfl, rfl⟩ : b = b2 ∧ o = o2 := by injection e2 with e2; injection e2 with e3 e4; exact ⟨e3, e4⟩
  obtain rfl : d = x2 := by have := hd.symm.trans hx2.out; injection this
  obtain ⟨E, ce, rfl, hz, hlc, hcm, hr⟩ := hR2
  exact ⟨E, ce, hc2 0 _ rfl, hc2 1 _ rfl, hc2 2 _ rfl, hr, hlc, hcm⟩
theorem DfAt.below {w w' : World} {S : Nat → Prop} {b o : Nat} {ls : List Df} (h : DfAt w S b o ls) (hb : Below w.heap.size w w') (hS : ∀ b, S b → b < w.heap.size) (hbS : S b) : DfAt w' S b o ls := by
  intro i d hd
  obtain ⟨E, ce, h0, h1, h2, h3, h4, h5⟩ := h i d hd
  have hlt := hS b hbS
  exact ⟨E, ce, (hb.cell (p := ⟨b, _, none⟩) hlt).trans h0, (hb.cell (p := ⟨b, _, none⟩) hlt).trans h1, (hb.cell (p := ⟨b, _, none⟩) hlt).trans h2, h3.keep (SameOn.of_below hb hS), h4, h5⟩
noncomputable def hdB (d : Df) : Bool := nameB d.nm.data.toList && decide (0 ≤ d.ps ∧ d.ps ≤ 3)
theorem headB_eq (ls : List Df) : headB ls = ls.all hdB := rfl
theorem take_all {p : Df → Bool} {ls : List Df} {k : Nat} {d : Df} (h : (ls.take k).all p = true) (hd : ls[k]? = some d) (hp : p d = true) : (ls.take (k + 1)).all p = true := by
  obtain ⟨hlt, q⟩ := List.getElem?_eq_some_iff.1 hd
  rw [List.take_succ_eq_append_getElem hlt, List.all_append, h, q]
  simp [hp]
theorem all_bad {p : Df → Bool} {ls : List Df} {k : Nat} {d : Df} (hd : ls[k]? = some d) (hp : p d = false) : ls.all p = false := by
  rw [Bool.eq_false_iff]
  intro h
  rw [List.all_eq_true] at h
  have := h d (List.mem_of_getElem? hd)
  rw [hp] at this; cases this
def sameN (q d : Df) : Bool := q.nm.toList == d.nm.toList
theorem sameN_symm (q d : Df) : sameN q d = sameN d q := by
  unfold sameN
  rw [Bool.eq_iff_iff, beq_iff_eq, beq_iff_eq]
  exact ⟨Eq.symm, Eq.symm⟩
theorem diffB_cons (d : Df) (r : List Df) : diffB (d :: r) = (r.all (fun q => !(sameN q d)) && diffB r) := rfl
theorem diffB_snoc : ∀ (l : List Df) (q : Df), diffB (l ++ [q]) = (diffB l && l.all fun d => !(sameN d q)) := by
  intro l
  induction l with
  | nil => intro q; rfl
  | cons d l ih =>
    intro q
    rw [List.cons_append, diffB_cons, diffB_cons, ih, List.all_append, List.all_cons, List.all_cons, List.all_nil, sameN_symm q d]
    cases l.all (fun q => !(sameN q d)) <;> cases diffB l <;> cases sameN d q <;> simp
theorem diffB_take {ls : List Df} {k : Nat} {d : Df} (h : diffB (ls.take k) = true) (hd : ls[k]? = some d) (hp : ((ls.take k).all fun q => !(sameN q d)) = true) : diffB (ls.take (k + 1)) = true := by
  obtain ⟨hlt, q⟩ := List.getElem?_eq_some_iff.1 hd
  rw [List.take_succ_eq_append_getElem hlt, diffB_snoc, h, q, hp]; rfl
theorem diffB_app {l r : List Df} (h : diffB (l ++ r) = true) : diffB l = true := by
  induction l with
  | nil => rfl
  | cons d l ih =>
    rw [List.cons_append, diffB_cons, List.all_append, Bool.and_eq_true, Bool.and_eq_true] at h
    rw [diffB_cons, h.1.1, ih h.2]; rfl
theorem diffB_bad {ls : List Df} {i j : Nat} {d q : Df} (hij : j < i) (hd : ls[i]? = some d) (hq : ls[j]? = some q) (he : sameN q d = true) : diffB ls = false := by
  rw [Bool.eq_false_iff]
  intro h
  obtain ⟨hlt, e⟩ := List.getElem?_eq_some_iff.1 hd
  have h2 : diffB (ls.take (i + 1)) = true := diffB_app (r := ls.drop (i + 1)) (by rw [List.take_append_drop]; exact h)
  rw [List.take_succ_eq_append_getElem hlt, diffB_snoc, e, Bool.and_eq_true] at h2
  have h3 := h2.2
  rw [List.all_eq_true] at h3
  have h4 := h3 q (List.mem_of_getElem? (i := j) (by rw [List.getElem?_take, if_pos hij]; exact hq))
  rw [he] at h4; cases h4
set_option maxRecDepth 100000 in
set_option maxHeartbeats 8000000 in
theorem specDefs_any (A : Option Addr) (n c : Nat) (ls : List Df) (w : World) (S : Nat → Prop) (h : LRow dfR w S A ls) (l : ls.length = n) (hS : ∀ b, S b → b < w.heap.size) (hok : okList okDf ls) :
    Calls Tryz.prog 112 #[.slice A n c] w fun e w' => e = .returned (.bool (vdB ls)) ∧ Below w.heap.size w w' := by
  by_cases h0 : n = 0
  · have HF := Lib.hid (show vdB ls = false by unfold vdB; rw [decide_eq_false (by omega)]; rfl)
    have e0 : ((n : Int) == 0) = true := ib_eq (by omega)
    clear h l h0
    go_enter Tryz.func112, Tryz.ntmps112
    go_wp2
    go_ret
    exact ⟨ret_bool HF.out.symm, by first | exact Below.refl _ _ | exact (Below.refl _ _).drew⟩
  have e0 : ((n : Int) == 0) = false := ib_ne (by omega)
  by_cases h4 : 4 < n
  · have HF := Lib.hid (show vdB ls = false by unfold vdB; rw [decide_eq_false (by omega)]; rfl)
    have e4 : (4 : Int) < (n : Int) := by omega
    clear h l h0
    go_enter Tryz.func112, Tryz.ntmps112
    go_wp2
    go_ret
    exact ⟨ret_bool HF.out.symm, by first | exact Below.refl _ _ | exact (Below.refl _ _).drew⟩
  have e4 : ¬ (4 : Int) < (n : Int) := by omega
  have HV := Lib.hid (show vdB ls = (ls.all hdB && (diffB ls && ls.all fun d => (bodyF ls d).2 == 0)) by unfold vdB; rw [decide_eq_true (by omega), headB_eq]; rfl)
  obtain ⟨b, o, rfl, hbS, hat⟩ := dfs_at h (by omega)
  have HAT := Lib.hid hat
  have HL := Lib.hid h
  have LL := Lib.hid l
  have HS := Lib.hid hS
  have HBS := Lib.hid hbS
  have HOK := Lib.hid hok.2
  clear h l hS hat hbS hok
  go_enter Tryz.func112, Tryz.ntmps112
  go_wp2
  go_loopw [3] (fun i wr => ∃ k : Nat, k ≤ n ∧ i = .int .i64 k ∧ Hid (Below w.heap.size w wr) ∧ Hid ((ls.take k).all hdB = true ∧ diffB (ls.take k) = true)) (fun i _ => n - (intOf i).toNat)
  case atStart => exact ⟨0, Nat.zero_le _, rfl, Lib.hid (by first | exact Below.refl _ _ | exact (Below.refl _ _).drew), Lib.hid ⟨by simp, rfl⟩⟩
  case round =>
    obtain ⟨k, hk, rfl, HB, HE⟩ := hrel
    by_cases hlt : k < n
    · obtain ⟨d, hd⟩ : ∃ d, ls[k]? = some d := ⟨_, List.getElem?_eq_getElem (by rw [LL.out]; exact hlt)⟩
      obtain ⟨E, ce, d0, d1, d2, _, _, _⟩ := (HAT.out.below HB.out HS.out HBS.out) k d hd
      have HD := Lib.hid hd
      clear hd
      rcases tn : nameB d.nm.data.toList with _ | _
      · have HF := Lib.hid (show vdB ls = false by rw [HV.out, all_bad HD.out (by unfold hdB; rw [tn]; rfl)]; rfl)
        have TN := Lib.hid tn
        clear tn
        go_wp2_with (go_at_call 72; refine (specName_any _ _).mono ?_; rw [TN.out]; rintro e w2 ⟨rfl, rfl⟩)
        go_ret
        exact ⟨ret_bool HF.out.symm, HB.out⟩
      have TN := Lib.hid tn
      by_cases hps : 0 ≤ d.ps ∧ d.ps ≤ 3
      rotate_left
      · have HF := Lib.hid (show vdB ls = false by rw [HV.out, all_bad HD.out (by unfold hdB; rw [decide_eq_false hps, Bool.and_false])]; rfl)
        clear tn
        go_wp2_with (first | (go_at_call 72; refine (specName_any _ _).mono ?_; rw [TN.out]; rintro e w2 ⟨rfl, rfl⟩) | (go_at_call 52; refine (l00In_no _ _ _ (by omega) _).mono ?_; rintro e w2 ⟨rfl, rfl⟩))
        go_ret
        exact ⟨ret_bool HF.out.symm, HB.out⟩
      have HH := Lib.hid (take_all HE.out.1 HD.out (by unfold hdB; rw [tn, decide_eq_true hps]; rfl))
      have HPS := Lib.hid hps
      clear tn
      go_wp2_with (first | (go_at_call 72; refine (specName_any _ _).mono ?_; rw [TN.out]; rintro e w2 ⟨rfl, rfl⟩) | (go_at_call 52; refine (l00In_yes _ _ _ (HPS.out) _).mono ?_; rintro e w2 ⟨rfl, rfl⟩))
      obtain ⟨wo, rfl⟩ : ∃ wo, wo = wr := ⟨_, rfl⟩
      have HBO := HB
      have HEO := HE
      clear d0 d1 d2 HB HE
      go_loopw [4] (fun i wr => ∃ j : Nat, j ≤ k ∧ i = .int .i64 j ∧ Hid (Below w.heap.size w wr) ∧ Hid (((ls.take j).all fun q => !(sameN q d)) = true)) (fun i _ => k - (intOf i).toNat)
      case atStart => exact ⟨0, Nat.zero_le _, rfl, HBO, Lib.hid (by simp)⟩
      case round =>
        obtain ⟨j, hj, rfl, HB, HE⟩ := hrel
        obtain ⟨E, ce, d0, d1, d2, _, _, _⟩ := (HAT.out.below HB.out HS.out HBS.out) k d HD.out
        by_cases hjt : j < k
        · obtain ⟨q, hq⟩ : ∃ q, ls[j]? = some q := ⟨_, List.getElem?_eq_getElem (by rw [LL.out]; omega)⟩
          obtain ⟨E2, ce2, f0, f1, f2, _, _, _⟩ := (HAT.out.below HB.out HS.out HBS.out) j q hq
          have hjn : j < n := by omega
          rcases ts : (q.nm.toList == d.nm.toList) with _ | _
          · have HN := Lib.hid (take_all (p := fun q => !(sameN q d)) HE.out hq (by show (!(sameN q d)) = true; unfold sameN; rw [ts]; rfl))
            have HDN := Lib.hid (fun n => HB.out.trans (below_drewN wr w.heap.size n))
            clear hq
            go_wp2
            go_quiet (fail)
            go_wp2
            go_roundw
            case rel => exact ⟨j + 1, by omega, by go_num, Lib.hid (by first | exact HDN.out _ | exact HB.out), HN⟩
            case measure => simp [intOf]; omega
          · have HF := Lib.hid (show vdB ls = false by rw [HV.out, diffB_bad hjt HD.out hq ts]; simp)
            have HDN := Lib.hid (fun n => HB.out.trans (below_drewN wr w.heap.size n))
            clear hq
            go_wp2
            go_quiet (fail)
            go_wp2
            go_ret
            exact ⟨ret_bool HF.out.symm, by first | exact HDN.out _ | exact HB.out⟩
        · obtain rfl : j = k := by omega
          have HN := Lib.hid (diffB_take HEO.out.2 HD.out HE.out)
          go_wp2
          go_roundw
          case rel => exact ⟨j + 1, by omega, by go_num, HB, Lib.hid ⟨HH.out, HN.out⟩⟩
          case measure => simp [intOf]; omega
    · obtain rfl : k = n := by omega
      have HHD := Lib.hid (show ls.all hdB = true ∧ diffB ls = true by have := HE.out; rwa [List.take_of_length_le (by rw [LL.out]; exact Nat.le_refl _)] at this)
      obtain ⟨wo, rfl⟩ : ∃ wo, wo = wr := ⟨_, rfl⟩
      have HBO := HB
      clear HB HE hlt hk
      go_wp2
      go_loopw [5] (fun i wr => ∃ j : Nat, j ≤ k ∧ i = .int .i64 j ∧ Hid (Below w.heap.size w wr) ∧ Hid (((ls.take j).all fun d => (bodyF ls d).2 == 0) = true)) (fun i _ => k - (intOf i).toNat)
      case atStart => exact ⟨0, Nat.zero_le _, rfl, HBO, Lib.hid (by simp)⟩
      case round =>
        obtain ⟨j, hj, rfl, HB, HE⟩ := hrel
        by_cases hjt : j < k
        · obtain ⟨d, hd⟩ : ∃ d, ls[j]? = some d := ⟨_, List.getElem?_eq_getElem (by rw [LL.out]; exact hjt)⟩
          obtain ⟨E, ce, d0, d1, d2, hr, _, _⟩ := (HAT.out.below HB.out HS.out HBS.out) j d hd
          have hdb : hdB d = true := (List.all_eq_true.1 HHD.out.1) d (List.mem_of_getElem? hd)
          unfold hdB at hdb
          rw [Bool.and_eq_true] at hdb
          have hps := of_decide_eq_true hdb.2
          have CB := specBody_any (some ⟨b, o, none⟩) k c ls b (o + j * 3) d E ce wr S (HL.out.keep (SameOn.of_below HB.out HS.out)) LL.out (by omega) d1 d2 (Nat.lt_of_lt_of_le (HS.out b HBS.out) HB.out.size) hr (fun b hb => Nat.lt_of_lt_of_le (HS.out b hb) HB.out.size) hps.1 hps.2 (HOK.out d (List.mem_of_getElem? hd)).2
          obtain ⟨p1, hp1⟩ : ∃ p, p = (bodyF ls d).1 := ⟨_, rfl⟩
          obtain ⟨p2, hp2⟩ : ∃ p, p = (bodyF ls d).2 := ⟨_, rfl⟩
          rw [← hp1, ← hp2] at CB
          have C := Lib.hid CB
          have hp0 : 0 ≤ p2 := by rw [hp2]; exact bodyF_nonneg ls d
          have HD := Lib.hid hd
          have HP := Lib.hid hp2
          clear CB hr d0 d1 d2 hd hp1 hp2 hdb hps
          by_cases hz : p2 = 0
          · have HN := Lib.hid (take_all (p := fun d => (bodyF ls d).2 == 0) HE.out HD.out (by show ((bodyF ls d).2 == 0) = true; rw [← HP.out, hz]; rfl))
            have hg : ¬ (0 : Int) < p2 := by omega
            clear hz
            go_wp2_with (go_at_call 131; refine C.out.mono ?_; rintro e w2 ⟨rfl, hb⟩; have HB2 := Lib.hid (HB.out.trans (hb.mono HB.out.size)); clear hb)
            go_roundw
            case rel => exact ⟨j + 1, by omega, by go_num, HB2, HN⟩
            case measure => simp [intOf]; omega
          · have HF := Lib.hid (show vdB ls = false by rw [HV.out, all_bad (p := fun d => (bodyF ls d).2 == 0) HD.out (by show ((bodyF ls d).2 == 0) = false; rw [← HP.out]; exact ib_ne hz)]; simp)
            have hg : (0 : Int) < p2 := by omega
            clear hz
            go_wp2_with (go_at_call 131; refine C.out.mono ?_; rintro e w2 ⟨rfl, hb⟩; have HB2 := Lib.hid (HB.out.trans (hb.mono HB.out.size)); clear hb)
            go_ret
            exact ⟨ret_bool HF.out.symm, HB2.out⟩
        · obtain rfl : j = k := by omega
          have HF := Lib.hid (show vdB ls = true by
            have e := HE.out
            rw [List.take_of_length_le (by rw [LL.out]; exact Nat.le_refl _)] at e
            rw [HV.out, HHD.out.1, HHD.out.2, e]; rfl)
          go_wp2
          go_ret
          exact ⟨ret_bool HF.out.symm, HB.out⟩
end Go.Proofs.YtdgcpaeneafejaaGreatDoor
