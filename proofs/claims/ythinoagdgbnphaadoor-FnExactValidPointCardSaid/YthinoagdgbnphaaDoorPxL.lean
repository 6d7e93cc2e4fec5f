/- Definitions: the program's look at them. -/
import Derived.Test.YthinoagdgbnphaaDoorPxK
import Derived.Test.YthinoagdgbnphaaDoorPxX
import Derived.Maps.OwnSet
import Derived.Maps.OwnOps
import Derived.StringKeys
namespace Go.Proofs.YthinoagdgbnphaaDoor
open Go.RowKit Go.Maps
theorem name_bytes (a b : ByteArray) : (a.toList == b.toList) = decide (a.data.toList = b.data.toList) := by
  rw [ByteArray.toList_eq, ByteArray.toList_eq]
  rw [Bool.eq_iff_iff, beq_iff_eq, decide_eq_true_iff]
def kS (s : ByteArray) : Lit := .string s.data.toList
theorem kS_key (s : ByteArray) : WideAt.IsKeyLit (kS s) := trivial
theorem kS_ne {a b : ByteArray} (h : (a.toList == b.toList) = false) : kS a ≠ kS b := by
  rw [name_bytes] at h
  intro e
  unfold kS at e
  injection e with e
  rw [e] at h; simp at h
theorem kS_eq {a b : ByteArray} (h : (a.toList == b.toList) = true) : kS a = kS b := by
  rw [name_bytes] at h
  unfold kS
  rw [of_decide_eq_true h]
/-- The map holds the names of a list of definitions. -/
def Named (D : DataW Unit) (l : List Df) : Prop := ∀ q : Df, D.atKey (kS q.nm) (.lit (.bool false)) = .lit (.bool (!(l.all fun d => !(sameN d q))))
theorem Named.nil : Named (.map []) [] := fun _ => rfl
theorem Named.snoc {D : DataW Unit} {l : List Df} (h : Named D l) (ht : Maps.IsMap D) (d : Df) : Named (D.put (kS d.nm) (.lit (.bool true))) (l ++ [d]) := by
  intro q
  rw [List.all_append, List.all_cons, List.all_nil, Bool.and_true]
  rcases e : sameN d q with _ | _
  · rw [Maps.atKey_put_other (fun e2 => kS_ne e e2.symm), h q]; simp
  · rw [← kS_eq e, Maps.atKey_put_same ht (kS_key _)]; simp
theorem plainElem_bool_inv {H : Type} {P : Program} {e : TypeId} (he : P.underlying e = some .bool) {v : Value} {z : DataW H × List MemPlace} (h : plainElem P e v = some z) : ∃ a, v = .bool a ∧ z = (.lit (.bool a), []) := by
  unfold plainElem at h
  rw [he] at h
  cases v <;> simp at h
  subst h
  exact ⟨_, rfl, rfl⟩
theorem lookup_bool {H : Type} {P : Program} {k e t : TypeId} {w : World} {b n : Nat} {D : DataW H} (h : w.ownsMap P k (plainElem P e) b n D) (K : Keyed P k) (ht : P.underlying t = some (.map k e)) (he : P.underlying e = some .bool) (hz : (zeroValue e).run P w = .ok (.bool false) w)
    {key : Value} {kl : Lit} (hkey : keyOf P k key = some kl) {x : Bool} (hx : D.atKey kl (.lit (.bool false)) = .lit (.bool x)) : (Instr.lookup t (.map (some b)) key false).run P w = .ok (.bool x) w := by
  obtain ⟨v, ps, hrun, hv⟩ := h.lookup K ht hz (plainElem_bool he false) hkey
  obtain ⟨c, rfl, hc⟩ := plainElem_bool_inv he hv
  simp only [Prod.mk.injEq] at hc
  rw [hx] at hc
  have := hc.1
  simp only [DataW.lit.injEq, Lit.bool.injEq] at this
  rw [this]; exact hrun
theorem owns_below {H : Type} {P : Program} {k : TypeId} {R : Value → Option (DataW H × List MemPlace)} {w w' : World} {b n : Nat} {D : DataW H} (h : w.ownsMap P k R b n D) (hb : Below w.heap.size w w') : w'.ownsMap P k R b n D :=
  h.kept (row := none) ⟨hb.os, hb.tape, hb.output, hb.size, fun k hk _ => hb.block k hk⟩ (by simp)
theorem zeroB (w : World) : (zeroValue 4).run Tryd.prog w = .ok (.bool false) w := by kernel_rfl
theorem ckV_yes {ls : List Df} {i : Nat} {d : Df} (h4 : ls.length ≤ 4) (hd : ls[i]? = some d) (hp : ls.all psB = true) (hb : (bodyF ls d).2 = 0) : ckV ls i = .nilIface := by
  have hi := (List.getElem?_eq_some_iff.1 hd).1
  unfold ckV idxB
  rw [if_neg (by omega), if_neg (by simp; exact hi), if_neg (by rw [hp]; simp), List.getD_eq_getElem?_getD, Int.toNat_natCast, hd]
  show pV (bodyF ls d) = _
  unfold pV; rw [if_pos hb]
theorem ckV_no {ls : List Df} {i : Nat} {d : Df} (h4 : ls.length ≤ 4) (hd : ls[i]? = some d) (hp : ls.all psB = true) (hb : (bodyF ls d).2 ≠ 0) : ckV ls i = .iface 89 (.agg #[.iface 87 (.int .i64 (bodyF ls d).2), .int .i64 (bodyF ls d).1]) := by
  have hi := (List.getElem?_eq_some_iff.1 hd).1
  unfold ckV idxB
  rw [if_neg (by omega), if_neg (by simp; exact hi), if_neg (by rw [hp]; simp), List.getD_eq_getElem?_getD, Int.toNat_natCast, hd]
  show pV (bodyF ls d) = _
  unfold pV; rw [if_neg hb]
theorem ckV_ps {ls : List Df} {i : Nat} {d : Df} (h4 : ls.length ≤ 4) (hd : ls[i]? = some d) (hp : ls.all psB = false) : ckV ls i = .iface 85 (.int .i64 2) := by
  have hi := (List.getElem?_eq_some_iff.1 hd).1
  unfold ckV idxB
  rw [if_neg (by omega), if_neg (by simp; exact hi), if_pos hp]
theorem hdB_ps {d : Df} : hdB d = (nameB d.nm.data.toList && psB d) := by
  unfold hdB psB
  rw [show decide (0 ≤ d.ps ∧ d.ps ≤ 3) = (decide (0 ≤ d.ps) && decide (d.ps ≤ 3)) by simp]
theorem all_hdB (ls : List Df) : ls.all hdB = (ls.all (fun d => nameB d.nm.data.toList) && ls.all psB) := by
  induction ls with
  | nil => rfl
  | cons d l ih => rw [List.all_cons, List.all_cons, List.all_cons, ih, hdB_ps]; cases nameB d.nm.data.toList <;> cases psB d <;> simp
theorem sameN_some {l : List Df} {q : Df} (h : (l.all fun d => !(sameN d q)) = false) : ∃ (j : Nat) (d : Df), l[j]? = some d ∧ sameN d q = true := by
  rw [Bool.eq_false_iff] at h
  apply Classical.byContradiction
  intro hn
  refine h (List.all_eq_true.2 fun d hd => ?_)
  obtain ⟨j, hj⟩ := List.mem_iff_getElem?.1 hd
  rcases e : sameN d q with _ | _
  · rfl
  · exact absurd ⟨j, d, hj, e⟩ hn
set_option maxRecDepth 100000 in
set_option maxHeartbeats 8000000 in
theorem implDefs_any (A : Option Addr) (c : Nat) (ls : List Df) (w : World) (S : Nat → Prop) (h : LRow dfR w S A ls) (hS : ∀ b, S b → b < w.heap.size) (hok : okList okDf ls) (ht : FormTab w) :
    Calls Tryd.prog 18 #[.slice A ls.length c] w fun e w' => e = .returned (.bool (vdB ls)) ∧ Below w.heap.size w w' := by
  by_cases h1 : ls.length < 1
  · have HF := Lib.hid (show vdB ls = false by unfold vdB; rw [decide_eq_false (by omega)]; rfl)
    have h1i : (ls.length : Int) < 1 := by omega
    have hl := hok.1
    clear h hS hok ht
    go_enter Tryd.func18, Tryd.ntmps18
    go_wp2
    go_ret
    exact ⟨ret_bool HF.out.symm, by first | exact Below.refl _ _ | exact (Below.refl _ _).drew⟩
  by_cases h4 : 4 < ls.length
  · have HF := Lib.hid (show vdB ls = false by unfold vdB; rw [decide_eq_false (by omega)]; rfl)
    have h1i : ¬ (ls.length : Int) < 1 := by omega
    have h4i : (4 : Int) < (ls.length : Int) := by omega
    have hl := hok.1
    clear h hS hok ht
    go_enter Tryd.func18, Tryd.ntmps18
    go_wp2
    go_ret
    exact ⟨ret_bool HF.out.symm, by first | exact Below.refl _ _ | exact (Below.refl _ _).drew⟩
  have h1i : ¬ (ls.length : Int) < 1 := by omega
  have h4i : ¬ (4 : Int) < (ls.length : Int) := by omega
  have hn4 : ls.length ≤ 4 := by omega
  have HV := Lib.hid (show vdB ls = (ls.all hdB && (diffB ls && ls.all fun d => (bodyF ls d).2 == 0)) by unfold vdB; rw [decide_eq_true (by omega), headB_eq]; rfl)
  have hmm := @run_makeMap Tryd.prog
  have law := string_keyed Tryd.underlying9
  have HR := Lib.hid h
  have HS := Lib.hid hS
  have HOK := Lib.hid hok
  have HT := Lib.hid ht
  have CB := Lib.hid (fun (i : Nat) (W : World) (hW : Below w.heap.size w W) => Calls.mono (implBody_any A c ls i W S (h.keep (SameOn.of_below hW hS)) (fun b hb => Nat.lt_of_lt_of_le (hS b hb) hW.size) hok (ht.below hW)) (fun e w' ⟨he, hb⟩ => (⟨he, hb⟩ : e = Ending.returned (ckV ls i) ∧ Below W.heap.size W w')))
  have h4' := hn4
  clear h hS hok ht
  generalize hL : ls.length = n at *
  have HL := Lib.hid hL
  clear hL
  go_enter Tryd.func18, Tryd.ntmps18
  go_wp2
  have hm0 : (w.alloc (.map #[] 0)).ownsMap Tryd.prog 9 (plainElem (H := Unit) Tryd.prog 4) w.heap.size 0 (.map []) := World.ownsMap_made w _ _ _
  go_loopw [17] (fun iv wr => ∃ (i : Nat) (Dm : DataW Unit), i ≤ n ∧ iv = .int .i64 i ∧ Hid (Below w.heap.size w wr) ∧ Hid (Named Dm (ls.take i)) ∧ Hid (wr.ownsMap Tryd.prog 9 (plainElem (H := Unit) Tryd.prog 4) w.heap.size i Dm) ∧ Hid ((ls.take i).all (fun d => nameB d.nm.data.toList) = true) ∧ Hid (i = 0 ∨ ls.all psB = true) ∧ Hid (diffB (ls.take i) = true) ∧ Hid (((ls.take i).all fun d => (bodyF ls d).2 == 0) = true)) (fun iv _ => n - (intOf iv).toNat)
  case atStart => exact ⟨0, _, Nat.zero_le _, rfl, Lib.hid (by repeat (first | exact Below.refl _ _ | refine Below.alloc ?_ (by simp <;> omega) _)), Lib.hid Named.nil, Lib.hid hm0, Lib.hid rfl, Lib.hid (.inl rfl), Lib.hid rfl, Lib.hid rfl⟩
  case round =>
    obtain ⟨i, Dm, hi, rfl, HB, HM, HO, HN, HP, HD, HE⟩ := hrel
    have hsz := HB.out.size
    clear hm0 hmm
    by_cases hlt : i < n
    · obtain ⟨b0, o0, cs0, d, rfl, hb0, hR0, hd, hc0⟩ := (HR.out.keep (SameOn.of_below HB.out HS.out)).at_ (k := i) (by rw [HL.out]; exact hlt)
      obtain ⟨B, cb, rfl, hnz, _, _, _⟩ := hR0
      have z0 : wr.cell? ⟨b0, o0 + i * 3, none⟩ = some (.string d.nm) := hc0 0 _ rfl
      have z1 : wr.cell? ⟨b0, o0 + i * 3 + 1, none⟩ = some (.int .i64 d.ps) := hc0 1 _ rfl
      have z2 : wr.cell? ⟨b0, o0 + i * 3 + 2, none⟩ = some (.slice B d.body.length cb) := hc0 2 _ rfl
      have l0 : b0 < wr.heap.size := World.block_lt_of_cell? wr _ z0
      have hkey : keyOf Tryd.prog 9 (.string d.nm) = some (kS d.nm) := WideMaps.keyOf_string_mk Tryd.underlying9 hnz
      have HKEY := Lib.hid hkey
      clear hc0 hkey
      rcases tn : nameB d.nm.data.toList with _ | _
      · have HF := Lib.hid (show vdB ls = false by rw [HV.out, all_bad (p := hdB) hd.out (by rw [hdB_ps, tn]; rfl)]; rfl)
        have TN := Lib.hid tn
        clear tn
        go_wp2_with (go_at_call 29; refine (implName_any _ _).mono ?_; rw [TN.out]; rintro e w2 ⟨rfl, hb⟩; have HB2 := Lib.hid (Below.trans (b := wr.alloc _) (HB.out.alloc hsz _) (hb.mono (by simp; omega))); clear hb)
        go_ret
        exact ⟨ret_bool HF.out.symm, HB2.out⟩
      have HN2 := Lib.hid (take_all (p := fun d => nameB d.nm.data.toList) HN.out hd.out tn)
      have TN := Lib.hid tn
      clear tn
      rcases ts : (ls.take i).all (fun x => !(sameN x d)) with _ | _
      · have HF := Lib.hid (show vdB ls = false by
          obtain ⟨j, q, hq, he⟩ := sameN_some ts
          have hji := (List.getElem?_eq_some_iff.1 hq).1
          rw [List.length_take] at hji
          rw [List.getElem?_take, if_pos (by omega)] at hq
          rw [HV.out, diffB_bad (by omega) hd.out hq he]; simp)
        have HX := Lib.hid (show Dm.atKey (kS d.nm) (.lit (.bool false)) = .lit (.bool true) by rw [HM.out d, ts]; rfl)
        clear ts
        go_wp2_with (go_at_call 29; refine (implName_any _ _).mono ?_; rw [TN.out]; rintro e w2 ⟨rfl, hb⟩; have HB2 := Lib.hid (Below.trans (b := wr.alloc _) (HB.out.alloc hsz _) (hb.mono (by simp; omega))); have hlk := lookup_bool (owns_below (HO.out.alloc _) hb) law Tryd.underlying63 Tryd.underlying4 (zeroB _) HKEY.out HX.out; have k0 := (hb.cell (p := ⟨wr.heap.size, 0, none⟩) (by simp)).trans (show _ = some (.string d.nm) by simp [go_sem]); have lk : wr.heap.size < w2.heap.size := World.block_lt_of_cell? w2 _ k0; clear hb)
        go_ret
        exact ⟨ret_bool HF.out.symm, HB2.out⟩
      have HX := Lib.hid (show Dm.atKey (kS d.nm) (.lit (.bool false)) = .lit (.bool false) by rw [HM.out d, ts]; rfl)
      have HD2 := Lib.hid (diffB_take HD.out hd.out ts)
      rcases tp : ls.all psB with _ | _
      · have HF := Lib.hid (show vdB ls = false by rw [HV.out, all_hdB, tp]; simp)
        have HC := Lib.hid (ckV_ps (by rw [HL.out]; exact hn4) hd.out tp)
        clear tp
        clear ts
        go_wp2_with (first | (go_at_call 29; refine (implName_any _ _).mono ?_; rw [TN.out]; rintro e w2 ⟨rfl, hb⟩; have HB2 := Lib.hid (Below.trans (b := wr.alloc _) (HB.out.alloc hsz _) (hb.mono (by simp; omega))); have hlk := lookup_bool (owns_below (HO.out.alloc _) hb) law Tryd.underlying63 Tryd.underlying4 (zeroB _) HKEY.out HX.out; have k0 := (hb.cell (p := ⟨wr.heap.size, 0, none⟩) (by simp)).trans (show _ = some (.string d.nm) by simp [go_sem]); have lk : wr.heap.size < w2.heap.size := World.block_lt_of_cell? w2 _ k0; have HO2 := Lib.hid (owns_below (HO.out.alloc _) hb); clear hb) | (go_at_call 30; refine (CB.out i _ HB2.out).mono ?_; rw [HC.out]; rintro e w3 ⟨rfl, hb⟩; have HB3 := Lib.hid (HB2.out.trans (hb.mono (HB2.out.size))); clear hb))
        go_ret
        exact ⟨ret_bool HF.out.symm, HB3.out⟩
      by_cases hz : (bodyF ls d).2 = 0
      rotate_left
      · have HF := Lib.hid (show vdB ls = false by rw [HV.out, all_bad (p := fun d => (bodyF ls d).2 == 0) hd.out (ib_ne hz)]; simp)
        have HC := Lib.hid (ckV_no (by rw [HL.out]; exact hn4) hd.out tp hz)
        clear tp hz
        clear ts
        go_wp2_with (first | (go_at_call 29; refine (implName_any _ _).mono ?_; rw [TN.out]; rintro e w2 ⟨rfl, hb⟩; have HB2 := Lib.hid (Below.trans (b := wr.alloc _) (HB.out.alloc hsz _) (hb.mono (by simp; omega))); have hlk := lookup_bool (owns_below (HO.out.alloc _) hb) law Tryd.underlying63 Tryd.underlying4 (zeroB _) HKEY.out HX.out; have k0 := (hb.cell (p := ⟨wr.heap.size, 0, none⟩) (by simp)).trans (show _ = some (.string d.nm) by simp [go_sem]); have lk : wr.heap.size < w2.heap.size := World.block_lt_of_cell? w2 _ k0; have HO2 := Lib.hid (owns_below (HO.out.alloc _) hb); clear hb) | (go_at_call 30; refine (CB.out i _ HB2.out).mono ?_; rw [HC.out]; rintro e w3 ⟨rfl, hb⟩; have HB3 := Lib.hid (HB2.out.trans (hb.mono (HB2.out.size))); clear hb))
        go_ret
        exact ⟨ret_bool HF.out.symm, HB3.out⟩
      have HE2 := Lib.hid (take_all (p := fun d => (bodyF ls d).2 == 0) HE.out hd.out (ib_eq hz))
      have HC := Lib.hid (ckV_yes (by rw [HL.out]; exact hn4) hd.out tp hz)
      have HP2 := Lib.hid tp
      have hin : i < maxLen := by unfold maxLen; omega
      have HT2 := Lib.hid HO.out.isMap
      clear tp hz ts
      go_wp2_with (first | (go_at_call 29; refine (implName_any _ _).mono ?_; rw [TN.out]; rintro e w2 ⟨rfl, hb⟩; have HB2 := Lib.hid (Below.trans (b := wr.alloc _) (HB.out.alloc hsz _) (hb.mono (by simp; omega))); have hlk := lookup_bool (owns_below (HO.out.alloc _) hb) law Tryd.underlying63 Tryd.underlying4 (zeroB _) HKEY.out HX.out; have k0 := (hb.cell (p := ⟨wr.heap.size, 0, none⟩) (by simp)).trans (show _ = some (.string d.nm) by simp [go_sem]); have lk : wr.heap.size < w2.heap.size := World.block_lt_of_cell? w2 _ k0; have HO2 := Lib.hid (owns_below (HO.out.alloc _) hb); clear hb) | (go_at_call 30; refine (CB.out i _ HB2.out).mono ?_; rw [HC.out]; rintro e w3 ⟨rfl, hb⟩; have HB3 := Lib.hid (HB2.out.trans (hb.mono (HB2.out.size))); have k0 := (hb.cell (p := ⟨wr.heap.size, 0, none⟩) lk).trans k0; have lk3 : wr.heap.size < w3.heap.size := World.block_lt_of_cell? w3 _ k0; have HO3 := Lib.hid (owns_below HO2.out hb); clear hlk; clear hb) | (at_mapUpdate; refine wpList_mapUpdate_own _ rfl _ _ _ 63 rfl 9 4 law Tryd.underlying63 _ w.heap.size i Dm rfl HO3.out hin _ _ (kS d.nm) rfl rfl HKEY.out _ [] (plainElem_bool Tryd.underlying4 true) ?_; intro w4 hmap4 hg4; have HM4 := Lib.hid hmap4; have HG4 := Lib.hid hg4; clear hmap4 hg4))
      go_roundw
      case rel => exact ⟨i + 1, _, by omega, by go_num, Lib.hid (HB3.out.grown HG4.out HB3.out.size (fun j hj => by cases hj; exact Nat.le_refl _)), Lib.hid (by rw [take_one _ _ _ hd.out]; exact HM.out.snoc HT2.out d), HM4, HN2, Lib.hid (by first | exact Or.inr HP2.out | exact Or.inr trivial), HD2, HE2⟩
      case measure => simp [intOf]; omega
    · have hin : i = n := by omega
      have HF := Lib.hid (show vdB ls = true by
        have e1 := HN.out
        have e2 := HD.out
        have e3 := HE.out
        rw [List.take_of_length_le (by rw [HL.out]; omega)] at e1 e2 e3
        have e4 : ls.all psB = true := by
          rcases HP.out with h | h
          · omega
          · exact h
        rw [HV.out, all_hdB, e1, e2, e3, e4]; rfl)
      go_wp2
      go_ret
      exact ⟨ret_bool HF.out.symm, HB.out⟩
end Go.Proofs.YthinoagdgbnphaaDoor
