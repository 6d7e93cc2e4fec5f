/- The words of a line: both sides. -/
import Derived.Shelf.Lay
import Derived.Shelf.Strings.FieldsFuncAny
import Derived.Test.YtjnmndjhlllfkaaSplW
import Derived.Test.YtjnmndjhlllfkaaFldM
import Derived.Test.YtjnmndjhlllfkaaAppR
import Derived.Test.YtjnmndjhlllfkaaApD
namespace Go.Proofs
open Go.Shelf
shelf_lay Lays.n229 Nm 229 at Try as Try.laysFields
end Go.Proofs
namespace Go.Proofs.Ytjnmndjhlllfkaa
open Go.RowKit Go.Lib Go.Shelf
set_option linter.unusedVariables false
set_option linter.unusedSimpArgs false
def toB (l : List UInt8) : ByteArray := ⟨l.toArray⟩
def wordsB (s : ByteArray) : List ByteArray := (wordsL s.data.toList).map toB
theorem pcs_short (b : UInt8) : ∀ (s : List UInt8), ∀ p ∈ pcs b s, p.length ≤ s.length
  | [], p, h => by simp [pcs] at h; simp [h]
  | c :: r, p, h => by
    have ih := pcs_short b r
    simp only [pcs] at h
    by_cases hc : c = b
    · rw [if_pos hc] at h
      rcases List.mem_cons.1 h with h | h
      · simp [h]
      · have := ih p h; rw [List.length_cons]; omega
    · rw [if_neg hc] at h
      cases hp : pcs b r with
      | nil => rw [hp] at h; simp at h; subst h; simp
      | cons q qs =>
        rw [hp] at h ih
        rcases List.mem_cons.1 h with h | h
        · subst h
          have := ih q (by simp)
          rw [List.length_cons, List.length_cons]; omega
        · have := ih p (List.mem_cons_of_mem _ h); rw [List.length_cons]; omega
theorem words_few : ∀ s : List UInt8, (wordsL s).length ≤ s.length
  | [] => by simp [wordsL, pcs]
  | c :: r => by
    have ih := words_few r
    unfold wordsL at ih ⊢
    simp only [pcs]
    by_cases hc : c = 32
    · rw [if_pos hc, List.filter_cons_of_neg (by simp), List.length_cons]; omega
    · rw [if_neg hc]
      cases hp : pcs 32 r with
      | nil => simp
      | cons q qs =>
        rw [hp] at ih
        show ((((c :: q) :: qs).filter (fun p => p != [])).length) ≤ _
        rw [List.filter_cons_of_pos (by simp), List.length_cons, List.length_cons]
        have h2 : (qs.filter (fun p => p != [])).length ≤ ((q :: qs).filter (fun p => p != [])).length := by
          rw [List.filter_cons]; split
          · rw [List.length_cons]; omega
          · exact Nat.le_refl _
        omega
theorem toB_size (l : List UInt8) : (toB l).size = l.length := by simp [toB, ByteArray.size]
theorem ok_words {s : ByteArray} (h : s.size ≤ 1048576) : okList okTx (wordsB s) := by
  have e : s.data.toList.length = s.size := by rw [Array.length_toList]; rfl
  refine ⟨?_, fun u hu => ?_⟩
  · have := words_few s.data.toList
    unfold wordsB
    rw [List.length_map]; omega
  · obtain ⟨l, hl, rfl⟩ := List.mem_map.1 hu
    have := pcs_short 32 s.data.toList l (List.mem_filter.1 hl).1
    show (toB l).size ≤ 1048576
    rw [toB_size]; omega
theorem cnt_words {s : ByteArray} (h : s.size ≤ 1048576) : cntL txtM (wordsB s) ≤ 100000000 := by
  have h1 := cnt_txt (wordsB s)
  have h2 := wL_z (wordsB s)
  have h3 := (ok_words h).1
  omega
theorem ol_txt {w : World} {lo n c : Nat} {A : Option Addr} {xs : List ByteArray} {T : TypeId} (h : w.ownsRow lo T 1 (.slice A n c) n (xs.map Value.string)) (hl : xs.length = n) (hs : ∀ u ∈ xs, okTx u) : OL txtO T w (In lo w.heap.size) A n c xs := by
  refine ⟨hl, fun g hg => h.lt g hg, xs.map Value.string, fun _ _ => False, own_low h (Nat.zero_le _), fun j x hx => ?_, fun _ _ _ e => e.elim, fun _ _ _ _ _ _ e => e.elim⟩
  have e : ((xs.map Value.string).drop (j * 1)).take 1 = [Value.string x] := by
    rw [Nat.mul_one, drop_one _ _ _ (show (xs.map Value.string)[j]? = some (Value.string x) by rw [List.getElem?_map, hx]; rfl)]
    rfl
  show txtR.R w (fun _ => False) x (((xs.map Value.string).drop (j * 1)).take 1)
  rw [e]
  refine ⟨rfl, ?_⟩
  have := hs x (List.mem_of_getElem? hx)
  unfold okTx at this
  unfold maxLen; omega
theorem wd1_any (r : Nat) (w : World) : Calls Try.prog 11 #[.int .i32 (r : Int)] w fun e w' => e = .returned (.bool (blankR r)) ∧ w' = w := by
  by_cases h : r = 32
  · have H := Lib.hid (show blankR r = true from decide_eq_true h)
    have h2 : ((r : Int) == 32) = true := by simp; omega
    clear h
    go_enter Try.func11, Try.ntmps11
    go_wp2
    go_ret
    exact ⟨by rw [H.out]; rfl, rfl⟩
  · have H := Lib.hid (show blankR r = false from decide_eq_false h)
    have h2 : ((r : Int) == 32) = false := by simp; omega
    clear h
    go_enter Try.func11, Try.ntmps11
    go_wp2
    go_ret
    exact ⟨by rw [H.out]; rfl, rfl⟩
theorem implWd_any (s : ByteArray) (w : World) (h : s.size ≤ 1048576) :
    Calls Try.prog 5 #[.string s] w fun e w' => ∃ A c, e = .returned (.slice A (wordsB s).length c) ∧ OL txtO 9 w' (In w.heap.size w'.heap.size) A (wordsB s).length c (wordsB s) ∧ Below w.heap.size w w' := by
  have hp : PredAt Try.prog 11 #[] encR blankR w := fun W x _ => (wd1_any x W).mono fun e w' ⟨he, hw⟩ => ⟨he, 0, hw⟩
  have CF := Any.strings_FieldsFunc Try.laysFields 11 #[] (enters_of Try.func11 (by kernel_rfl) rfl) blankR s w (by omega) hp (by kernel_rfl) (by kernel_rfl)
  rw [goFields_words] at CF
  have C := Lib.hid (show Calls Try.prog 10 #[.string s, .func (.func 11) #[] #[]] w (fun e w' => ∃ A, e = .returned (.slice (some ⟨A, 0, none⟩) (wordsB s).length (wordsB s).length) ∧ w.heap.size ≤ A ∧ w'.ownsRow w.heap.size 9 1 (.slice (some ⟨A, 0, none⟩) (wordsB s).length (wordsB s).length) (wordsB s).length ((wordsB s).map Value.string) ∧ Below w.heap.size w w') from CF)
  have HK := Lib.hid (ok_words h)
  clear CF hp h
  go_enter Try.func5, Try.ntmps5
  go_wp2_with (go_at_call 10; refine (C.out).mono ?_; rintro e w2 ⟨A, rfl, _, hrow, hb⟩; have HR := Lib.hid hrow; have HB := Lib.hid hb; clear hrow hb)
  go_ret
  exact ⟨_, _, rfl, ol_txt HR.out rfl HK.out.2, HB.out⟩
def wt (ps : List (List UInt8)) (j : Nat) : List ByteArray := ((ps.take j).filter (fun p => p != [])).map toB
theorem wt_no {ps : List (List UInt8)} {j : Nat} (h : ps[j]? = some []) : wt ps (j + 1) = wt ps j := by
  unfold wt; rw [take_one _ _ _ h, List.filter_append]; simp
theorem wt_yes {ps : List (List UInt8)} {j : Nat} {p : List UInt8} (h : ps[j]? = some p) (hp : p ≠ []) : wt ps (j + 1) = wt ps j ++ [toB p] := by
  unfold wt; rw [take_one _ _ _ h, List.filter_append]; simp [hp]
theorem wt_len (ps : List (List UInt8)) (j : Nat) : (wt ps j).length ≤ j := by
  unfold wt
  rw [List.length_map]
  have h1 := List.length_filter_le (fun p : List UInt8 => p != []) (ps.take j)
  have h2 := List.length_take_le j ps
  omega
theorem wt_all (s : ByteArray) {j : Nat} (h : (pcs 32 s.data.toList).length ≤ j) : wt (pcs 32 s.data.toList) j = wordsB s := by
  unfold wt wordsB wordsL; rw [List.take_of_length_le h]
theorem srow_txt (w : World) (u : ByteArray) (T : TypeId) : SRow (w.alloc (.cells #[.string u] T)) (fun _ => True) (some ⟨w.heap.size, 0, none⟩) [.string u] := by
  intro _
  refine ⟨w.heap.size, 0, rfl, trivial, fun j v hj => ?_⟩
  match j, hj with
  | 0, hj => injection hj with hj; subst hj; simp [go_sem]
theorem one_txt (u : ByteArray) : ∀ v ∈ [Value.string u], v.oneCell' = true := by
  intro v hv
  rw [List.mem_singleton] at hv
  subst hv; rfl
set_option maxRecDepth 100000 in
set_option maxHeartbeats 4000000 in
theorem specWd_any (s : ByteArray) (w : World) (h : s.size ≤ 1048576) :
    Calls Try.prog 4 #[.string s] w fun e w' => ∃ A c, e = .returned (.slice A (wordsB s).length c) ∧ OL txtO 9 w' (In w.heap.size w'.heap.size) A (wordsB s).length c (wordsB s) ∧ Below w.heap.size w w' := by
  have C := Lib.hid (split_any s 32 w h)
  have HK := Lib.hid (ok_words h)
  obtain ⟨ps, hps⟩ : ∃ ps, ps = pcs 32 s.data.toList := ⟨_, rfl⟩
  have HPL := Lib.hid (show ps.length ≤ 1048577 by
    have h1 := pcs_count 32 s.data.toList
    have h2 := List.count_le_length (a := (32 : UInt8)) (l := s.data.toList)
    have e : s.data.toList.length = s.size := by rw [Array.length_toList]; rfl
    rw [hps]; omega)
  rw [← hps] at C
  have HW := Lib.hid (fun (j : Nat) (hj : ps.length ≤ j) => (show wt ps j = wordsB s by rw [hps] at hj ⊢; exact wt_all s hj))
  clear h hps
  go_enter Try.func4, Try.ntmps4
  go_wp2_with fail
  refine (C.out).mono ?_
  rintro e w2 ⟨A, c, rfl, hO, hb⟩
  have HB2 := Lib.hid hb
  have HR := Lib.hid (hO.row)
  have hs2 := hb.size
  have H0 := Lib.hid (World.ownsRow_made w2 #[] 0 (e := 9) (size := 1) (base := w2.heap.size) (Nat.le_refl _) (Nat.zero_le _) rfl)
  have HB0 := Lib.hid ((Below.refl w2.heap.size w2).alloc (Nat.le_refl _) (.cells #[] 9))
  clear hO hb C
  go_wp2
  go_loopw [4, 5] (fun v i wr => ∃ (j n : Nat) (B : Option Addr) (d : Nat), j ≤ ps.length ∧ n ≤ j ∧ i = .int .i64 (j : Int) ∧ v = .slice B n d ∧ Hid (n = (wt ps j).length) ∧ Hid (wr.ownsRow w2.heap.size 9 1 (.slice B n d) n ((wt ps j).map Value.string)) ∧ Hid (Below w2.heap.size w2 wr)) (fun _ i _ => ps.length - (intOf i).toNat)
  case atStart => exact ⟨0, 0, _, _, Nat.zero_le _, Nat.le_refl _, rfl, rfl, Lib.hid rfl, Lib.hid H0.out, HB0⟩
  case round =>
    clear H0 HB0
    obtain ⟨j, n, B, d, hj, hnj, rfl, rfl, HN, HO, HB⟩ := hrel
    have hsz := HB.out.size
    have hpl := HPL.out
    by_cases hlt : j < ps.length
    · obtain ⟨b, o, rfl, hb, hc⟩ := HR.out (by rw [strs_len]; omega)
      obtain ⟨p, hp⟩ : ∃ p, ps[j]? = some p := ⟨_, List.getElem?_eq_getElem hlt⟩
      have r0 : wr.cell? ⟨b, o + j, none⟩ = some (.string (toB p)) := (HB.out.cell (p := ⟨b, o + j, none⟩) hb).trans (hc j _ (by unfold strs; rw [List.getElem?_map, hp]; rfl))
      have lb : b < wr.heap.size := Nat.lt_of_lt_of_le hb hsz
      have HP := Lib.hid hp
      obtain ⟨u, hu⟩ : ∃ u, u = toB p := ⟨_, rfl⟩
      rw [← hu] at r0
      have hul : u.toList = p := by rw [hu, ByteArray.toList_eq]; rfl
      have HU := Lib.hid hu
      clear hc hp hu
      by_cases he : p = []
      · have HT := Lib.hid (wt_no (ps := ps) (j := j) (by rw [HP.out, he]))
        have ht : (u.toList == []) = true := by rw [hul, he]; rfl
        have ht2 : u.toList = [] := by rw [hul, he]
        clear hul he
        go_wp2
        go_roundw
        case rel => exact ⟨j + 1, n, B, d, by omega, by omega, by go_num, rfl, Lib.hid (by rw [HT.out]; exact HN.out), Lib.hid (by rw [HT.out]; exact HO.out), HB⟩
        case measure => simp [intOf]; omega
      · have HT := Lib.hid (wt_yes HP.out he)
        have ht : (u.toList == []) = false := by rw [hul]; simpa using he
        have ht2 : ¬ u.toList = [] := by rw [hul]; exact he
        have HO2 := Lib.hid (fun ob : Obj => HO.out.alloc ob)
        clear hul he
        go_wp2_with (at_builtin; refine wpList_append_vs el_str rfl _ _ rfl _ w2.heap.size (.slice B n d) n ((wt ps j).map Value.string) rfl (by exact HO2.out _) (fun _ => True) (some ⟨wr.heap.size, 0, none⟩) 1 1 [.string u] rfl (by exact srow_txt _ _ _) rfl (one_txt _) (by omega) (by simp <;> omega) ?_; intro A' c' w' ho hg; have HO3 := Lib.hid ho; have HG3 := Lib.hid hg; clear ho hg)
        go_roundw
        case rel => exact ⟨j + 1, n + 1, A', c', by omega, by omega, by go_num, rfl, Lib.hid (by rw [HT.out, List.length_append, ← HN.out]; rfl), Lib.hid (by rw [HT.out, List.map_append, ← HU.out]; exact HO3.out), Lib.hid ((HB.out.alloc hsz _).grown HG3.out (by simp; omega) (fun g e => (HO.out.lt g e).1))⟩
        case measure => simp [intOf]; omega
    · have HE := Lib.hid (HW.out j (by omega))
      go_wp2
      go_ret
      have hl : (wordsB s).length = n := by rw [← HE.out, HN.out]
      refine ⟨B, d, by rw [hl]; rfl, ?_, HB2.out.trans (HB.out.mono hs2)⟩
      rw [hl]
      exact (ol_txt (by rw [← HE.out]; exact HO.out) hl HK.out.2).more (fun b hb => ⟨Nat.le_trans hs2 hb.1, hb.2⟩)
end Go.Proofs.Ytjnmndjhlllfkaa
