/- The program reads a number: by the library's law of strconv.ParseInt, the decimal form and a comparison. -/
import Derived.Test.YtbgmhndmldekbaaDoorDecW
import Derived.Test.YtbgmhndmldekbaaDoorRdW
import Derived.Shelf.Strings.Prefix
import Derived.Shelf.Strconv.ParseIntPublic10
namespace Go.Proofs
open Go.Shelf
shelf_lay Lays.n101 Nm 101 at Tryd as Tryd.laysTrimPrefix
shelf_lay LaysC.n174 Nm 174 at Tryd as Tryd.laysParseInt
end Go.Proofs
namespace Go.Proofs.YtbgmhndmldekbaaDoor
open Go.RowKit Go.Lib
/-- The variables of the library that hold its errors, and its table of powers of ten. -/
structure NumTabs (w : World) : Prop where
  pow : Pow10 w
  syn : ∃ ev, w.cell? ⟨4, 0, none⟩ = some ev ∧ (ev = .nilIface ∨ ∃ te pe, ev = .iface te pe)
  rng : ∃ ev, w.cell? ⟨5, 0, none⟩ = some ev ∧ (ev = .nilIface ∨ ∃ te pe, ev = .iface te pe)
theorem cell_below {w w' : World} {g : Nat} {v : Value} (h : w.cell? ⟨g, 0, none⟩ = some v) (hb : Below w.heap.size w w') : w'.cell? ⟨g, 0, none⟩ = some v :=
  (hb.cell (p := ⟨g, 0, none⟩) (World.block_lt_of_cell? w _ h)).trans h
theorem NumTabs.below {w w' : World} (h : NumTabs w) (hb : Below w.heap.size w w') : NumTabs w' :=
  ⟨h.pow.below hb, by obtain ⟨ev, h1, h2⟩ := h.syn; exact ⟨ev, cell_below h1 hb, h2⟩, by obtain ⟨ev, h1, h2⟩ := h.rng; exact ⟨ev, cell_below h1 hb, h2⟩⟩
theorem trimPrefix_call (s p : ByteArray) (w : World) : Calls Tryd.prog 48 #[.string s, .string p] w fun e w' => e = .returned (.string ⟨(trimPrefix s.data.toList p.data.toList).toArray⟩) ∧ w' = w :=
  Any.strings_TrimPrefix Tryd.laysTrimPrefix s p w
theorem bw_below {w w' : World} {T : TypeId} (h : w' = w ∨ ∃ t, w' = bytesWorld w T t) : Below w.heap.size w w' := by
  rcases h with rfl | ⟨t, rfl⟩
  · exact Below.refl _ _
  · exact bytesWorld_below _ _ _
/-- strconv.ParseInt at base 10 and 64 bits: the number and no error, or an error. -/
theorem parse_call (s : ByteArray) (w : World) (hsz : s.size ≤ 1048576) (ht : NumTabs w) :
    Calls Tryd.prog 49 #[.string s, .int .i64 10, .int .i64 64] w fun e w' =>
      ((∃ v, parseIntB 64 s.data.toList = .ok v ∧ e = .returned (.tuple #[.int .i64 v, .nilIface])) ∨
       (∃ v T p, (∀ u, parseIntB 64 s.data.toList ≠ .ok u) ∧ e = .returned (.tuple #[.int .i64 v, .iface T (.pointer (some ⟨p, 0, none⟩))]))) ∧ Below w.heap.size w w' := by
  cases hp : parseIntB 64 s.data.toList with
  | ok v => exact (Any.strconv_ParseInt_10_at64_ok Tryd.laysParseInt s (by omega) v hp w).mono fun e w' ⟨he, hw⟩ => ⟨.inl ⟨v, rfl, he⟩, bw_below hw⟩
  | «syntax» =>
    obtain ⟨ev, h1, h2⟩ := ht.syn
    exact (Any.strconv_ParseInt_10_at64_syntax Tryd.laysParseInt s (by omega) hp ev w h1 h2).mono fun e w' ⟨N, he, _, _, hb⟩ => ⟨.inr ⟨_, _, N, (fun u h => by cases h), he⟩, hb⟩
  | range =>
    obtain ⟨ev, h1, h2⟩ := ht.rng
    exact (Any.strconv_ParseInt_10_at64_range Tryd.laysParseInt s (by omega) hp ev w h1 h2).mono fun e w' ⟨N, he, _, _, hb⟩ => ⟨.inr ⟨_, _, N, (fun u h => by cases h), he⟩, hb⟩
theorem list_size (l : List UInt8) : (⟨l.toArray⟩ : ByteArray).size = l.length := by simp [ByteArray.size]
theorem bytes_ext {s : ByteArray} {l : List UInt8} (h : l = s.data.toList) : (⟨l.toArray⟩ : ByteArray) = s := by
  subst h; cases s; rfl
set_option maxHeartbeats 1600000 in
theorem implRead_any (s : ByteArray) (w : World) (hsz : s.size ≤ 1048576) (ht : NumTabs w) :
    Calls Tryd.prog 40 #[.string s] w fun e w' => e = .returned (numRet (num s.data.toList)) ∧ Below w.heap.size w w' := by
  have HT := Lib.hid ht
  have HN := Lib.hid (num2_eq s.data.toList)
  have HS := Lib.hid hsz
  clear ht hsz
  by_cases h18 : 18 < (trimPrefix s.data.toList [45]).length
  · have H := Lib.hid (show num s.data.toList = none by rw [← HN.out]; unfold num2; rw [if_pos h18])
    have h18' : 18 < ((⟨(trimPrefix s.data.toList [45]).toArray⟩ : ByteArray).size : Int) := by rw [list_size]; omega
    go_enter Tryd.func40, Tryd.ntmps40
    go_wp2_with fail
    refine (trimPrefix_call s ⟨#[45]⟩ _).mono ?_; rintro e w1 ⟨rfl, rfl⟩
    generalize (⟨(trimPrefix s.data.toList [45]).toArray⟩ : ByteArray) = tp at *
    go_wp2
    go_ret2
    exact ⟨by rw [H.out]; rfl, Below.refl _ _⟩
  have h18' : ¬ 18 < ((⟨(trimPrefix s.data.toList [45]).toArray⟩ : ByteArray).size : Int) := by rw [list_size]; omega
  go_enter Tryd.func40, Tryd.ntmps40
  go_wp2_with fail
  refine (trimPrefix_call s ⟨#[45]⟩ _).mono ?_; rintro e w1 ⟨rfl, rfl⟩
  have HP := Lib.hid h18
  clear h18
  generalize (⟨(trimPrefix s.data.toList [45]).toArray⟩ : ByteArray) = tp at *
  go_wp2_with fail
  refine (parse_call s _ HS.out HT.out).mono ?_; rintro e w2 ⟨(⟨v, hv, rfl⟩ | ⟨v, T, p, hv, rfl⟩), hb⟩
  · have hbd := parseIntB_bounds hv
    have e63 : (2 : Nat) ^ (64 - 1) = 9223372036854775808 := by decide
    rw [e63] at hbd
    have HB := Lib.hid hb
    have hs2 := hb.size
    by_cases he : itoa v = s.data.toList
    · have H := Lib.hid (show num s.data.toList = some v by rw [← HN.out]; unfold num2; rw [if_neg HP.out, hv]; simp only; rw [if_pos he])
      have hq : ((⟨(itoa v).toArray⟩ : ByteArray).toList == s.toList) = true := by rw [bytes_ext he]; simp
      clear hb hv e63
      go_wp2_with fail
      refine (implDecimal_any v _ (by omega) (by omega) (HT.out.below HB.out).pow).mono ?_; rintro e w3 ⟨rfl, hb3⟩
      have HB3 := Lib.hid (HB.out.trans (hb3.mono hs2))
      clear hb3
      generalize (⟨(itoa v).toArray⟩ : ByteArray) = it at *
      clear he
      go_wp2
      go_ret2
      exact ⟨by rw [H.out]; rfl, HB3.out⟩
    · have H := Lib.hid (show num s.data.toList = none by rw [← HN.out]; unfold num2; rw [if_neg HP.out, hv]; simp only; rw [if_neg he])
      have hq : ((⟨(itoa v).toArray⟩ : ByteArray).toList == s.toList) = false := by
        rw [ByteArray.toList_eq, ByteArray.toList_eq]
        simpa using he
      clear hb hv e63
      go_wp2_with fail
      refine (implDecimal_any v _ (by omega) (by omega) (HT.out.below HB.out).pow).mono ?_; rintro e w3 ⟨rfl, hb3⟩
      have HB3 := Lib.hid (HB.out.trans (hb3.mono hs2))
      clear hb3
      generalize (⟨(itoa v).toArray⟩ : ByteArray) = it at *
      clear he
      go_wp2
      go_ret2
      exact ⟨by rw [H.out]; rfl, HB3.out⟩
  · have H := Lib.hid (show num s.data.toList = none by
      rw [← HN.out]; unfold num2; rw [if_neg HP.out]
      cases hp : parseIntB 64 s.data.toList with
      | ok u => exact absurd hp (hv u)
      | «syntax» => rfl
      | range => rfl)
    have HB := Lib.hid hb
    clear hb hv
    go_wp2
    go_ret2
    exact ⟨by rw [H.out]; rfl, HB.out⟩
theorem numRet_cases (r : Option Int) : (r = none ∧ numRet r = .tuple #[.int .i64 0, .bool false]) ∨ ∃ v, r = some v ∧ numRet r = .tuple #[.int .i64 v, .bool true] := by
  cases r with
  | none => exact .inl ⟨rfl, rfl⟩
  | some v => exact .inr ⟨v, rfl, rfl⟩
end Go.Proofs.YtbgmhndmldekbaaDoor
