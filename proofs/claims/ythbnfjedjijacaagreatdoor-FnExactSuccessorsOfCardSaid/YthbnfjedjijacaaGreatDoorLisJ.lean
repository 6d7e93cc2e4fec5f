/- The text of a list of numbers: mapEach at decimal forms, joinNumbers. -/
import Derived.Test.YthbnfjedjijacaaGreatDoorLisI
namespace Go.Proofs
open Go.Shelf
theorem Tryz.Builder_Extra_156 : Builder.Extra Tryz.prog Tryz.laysJoin_ren where
  sizeBuilder := by kernel_rfl
  liesBuilder := by kernel_rfl
  t5 := Tryz.underlying5
  a5 := Tryz.isAgg5
  z5 := Tryz.sizeOf5
  v5 := Tryz.zeroValue5
  infoByte := by kernel_rfl
  cellsByte := by kernel_rfl
  sizeByte := by kernel_rfl
  neB5 := by decide
end Go.Proofs
namespace Go.Proofs.YthbnfjedjijacaaGreatDoor
open Go.RowKit Go.Lib
theorem strs_data (ps : List (List UInt8)) : (ps.map fun l => (⟨l.toArray⟩ : ByteArray)).map (·.data.toList) = ps := by
  rw [List.map_map]
  exact (List.map_congr_left fun x _ => rfl).trans (List.map_id _)
/-- strings.Join over a row that holds texts. -/
theorem join_call (A : Option Addr) (ps : List (List UInt8)) (c : Nat) (sep : List UInt8) (w : World) (hr : Row w w.heap.size A (strs ps)) (h1 : 1 ≤ ps.length) (hn : ps.length ≤ 1048576) (hc : ps.length ≤ c) (hl : (join ps sep).length ≤ 140737488355328) :
    Calls Tryz.prog 43 #[.slice A ps.length c, .string ⟨sep.toArray⟩] w fun e w' => e = .returned (.string ⟨(join ps sep).toArray⟩) ∧ Below w.heap.size w w' := by
  obtain ⟨b, off, rfl, hb, hcell⟩ := hr (by rw [strs_len]; omega)
  have := Any.strings_Join Tryz.laysJoin Tryz.Builder_Extra_156 b off c (ps.map fun l => (⟨l.toArray⟩ : ByteArray)) ⟨sep.toArray⟩ w
    (fun j x hx => hcell j _ (by
      rw [List.getElem?_map] at hx
      unfold strs
      rw [List.getElem?_map]
      cases hp : ps[j]? with
      | none => rw [hp] at hx; cases hx
      | some l => rw [hp] at hx; injection hx with hx; rw [← hx]; rfl))
    hb (by rw [List.length_map]; omega) (by rw [List.length_map]; exact hc) (by rw [strs_data]; exact hl)
  rw [List.length_map, strs_data] at this
  exact this
theorem info_str2 : (Tryz.prog.info? 9).map (fun i => (i.zero, i.size, i.bytes)) = some (some (.string ByteArray.empty), 1, 16) := info_str
def OwnS (w' : World) (g n : Nat) (xs : List Int) : Prop := w'.ownsRow g 9 1 (.slice (some ⟨g, 0, none⟩) n n) n (strs (xs.map itoa))
set_option maxHeartbeats 1600000 in
set_option maxRecDepth 100000 in
/-- mapEach at the decimal form of each number. -/
theorem mapDecimal_any (A : Option Addr) (n c : Nat) (xs : List Int) (w : World) (hr : IRow w w.heap.size A xs) (hn : xs.length = n) (h1 : 1 ≤ n) (h64 : n ≤ 64) (hwf : Wf xs) (ht : Pow10 w) :
    Calls Tryz.prog 77 #[.slice A n c, .func (.func 78) #[] #[]] w fun e w' => e = .returned (.slice (some ⟨w.heap.size, 0, none⟩) n n) ∧ OwnS w' w.heap.size n xs ∧ Below w.heap.size w w' := by
  obtain ⟨i0, hi, hz0, hz1, hz2⟩ := info_parts info_str
  have HR := Lib.hid hr
  have HW := Lib.hid hwf
  have HT := Lib.hid ht
  have HL := Lib.hid hn
  have HM := Lib.hid (strs_len (xs.map itoa))
  have HC := Lib.hid (fun (args : Array Value) (W : World) => Go.MuLone.run_callFunc_enter Tryz.func78 rfl rfl args W)
  clear hr hwf ht hn
  go_enter Tryz.func77, Tryz.ntmps77
  go_wp2_with (at_make; refine wpList_make_full _ rfl _ _ _ rfl w.heap.size 9 i0 (.string ByteArray.empty) 1 Tryz.underlying22 hi hz0 hz1 .i64 .i64 _ _ n rfl rfl rfl rfl (by rw [hz2]; omega) (by unfold maxLen; omega) (Nat.le_refl _) ?_; intro w1 hown1 hg1)
  have H0 : w1.ownsRow w.heap.size 9 1 (.slice (some ⟨w.heap.size, 0, none⟩) n n) n ((strs (xs.map itoa)).take 0 ++ List.replicate (n - 0) (.string ByteArray.empty)) := by
    have e := toList_madeCells_one (.string ByteArray.empty) n
    have e2 : (Value.string ByteArray.empty).cells = #[.string ByteArray.empty] := rfl
    rw [e2, Nat.mul_one, e] at hown1
    simpa using hown1
  have hb1 : Below w.heap.size w w1 := (Below.refl _ _).grown hg1 (Nat.le_refl _) (by simp)
  clear hown1 hg1 hi hz0 hz1 hz2
  go_loopw [6, 7, 13] (fun _ _ iv wr => ∃ k : Nat, k ≤ n ∧ iv = .int .i64 k ∧ Below w.heap.size w wr ∧ wr.ownsRow w.heap.size 9 1 (.slice (some ⟨w.heap.size, 0, none⟩) n n) n ((strs (xs.map itoa)).take k ++ List.replicate (n - k) (.string ByteArray.empty))) (fun _ _ iv _ => n - (intOf iv).toNat)
  case atStart => exact ⟨0, Nat.zero_le _, rfl, hb1, H0⟩
  case round =>
    obtain ⟨k, hk, rfl, hb, hown⟩ := hrel
    obtain ⟨wo, rfl⟩ : ∃ wo : World, wo = wr := ⟨_, rfl⟩
    have HB := Lib.hid hb
    have HO := Lib.hid hown
    have hsz := hb.size
    clear H0 hb1 hb hown
    by_cases hlt : k < n
    · obtain ⟨b, off, u, rfl, hbb, hc, HU⟩ := (HR.out.below HB.out).at_ (k := k) (by rw [HL.out]; exact hlt)
      obtain ⟨hu0, hu1⟩ := HW.out.at_ HU.out
      go_wp2_with (first | (go_at_call 78; refine (implDecimal_any u _ hu0 hu1 (HT.out.below HB.out)).mono ?_; rintro e w2 ⟨rfl, hb2⟩; have HB2 := Lib.hid (HB.out.trans (hb2.mono hsz)); have HO2 := Lib.hid (own_below' HO.out hb2); obtain ⟨⟨old, hx⟩, hf⟩ := own_some HO2.out (k := k) (by omega); clear hb2))
      go_roundw
      case rel => exact ⟨k + 1, by omega, by go_num, HB2.out.setCell (Nat.le_refl _) _, by have := (HO2.out.stored k (.string ⟨(itoa u).toArray⟩)).1; rwa [upd_take _ _ _ _ _ (by rw [HM.out, List.length_map]; exact HL.out) (by unfold strs; rw [List.getElem?_map, List.getElem?_map, HU.out]; rfl)] at this⟩
      case measure => simp [intOf]; omega
    · have hke : k = n := by omega
      have HF := Lib.hid (show wo.ownsRow w.heap.size 9 1 (.slice (some ⟨w.heap.size, 0, none⟩) n n) n (strs (xs.map itoa)) by
        have := HO.out
        rw [hke, Nat.sub_self, List.replicate_zero, List.append_nil, List.take_of_length_le (by rw [HM.out, List.length_map, HL.out]; exact Nat.le_refl _)] at this
        exact this)
      go_wp2
      go_ret
      exact ⟨rfl, HF.out, HB.out⟩
set_option maxHeartbeats 1600000 in
set_option maxRecDepth 100000 in
theorem joinNumbers_any (A : Option Addr) (n c : Nat) (xs : List Int) (w : World) (hr : IRow w w.heap.size A xs) (hn : xs.length = n) (h1 : 1 ≤ n) (h64 : n ≤ 64) (hwf : Wf xs) (ht : Pow10 w) :
    Calls Tryz.prog 39 #[.slice A n c, .string ⟨#[44]⟩] w fun e w' => e = .returned (.string ⟨(decs xs).toArray⟩) ∧ Below w.heap.size w w' := by
  have HD := Lib.hid (mapDecimal_any A n c xs w hr hn h1 h64 hwf ht)
  have HW := Lib.hid hwf
  have HL := Lib.hid hn
  clear hr hwf ht hn
  go_enter Tryz.func39, Tryz.ntmps39
  go_wp2_with (first | (go_at_call 77; refine HD.out.mono ?_; rintro e wo ⟨rfl, hown, hb⟩; have HB := Lib.hid hb; have HF := Lib.hid hown; have hsz := hb.size; have HJ := Lib.hid (join_call (some ⟨w.heap.size, 0, none⟩) (xs.map itoa) n [44] wo (Row.of_own HF.out) (by rw [List.length_map, HL.out]; exact h1) (by rw [List.length_map, HL.out]; omega) (by rw [List.length_map, HL.out]; exact Nat.le_refl _) (Nat.le_trans (decs_short xs HW.out) (by rw [HL.out]; omega))); rw [List.length_map, HL.out] at HJ; clear hb hown) | (go_at_call 43; refine HJ.out.mono ?_; rintro e w3 ⟨rfl, hb3⟩; have HB3 := Lib.hid (HB.out.trans (hb3.mono hsz)); clear hb3))
  go_ret
  exact ⟨rfl, HB3.out⟩
end Go.Proofs.YthbnfjedjijacaaGreatDoor
