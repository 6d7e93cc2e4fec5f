/- The decimal form of a number, as the model writes it: its digits from the back, then turned round. -/
import Derived.Test.YthbnfjedjijacaaGreatDoorProg
import Derived.WalkKit
import Derived.ProofKit
import Derived.Outline
import Derived.Laws.IdiomStrings
import Derived.OwnWalk
import Derived.Maps.AppendAt
import Derived.Test.YthbnfjedjijacaaGreatDoorMath
import Derived.Test.YthbnfjedjijacaaGreatDoorLow
namespace Go.Proofs.YthbnfjedjijacaaGreatDoor
open Go.RowKit Go.Lib
theorem info_u8 : (Tryz.prog.info? 5).map (fun i => (i.zero, i.size, i.bytes)) = some (some (.int .u8 0), 1, 1) := by kernel_rfl
theorem dig_neg {m : Int} (hd : m.tmod 10 < 0) : Value.int .u8 (wrap64 (48 + wrap64 (-m.tmod 10)) % 256) = Value.int .u8 ((dig m.natAbs).toNat : Int) := by
  have h2 : (m.tmod 10).natAbs = m.natAbs % 10 := Int.natAbs_tmod m 10
  have h1 : m.tmod 10 = -((m.natAbs % 10 : Nat) : Int) := by generalize m.tmod 10 = d at *; omega
  rw [dig_toNat, h1]
  congr 1
  have h3 : m.natAbs % 10 < 10 := Nat.mod_lt _ (by decide)
  generalize m.natAbs % 10 = d at *
  unfold wrap64
  omega
theorem dig_pos {m : Int} (hd : ¬ m.tmod 10 < 0) : Value.int .u8 (wrap64 (48 + m.tmod 10) % 256) = Value.int .u8 ((dig m.natAbs).toNat : Int) := by
  have h2 : (m.tmod 10).natAbs = m.natAbs % 10 := Int.natAbs_tmod m 10
  have h1 : m.tmod 10 = ((m.natAbs % 10 : Nat) : Int) := by generalize m.tmod 10 = d at *; omega
  rw [dig_toNat, h1]
  congr 1
  have h3 : m.natAbs % 10 < 10 := Nat.mod_lt _ (by decide)
  generalize m.natAbs % 10 = d at *
  unfold wrap64
  omega
theorem add_at (b off i : Nat) : (⟨b, off, none⟩ : Addr).add i = ⟨b, off + i, none⟩ := by unfold Addr.add; split <;> simp_all
theorem own_shape {w : World} {base : Nat} {e : TypeId} {size : Nat} {v : Value} {n : Nat} {xs : List Value} (h : w.ownsRow base e size v n xs) : ∃ A c, v = .slice A n c := by
  rcases h.2 with ⟨rfl, rfl⟩ | ⟨g, cap, cur, rfl, _⟩
  · exact ⟨_, _, rfl⟩
  · exact ⟨_, _, rfl⟩
theorem own_more {w : World} {lo : Nat} {v : Value} {ds es : List UInt8} {b : UInt8} {x : Value} (h : w.ownsRow lo 5 1 v (ds.length + 1) (bv ds ++ [x])) (he : es = ds ++ [b]) (hx : x = Value.int .u8 (b.toNat : Int)) :
    ∃ A c, v = .slice A es.length c ∧ w.ownsRow lo 5 1 v es.length (bv es) := by
  subst hx he
  obtain ⟨A, c, rfl⟩ := own_shape h
  refine ⟨A, c, by simp, ?_⟩
  rw [← bv_app, List.length_append]
  exact h
set_option maxHeartbeats 2000000 in
set_option maxRecDepth 100000 in
theorem dec_any (n : Int) (w : World) (h0 : -9223372036854775808 ≤ n) (h1 : n ≤ 9223372036854775807) (hz : n ≠ 0) :
    Calls Tryz.prog 68 #[.int .i64 n] w fun e w' => e = .returned (.string ⟨(itoa n).toArray⟩) ∧ Below w.heap.size w w' := by
  obtain ⟨i0, hi, hz0, hz1, hz2⟩ := info_parts info_u8
  have hzb : (n == 0) = false := by simp [hz]
  have HO := Lib.hid (World.ownsRow_made (e := 5) (size := 1) w #[] 0 (Nat.le_refl _) (Nat.zero_le _) rfl)
  have HBL := Lib.hid (show Below w.heap.size w (w.alloc (.cells #[] 5)) from (Below.refl _ _).alloc (Nat.le_refl _) _)
  have HD := Lib.hid (dec_len (u := n.natAbs) (by omega))
  have HP := Lib.hid (show pre n.natAbs ++ ([] : List UInt8).reverse = decDigits n.natAbs by unfold pre; rw [if_neg (by omega)]; simp)
  go_enter Tryz.func68, Tryz.ntmps68
  go_wp2
  go_loopw [3, 4] (fun v mv wr => ∃ (m : Int) (ds : List UInt8) (A : Option Addr) (c : Nat), mv = .int .i64 m ∧ v = .slice A ds.length c ∧ wr.ownsRow w.heap.size 5 1 v ds.length (bv ds) ∧ Below w.heap.size w wr ∧ Hid (pre m.natAbs ++ ds.reverse = decDigits n.natAbs) ∧ -9223372036854775808 ≤ m ∧ m ≤ 9223372036854775807) (fun _ m _ => (intOf m).natAbs)
  case atStart => exact ⟨n, [], _, _, rfl, rfl, HO.out, HBL.out, Lib.hid HP.out, h0, h1⟩
  case round =>
    obtain ⟨m, ds, A, c, rfl, rfl, ho, hb, HI, hm0, hm1⟩ := hrel
    obtain ⟨wo, rfl⟩ : ∃ wo : World, wo = wr := ⟨_, rfl⟩
    have hlen := rev_len HI.out HD.out
    have hsz := hb.size
    have HOW := Lib.hid ho
    have HB := Lib.hid hb
    clear HO HBL HP ho hb
    by_cases hm : m = 0
    · subst hm
      have HR := Lib.hid (show ds.reverse = decDigits n.natAbs from HI.out)
      clear HI
      by_cases hn : n < 0
      · have hnb : decide (n < 0) = true := by simp [hn]
        obtain ⟨es, hes⟩ : ∃ es, es = ds ++ [(45 : UInt8)] := ⟨_, rfl⟩
        have HS0 := Lib.hid hes
        have HE := Lib.hid (show es.reverse = itoa n by rw [hes]; unfold itoa; rw [if_pos hn, ← HR.out]; simp)
        have hel : es.length ≤ 20 := by rw [hes]; simp; omega
        clear hes
        go_wp2_with (at_builtin; refine wpList_append_own _ rfl _ _ 56 rfl w.heap.size 5 i0 (.int .u8 0) 1 1 Tryz.underlying56 hi hz0 hz1 hz2 rfl (by decide) (.slice A ds.length c) ds.length (bv ds) rfl (by exact HOW.out.alloc _) ⟨wo.heap.size, 0, none⟩ 1 1 [.int .u8 45] rfl rfl (cell_one_new _ _ _) (by intro u hu; simp at hu; subst hu; rfl) (by unfold maxLen; omega) (by omega) (by simp; omega) ?_; intro v' w' ho hg _; obtain ⟨A2, c2, rfl, ho2⟩ := own_more ho HS0.out rfl; have HG := Lib.hid hg; have HO3 := Lib.hid ho2; clear ho hg ho2)
        have HB2 := Lib.hid ((HB.out.alloc hsz _).grown HG.out (by simp; omega) (fun q hq => (HOW.out.lt q hq).1))
        clear HG HOW HB HR HS0
        have HS := Lib.hid (Row.of_own HO3.out)
        have hsz2 := HB2.out.size
        have HO4 := Lib.hid (World.ownsRow_made (e := 5) (size := 1) w' #[] 0 (Nat.le_refl _) (Nat.zero_le _) rfl)
        have HB4 := Lib.hid (show Below w'.heap.size w' (w'.alloc (.cells #[] 5)) from (Below.refl _ _).alloc (Nat.le_refl _) _)
        go_loopw [6, 7] (fun v iv wr => ∃ (k : Nat) (A : Option Addr) (c : Nat), k ≤ es.length ∧ iv = .int .i64 ((k : Int) - 1) ∧ v = .slice A (back es k).length c ∧ wr.ownsRow w'.heap.size 5 1 v (back es k).length (bv (back es k)) ∧ Below w'.heap.size w' wr) (fun _ i _ => (intOf i + 1).toNat)
        case atStart => exact ⟨es.length, some ⟨w'.heap.size, 0, none⟩, 0, Nat.le_refl _, by go_num, by rw [back_start]; rfl, by rw [back_start]; exact HO4.out, HB4.out⟩
        case round =>
          obtain ⟨k, A3, c3, hk, rfl, rfl, ho, hb⟩ := hrel
          obtain ⟨wo2, rfl⟩ : ∃ wo2 : World, wo2 = wr := ⟨_, rfl⟩
          have hsz3 := hb.size
          have HOW := Lib.hid ho
          have HB5 := Lib.hid hb
          have hbk := back_len es k
          clear HO4 HB4 hb ho
          rcases k with _ | k
          · have hki : (((0 : Nat) : Int) - 1) = -1 := rfl
            have hpos : 1 ≤ es.length := by have := itoa_pos n; rw [← HE.out] at this; simpa using this
            obtain ⟨b3, o3, rfl, _, hc3⟩ := Row.of_own HOW.out (by rw [bv_len, hbk]; omega)
            have HCV := run_convert_bytes_back (P := Tryz.prog) wo2 56 9 5 ⟨b3, o3, none⟩ c3 (back es 0) Tryz.underlying56 Tryz.underlying5 Tryz.underlying9 (fun j hj => by
              rw [add_at]
              have := hc3 j _ (List.getElem?_eq_getElem (by rw [bv_len]; exact hj))
              simpa [bv] using this)
            rw [show (back es 0).length = es.length by rw [hbk]; rfl] at HCV
            have HF := Lib.hid (show (Ending.returned (Value.string ⟨(back es 0).toArray⟩) = .returned (.string ⟨(itoa n).toArray⟩)) ∧ Below w.heap.size w wo2 from ⟨by rw [back_end, HE.out], HB2.out.trans (HB5.out.mono hsz2)⟩)
            clear hc3 HOW
            rw [hki]
            go_wp2
            go_ret
            exact HF.out
          · have hki : (((k + 1 : Nat) : Int) - 1) = (k : Int) := by omega
            have hkl : k < es.length := by omega
            obtain ⟨b2, o2, rfl, hb2, hc2⟩ := (HS.out.below HB5.out).at_ (k := k) (by rw [bv_len]; omega)
            have hx : (bv es)[k]'(by rw [bv_len]; omega) = .int .u8 ((es.getD k 0).toNat : Int) := by simp [bv, List.getD_eq_getElem?_getD, List.getElem?_eq_getElem hkl]
            rw [hx] at hc2
            clear hx
            obtain ⟨xb, hxb⟩ : ∃ xb : Int, xb = ((es.getD k 0).toNat : Int) := ⟨_, rfl⟩
            rw [← hxb] at hc2
            have HX := Lib.hid (show Value.int .u8 xb = Value.int .u8 ((es.getD k 0).toNat : Int) by rw [hxb])
            clear hxb
            rw [hki]
            have HBK := Lib.hid (back_step hkl)
            go_wp2_with (at_builtin; refine wpList_append_own _ rfl _ _ 56 rfl w'.heap.size 5 i0 (.int .u8 0) 1 1 Tryz.underlying56 hi hz0 hz1 hz2 rfl (by decide) (.slice A3 (back es (k + 1)).length c3) (back es (k + 1)).length (bv (back es (k + 1))) rfl (by exact HOW.out.alloc _) ⟨wo2.heap.size, 0, none⟩ 1 1 [.int .u8 xb] rfl rfl (cell_one_new _ _ _) (by intro u hu; simp at hu; subst hu; rfl) (by unfold maxLen; omega) (by omega) (by simp; omega) ?_; intro v2 w2 ho hg _; have HG := Lib.hid hg; have HO2 := Lib.hid ho; clear ho hg)
            obtain ⟨A4, c4, rfl, ho4⟩ := own_more HO2.out HBK.out HX.out
            go_roundw
            case rel => exact ⟨k, A4, c4, by omega, by go_num, rfl, ho4, (HB5.out.alloc hsz3 _).grown HG.out (by simp; omega) (fun q hq => (HOW.out.lt q hq).1)⟩
            case measure => simp [intOf]; try omega
      · have hnb : decide (n < 0) = false := by simp [hn]
        obtain ⟨es, rfl⟩ : ∃ es, es = ds := ⟨_, rfl⟩
        have HE := Lib.hid (show es.reverse = itoa n by rw [HR.out]; unfold itoa; rw [if_neg hn]; congr 1; omega)
        have hel : es.length ≤ 20 := by omega
        obtain ⟨A2, rfl⟩ : ∃ A2, A2 = A := ⟨_, rfl⟩
        obtain ⟨c2, rfl⟩ : ∃ c2, c2 = c := ⟨_, rfl⟩
        obtain ⟨w', rfl⟩ : ∃ w', w' = wo := ⟨_, rfl⟩
        have HB2 := HB
        have HO3 := HOW
        clear HOW HB HR
        go_wp2
        have HS := Lib.hid (Row.of_own HO3.out)
        have hsz2 := HB2.out.size
        have HO4 := Lib.hid (World.ownsRow_made (e := 5) (size := 1) w' #[] 0 (Nat.le_refl _) (Nat.zero_le _) rfl)
        have HB4 := Lib.hid (show Below w'.heap.size w' (w'.alloc (.cells #[] 5)) from (Below.refl _ _).alloc (Nat.le_refl _) _)
        go_loopw [6, 7] (fun v iv wr => ∃ (k : Nat) (A : Option Addr) (c : Nat), k ≤ es.length ∧ iv = .int .i64 ((k : Int) - 1) ∧ v = .slice A (back es k).length c ∧ wr.ownsRow w'.heap.size 5 1 v (back es k).length (bv (back es k)) ∧ Below w'.heap.size w' wr) (fun _ i _ => (intOf i + 1).toNat)
        case atStart => exact ⟨es.length, some ⟨w'.heap.size, 0, none⟩, 0, Nat.le_refl _, by go_num, by rw [back_start]; rfl, by rw [back_start]; exact HO4.out, HB4.out⟩
        case round =>
          obtain ⟨k, A3, c3, hk, rfl, rfl, ho, hb⟩ := hrel
          obtain ⟨wo2, rfl⟩ : ∃ wo2 : World, wo2 = wr := ⟨_, rfl⟩
          have hsz3 := hb.size
          have HOW := Lib.hid ho
          have HB5 := Lib.hid hb
          have hbk := back_len es k
          clear HO4 HB4 hb ho
          rcases k with _ | k
          · have hki : (((0 : Nat) : Int) - 1) = -1 := rfl
            have hpos : 1 ≤ es.length := by have := itoa_pos n; rw [← HE.out] at this; simpa using this
            obtain ⟨b3, o3, rfl, _, hc3⟩ := Row.of_own HOW.out (by rw [bv_len, hbk]; omega)
            have HCV := run_convert_bytes_back (P := Tryz.prog) wo2 56 9 5 ⟨b3, o3, none⟩ c3 (back es 0) Tryz.underlying56 Tryz.underlying5 Tryz.underlying9 (fun j hj => by
              rw [add_at]
              have := hc3 j _ (List.getElem?_eq_getElem (by rw [bv_len]; exact hj))
              simpa [bv] using this)
            rw [show (back es 0).length = es.length by rw [hbk]; rfl] at HCV
            have HF := Lib.hid (show (Ending.returned (Value.string ⟨(back es 0).toArray⟩) = .returned (.string ⟨(itoa n).toArray⟩)) ∧ Below w.heap.size w wo2 from ⟨by rw [back_end, HE.out], HB2.out.trans (HB5.out.mono hsz2)⟩)
            clear hc3 HOW
            rw [hki]
            go_wp2
            go_ret
            exact HF.out
          · have hki : (((k + 1 : Nat) : Int) - 1) = (k : Int) := by omega
            have hkl : k < es.length := by omega
            obtain ⟨b2, o2, rfl, hb2, hc2⟩ := (HS.out.below HB5.out).at_ (k := k) (by rw [bv_len]; omega)
            have hx : (bv es)[k]'(by rw [bv_len]; omega) = .int .u8 ((es.getD k 0).toNat : Int) := by simp [bv, List.getD_eq_getElem?_getD, List.getElem?_eq_getElem hkl]
            rw [hx] at hc2
            clear hx
            obtain ⟨xb, hxb⟩ : ∃ xb : Int, xb = ((es.getD k 0).toNat : Int) := ⟨_, rfl⟩
            rw [← hxb] at hc2
            have HX := Lib.hid (show Value.int .u8 xb = Value.int .u8 ((es.getD k 0).toNat : Int) by rw [hxb])
            clear hxb
            rw [hki]
            have HBK := Lib.hid (back_step hkl)
            go_wp2_with (at_builtin; refine wpList_append_own _ rfl _ _ 56 rfl w'.heap.size 5 i0 (.int .u8 0) 1 1 Tryz.underlying56 hi hz0 hz1 hz2 rfl (by decide) (.slice A3 (back es (k + 1)).length c3) (back es (k + 1)).length (bv (back es (k + 1))) rfl (by exact HOW.out.alloc _) ⟨wo2.heap.size, 0, none⟩ 1 1 [.int .u8 xb] rfl rfl (cell_one_new _ _ _) (by intro u hu; simp at hu; subst hu; rfl) (by unfold maxLen; omega) (by omega) (by simp; omega) ?_; intro v2 w2 ho hg _; have HG := Lib.hid hg; have HO2 := Lib.hid ho; clear ho hg)
            obtain ⟨A4, c4, rfl, ho4⟩ := own_more HO2.out HBK.out HX.out
            go_roundw
            case rel => exact ⟨k, A4, c4, by omega, by go_num, rfl, ho4, (HB5.out.alloc hsz3 _).grown HG.out (by simp; omega) (fun q hq => (HOW.out.lt q hq).1)⟩
            case measure => simp [intOf]; try omega
    · have hmb : (m != 0) = true := by simp [hm]
      have HN := Lib.hid (pre_next (by omega : m.natAbs ≠ 0) HI.out)
      clear HI
      by_cases hd : m.tmod 10 < 0
      · have hdb : decide (m.tmod 10 < 0) = true := by simp [hd]
        have HX := Lib.hid (dig_neg hd)
        go_wp2_with (at_builtin; refine wpList_append_own _ rfl _ _ 56 rfl w.heap.size 5 i0 (.int .u8 0) 1 1 Tryz.underlying56 hi hz0 hz1 hz2 rfl (by decide) (.slice A ds.length c) ds.length (bv ds) rfl (by exact HOW.out.alloc _) ⟨wo.heap.size, 0, none⟩ 1 1 [_] rfl rfl (cell_one_new _ _ _) (by intro u hu; simp at hu; subst hu; rfl) (by unfold maxLen; omega) (by omega) (by simp; omega) ?_; intro v' w' ho hg _; have HG := Lib.hid hg; have HO2 := Lib.hid ho; clear ho hg)
        have hq : (m.tdiv 10).natAbs = m.natAbs / 10 := Int.natAbs_tdiv m 10
        obtain ⟨A2, c2, rfl, ho2⟩ := own_more HO2.out rfl HX.out
        go_roundw
        case rel => exact ⟨m.tdiv 10, ds ++ [dig m.natAbs], A2, c2, by go_num, rfl, ho2, (HB.out.alloc hsz _).grown HG.out (by simp; omega) (fun q hq => (HOW.out.lt q hq).1), Lib.hid (by rw [Int.natAbs_tdiv]; exact HN.out), by omega, by omega⟩
        case measure => have hm2 : m.natAbs ≠ 0 := by omega
                        simp only [intOf]; omega
      · have hdb : decide (m.tmod 10 < 0) = false := by simp [hd]
        have HX := Lib.hid (dig_pos hd)
        go_wp2_with (at_builtin; refine wpList_append_own _ rfl _ _ 56 rfl w.heap.size 5 i0 (.int .u8 0) 1 1 Tryz.underlying56 hi hz0 hz1 hz2 rfl (by decide) (.slice A ds.length c) ds.length (bv ds) rfl (by exact HOW.out.alloc _) ⟨wo.heap.size, 0, none⟩ 1 1 [_] rfl rfl (cell_one_new _ _ _) (by intro u hu; simp at hu; subst hu; rfl) (by unfold maxLen; omega) (by omega) (by simp; omega) ?_; intro v' w' ho hg _; have HG := Lib.hid hg; have HO2 := Lib.hid ho; clear ho hg)
        have hq : (m.tdiv 10).natAbs = m.natAbs / 10 := Int.natAbs_tdiv m 10
        obtain ⟨A2, c2, rfl, ho2⟩ := own_more HO2.out rfl HX.out
        go_roundw
        case rel => exact ⟨m.tdiv 10, ds ++ [dig m.natAbs], A2, c2, by go_num, rfl, ho2, (HB.out.alloc hsz _).grown HG.out (by simp; omega) (fun q hq => (HOW.out.lt q hq).1), Lib.hid (by rw [Int.natAbs_tdiv]; exact HN.out), by omega, by omega⟩
        case measure => have hm2 : m.natAbs ≠ 0 := by omega
                        simp only [intOf]; omega
end Go.Proofs.YthbnfjedjijacaaGreatDoor
