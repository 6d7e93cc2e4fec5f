/- The program divides a text at commas and reads each piece as a number. -/
import Derived.Test.YtbgmhndmldekbaaDoorRdI
import Derived.Test.YtbgmhndmldekbaaDoorSplW
import Derived.Test.YtbgmhndmldekbaaDoorMath
import Derived.Test.YtbgmhndmldekbaaDoorLawI
import Derived.Shelf.Strings.Split
namespace Go.Proofs
open Go.Shelf
shelf_lay Lays.n146 Nm 146 at Tryd as Tryd.laysSplit
end Go.Proofs
namespace Go.Proofs.YtbgmhndmldekbaaDoor
open Go.RowKit Go.Lib
/-- What of the library's variables is read: its errors, its table of powers, the longest text that its search takes. -/
structure TxtTabs (w : World) : Prop where
  num : NumTabs w
  max : ∃ m, w.cell? ⟨1, 0, none⟩ = some (.int .i64 m)
theorem TxtTabs.below {w w' : World} (h : TxtTabs w) (hb : Below w.heap.size w w') : TxtTabs w' :=
  ⟨h.num.below hb, by obtain ⟨m, h1⟩ := h.max; exact ⟨m, cell_below h1 hb⟩⟩
theorem pcs_sum (b : UInt8) : ∀ (l : List UInt8) (p : List UInt8), p ∈ pcs b l → p.length ≤ l.length
  | [], p, h => by simp [pcs] at h; simp [h]
  | c :: r, p, h => by
    simp only [pcs] at h
    by_cases hc : c = b
    · rw [if_pos hc] at h
      rcases List.mem_cons.1 h with h | h
      · simp [h]
      · have := pcs_sum b r p h; rw [List.length_cons]; omega
    · rw [if_neg hc] at h
      cases hp : pcs b r with
      | nil => exact absurd hp (pcs_ne b r)
      | cons q qs =>
        rw [hp] at h
        rcases List.mem_cons.1 h with h | h
        · subst h
          have := pcs_sum b r q (by rw [hp]; simp)
          rw [List.length_cons, List.length_cons]; omega
        · have := pcs_sum b r p (by rw [hp]; simp [h])
          rw [List.length_cons]; omega
theorem split_call (s : ByteArray) (b : UInt8) (w : World) (hsz : s.size ≤ 1048576) (hm : ∃ m, w.cell? ⟨1, 0, none⟩ = some (.int .i64 m)) :
    Calls Tryd.prog 39 #[.string s, .string ⟨#[b]⟩] w fun e w' => e = .returned (.slice (some ⟨w.heap.size, 0, none⟩) (pcs b s.data.toList).length (pcs b s.data.toList).length) ∧
      Row w' w'.heap.size (some ⟨w.heap.size, 0, none⟩) (strs (pcs b s.data.toList)) ∧ Below w.heap.size w w' := by
  obtain ⟨m, hm⟩ := hm
  have e1 : countB s ⟨#[b]⟩ + 1 = (pcs b s.data.toList).length := by rw [countB_one, pcs_count]
  have e2 : ((splitB ⟨#[b]⟩ 0 (countB s ⟨#[b]⟩) s).map Value.string) = strs (pcs b s.data.toList) := by
    rw [splitB_pcs, List.map_map]; rfl
  refine (Any.strings_Split Tryd.laysSplit (by kernel_rfl) s ⟨#[b]⟩ m w (by omega) hm (Nat.le_refl _)).mono fun e w' ⟨he, hw⟩ => ?_
  rw [e1] at he
  rw [e2] at hw
  subst hw
  refine ⟨he, fun _ => ⟨w.heap.size, 0, rfl, by simp, fun i v hv => ?_⟩, (Below.refl _ _).alloc (Nat.le_refl _) _⟩
  rw [Nat.zero_add, World.cell?_alloc_at _ _ _ _ rfl, List.getElem?_toArray]
  exact hv
theorem snoc_upd {vs : List Int} {n : Int} {k N : Nat} (hk : vs.length = k) (hN : k < N) :
    ((vs.map (Value.int .i64)) ++ List.replicate (N - k) (Value.int .i64 0)).set k (Value.int .i64 n) = ((vs ++ [n]).map (Value.int .i64)) ++ List.replicate (N - (k + 1)) (Value.int .i64 0) := by
  have h1 : N - k = (N - (k + 1)) + 1 := by omega
  rw [h1, List.replicate_succ, List.set_append_right _ _ (by rw [List.length_map]; omega), List.length_map, hk, Nat.sub_self, List.set_cons_zero, List.map_append, List.append_assoc]
  rfl
/-- What splitNumbers returns: the numbers of a text's pieces, in a slice of its own, or none. -/
def SplRet (w : World) (l : List UInt8) (e : Ending) (w' : World) : Prop :=
  ((∃ vs A c, Read yes (pcs 44 l) vs ∧ e = .returned (.tuple #[.slice A vs.length c, .bool true]) ∧ OwnV w' w.heap.size w'.heap.size 2 1 A vs.length c (vs.map (Value.int .i64))) ∨
   ((∀ vs, ¬ Read yes (pcs 44 l) vs) ∧ e = .returned (.tuple #[.slice none 0 0, .bool false]))) ∧ Below w.heap.size w w'
theorem Read.start {P : Int → Bool} {ps : List (List UInt8)} : Read P (ps.take 0) [] := ⟨rfl, rfl⟩
theorem own_lowerS {w : World} {B C : Nat} {T : TypeId} {s n : Nat} {v : Value} {vs : List Value} (h : w.ownsRow B T s v n vs) (hB : C ≤ B) : w.ownsRow C T s v n vs := by
  refine ⟨h.1, ?_⟩
  rcases h.2 with hn | ⟨g, cap, cur, e, hbg, rest⟩
  · exact .inl hn
  · exact .inr ⟨g, cap, cur, e, Nat.le_trans hB hbg, rest⟩
set_option maxHeartbeats 1600000 in
set_option maxRecDepth 100000 in
theorem implSplit_any (s : ByteArray) (w : World) (hsz : s.size ≤ 1048576) (ht : TxtTabs w) :
    Calls Tryd.prog 31 #[.string s, .string ⟨#[44]⟩] w fun e w' => SplRet w s.data.toList e w' := by
  obtain ⟨i0, hi, hz0, hz1, hz2⟩ := info_parts info_i64
  have HT := Lib.hid ht
  have HSum := Lib.hid (pcs_sum 44 s.data.toList)
  have hcnt : (pcs 44 s.data.toList).length ≤ 1048577 := by
    rw [pcs_count]
    have := List.count_le_length (a := (44 : UInt8)) (l := s.data.toList)
    rw [byte_len] at this
    omega
  have HBL := Lib.hid (byte_len s)
  have hpos : 1 ≤ (pcs 44 s.data.toList).length := List.length_pos_iff.2 (pcs_ne _ _)
  have HC := Lib.hid (split_call s 44 w hsz ht.max)
  clear ht
  unfold SplRet
  generalize hps : pcs 44 s.data.toList = ps at *
  have HPS := Lib.hid hps
  clear hps
  generalize hN : ps.length = N at *
  have HN := Lib.hid hN
  clear hN
  go_enter Tryd.func31, Tryd.ntmps31
  go_wp2_with fail
  refine HC.out.mono ?_; rintro e w1 ⟨rfl, hrow, hb1⟩
  have HRow := Lib.hid hrow
  have HB1 := Lib.hid hb1
  have hs1 := hb1.size
  have hw1 : w.heap.size < w1.heap.size := by
    obtain ⟨b, off, e, hb, _⟩ := hrow (by rw [strs_len, HN.out]; omega)
    injection e with e; injection e with e; omega
  clear hrow hb1
  go_wp2_with (at_make; refine wpList_make_full _ rfl _ _ _ rfl w1.heap.size 2 i0 (.int .i64 0) 1 Tryd.underlying24 hi hz0 hz1 .i64 .i64 _ _ N rfl rfl rfl rfl (by rw [hz2]; omega) (by unfold maxLen; omega) (Nat.le_refl _) ?_; intro w2 hown2 hg2)
  have H0 : w2.ownsRow w1.heap.size 2 1 (.slice (some ⟨w1.heap.size, 0, none⟩) N N) N ((([] : List Int).map (Value.int .i64)) ++ List.replicate (N - 0) (.int .i64 0)) := by
    have e := toList_madeCells_one (.int .i64 0) N
    have e2 : (Value.int .i64 0).cells = #[.int .i64 0] := rfl
    rw [e2, Nat.mul_one, e] at hown2
    simpa using hown2
  have hb2 : Below w1.heap.size w1 w2 := (Below.refl _ _).grown hg2 (Nat.le_refl _) (by simp)
  clear hown2 hg2 hi hz0 hz1 hz2
  go_loopw [8, 9, 10, 11, 20] (fun _ _ _ _ iv wr => ∃ (k : Nat) (vs : List Int), k ≤ N ∧ vs.length = k ∧ iv = .int .i64 k ∧ Below w1.heap.size w1 wr ∧ wr.ownsRow w1.heap.size 2 1 (.slice (some ⟨w1.heap.size, 0, none⟩) N N) N ((vs.map (Value.int .i64)) ++ List.replicate (N - k) (.int .i64 0)) ∧ Hid (Read yes (ps.take k) vs)) (fun _ _ _ _ iv _ => N - (intOf iv).toNat)
  case atStart => exact ⟨0, [], Nat.zero_le _, rfl, rfl, hb2, H0, Lib.hid Read.start⟩
  case round =>
    obtain ⟨k, vs, hk, hvl, rfl, hb, hown, HI⟩ := hrel
    obtain ⟨wo, rfl⟩ : ∃ wo : World, wo = wr := ⟨_, rfl⟩
    have HB := Lib.hid hb
    have HO := Lib.hid hown
    have hsz2 := hb.size
    have HVL := Lib.hid hvl
    clear H0 hb2 hb hown hvl
    by_cases hlt : k < N
    · obtain ⟨b, off, e, hbb, hc⟩ := (HRow.out.below HB.out).at_ (k := k) (by rw [strs_len, HN.out]; exact hlt)
      injection e with e
      injection e with e1 e2
      subst e1 e2
      rw [Nat.zero_add] at hc
      obtain ⟨p, hp⟩ : ∃ p, ps[k]? = some p := ⟨_, List.getElem?_eq_getElem (by rw [HN.out]; exact hlt)⟩
      have hc' : wo.cell? ⟨w.heap.size, k, none⟩ = some (.string ⟨p.toArray⟩) := by
        rw [hc]
        have : (strs ps)[k]? = some (.string ⟨p.toArray⟩) := by unfold strs; rw [List.getElem?_map, hp]; rfl
        rw [List.getElem?_eq_getElem (by rw [strs_len, HN.out]; exact hlt)] at this
        exact this
      have HP := Lib.hid hp
      have hple : (⟨p.toArray⟩ : ByteArray).size ≤ 1048576 := by
        rw [list_size]
        have := HSum.out p (List.mem_of_getElem? hp)
        rw [HBL.out] at this
        omega
      have HRd := Lib.hid (implRead_any ⟨p.toArray⟩ wo hple ((HT.out.below HB1.out).num.below HB.out))
      have ep : (⟨p.toArray⟩ : ByteArray).data.toList = p := rfl
      rw [ep] at HRd
      clear hc hp ep hple
      generalize (⟨p.toArray⟩ : ByteArray) = word at *
      rcases hnum : num p with _ | v
      · have H := Lib.hid (fun vs => read_stop (P := yes) HP.out hnum vs)
        rw [hnum] at HRd
        go_wp2_with fail
        refine HRd.out.mono ?_; rintro e w3 ⟨rfl, hb3⟩
        unfold numRet
        have HB3 := Lib.hid (HB1.out.trans ((HB.out.trans (hb3.mono hsz2)).mono hs1))
        clear hb3
        go_wp2
        go_ret2
        exact ⟨.inr ⟨H.out, rfl⟩, HB3.out⟩
      · have HS := Lib.hid (HI.out.step HP.out hnum rfl)
        rw [hnum] at HRd
        go_wp2_with fail
        refine HRd.out.mono ?_; rintro e w3 ⟨rfl, hb3⟩
        unfold numRet
        have HB3 := Lib.hid (HB.out.trans (hb3.mono hsz2))
        have HO3 := Lib.hid (own_below' HO.out hb3)
        obtain ⟨⟨old, hx⟩, hf⟩ := own_some HO3.out (k := k) (by omega)
        clear hb3
        go_wp2
        go_roundw
        case rel => exact ⟨k + 1, vs ++ [v], by omega, by rw [List.length_append, HVL.out]; rfl, by go_num, HB3.out.setCell (Nat.le_refl _) _, by have := (HO3.out.stored k (.int .i64 v)).1; rwa [snoc_upd HVL.out hlt] at this, HS⟩
        case measure => simp [intOf]; omega
    · have hke : k = N := by omega
      have HR := Lib.hid (show Read yes ps vs by have := HI.out; rwa [List.take_of_length_le (by rw [HN.out]; omega)] at this)
      have hvN : vs.length = N := by rw [HVL.out, hke]
      have HF := Lib.hid (show wo.ownsRow w.heap.size 2 1 (.slice (some ⟨w1.heap.size, 0, none⟩) vs.length N) vs.length (vs.map (Value.int .i64)) by
        have := own_lowerS HO.out hs1
        rw [hke, Nat.sub_self, List.replicate_zero, List.append_nil, ← hvN] at this
        rw [← hvN]
        exact this)
      have HB3 := Lib.hid (HB1.out.trans (HB.out.mono hs1))
      rw [hvN] at HF
      go_wp2
      go_ret2
      exact ⟨.inl ⟨vs, some ⟨w1.heap.size, 0, none⟩, N, HR.out, by rw [hvN]; rfl, by rw [hvN]; exact OwnV.mk' HF.out⟩, HB3.out⟩
end Go.Proofs.YtbgmhndmldekbaaDoor
