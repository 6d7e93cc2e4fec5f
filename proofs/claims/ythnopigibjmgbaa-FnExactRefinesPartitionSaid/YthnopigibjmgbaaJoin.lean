/- The join of two partitions by the program: the classes of equal numbers made one. -/
import Derived.Test.YthnopigibjmgbaaProg
import Derived.WalkKit
import Derived.ProofKit
import Derived.BigQuiet
import Derived.Outline
import Derived.IntWalk
import Derived.StillTailTactics
import Derived.Maps.OwnSet
import Derived.Maps.OwnOps
import Derived.Test.YthnopigibjmgbaaMem
import Derived.Test.YthnopigibjmgbaaOwn
import Derived.Test.YthnopigibjmgbaaTurn
import Derived.Test.YthnopigibjmgbaaLawI
import Derived.Test.YthnopigibjmgbaaLawI2
import Derived.Test.YthnopigibjmgbaaPartM
import Derived.Test.YthnopigibjmgbaaPart
import Derived.Test.YthnopigibjmgbaaPart2
import Derived.Test.YthnopigibjmgbaaPart3
import Derived.Test.YthnopigibjmgbaaForM
import Derived.Test.YthnopigibjmgbaaFor
import Derived.Test.YthnopigibjmgbaaFor2
import Derived.Test.YthnopigibjmgbaaJoinM
namespace Go.Proofs.Ythnopigibjmgbaa
open Go.RowKit Go.Maps
/-- A map from the numbers at the first places of q to their first places. -/
def FirstMap (D : DataW Unit) (q : List Int) (k : Nat) : Prop :=
  (∀ x, Maps.has D (kI x) = decide (x ∈ q.take k)) ∧ ∀ x, x ∈ q.take k → D.atKey (kI x) (.lit (.int .i64 0)) = .lit (.int .i64 (q.idxOf x))
theorem FirstMap.nil (q : List Int) : FirstMap (.map []) q 0 := ⟨fun x => by simp; rfl, fun x h => by simp at h⟩
theorem FirstMap.old {D : DataW Unit} {q : List Int} {k : Nat} {u : Int} (h : FirstMap D q k) (hu : q[k]? = some u) (hm : u ∈ q.take k) : FirstMap D q (k + 1) := by
  have e : ∀ x, x ∈ q.take (k + 1) ↔ x ∈ q.take k := fun x => by
    rw [take_one _ _ _ hu, List.mem_append, List.mem_singleton]
    exact ⟨fun h => h.elim id fun e => by rw [e]; exact hm, .inl⟩
  exact ⟨fun x => by rw [h.1 x]; exact decide_eq_decide.2 (e x).symm, fun x hx => h.2 x ((e x).1 hx)⟩
theorem first_new {q : List Int} {k : Nat} {u : Int} (hu : q[k]? = some u) (hm : u ∉ q.take k) : q.idxOf u = k := by
  have h1 : q.idxOf u ≤ k := by rw [← firstOf_eq hu]; exact firstOf_self hu
  have h2 := firstOf_at hu
  rw [firstOf_eq hu] at h2
  rcases Nat.lt_or_ge (q.idxOf u) k with h | h
  · exact absurd (List.mem_of_getElem? (i := q.idxOf u) (by rw [List.getElem?_take, if_pos h]; exact h2)) hm
  · omega
theorem FirstMap.new {D : DataW Unit} {q : List Int} {k : Nat} {u : Int} (h : FirstMap D q k) (ht : Maps.Tidy D) (hu : q[k]? = some u) (hm : u ∉ q.take k) : FirstMap (D.put (kI u) (.lit (.int .i64 k))) q (k + 1) := by
  refine ⟨fun x => ?_, fun x hx => ?_⟩
  · rw [take_one _ _ _ hu]
    by_cases e : x = u
    · subst e; rw [Maps.has_put_same ht.isMap (kI_key _)]; simp
    · rw [Maps.has_put_other (fun h => e (kI_inj _ _ h)), h.1]; simp [e]
  · by_cases e : x = u
    · subst e; rw [Maps.atKey_put_same ht.isMap (kI_key _), first_new hu hm]
    · rw [take_one _ _ _ hu, List.mem_append, List.mem_singleton] at hx
      rw [Maps.atKey_put_other (fun h => e (kI_inj _ _ h)), h.2 x (hx.elim id fun h => absurd h e)]
theorem Forest.grown {w w' : World} {lo n fb g b : Nat} {R d : Nat → Nat} (h : Forest w lo n fb g R d) (hg : w.grownBy w' (some b)) (h1 : g ≠ b) (h2 : fb ≠ b) : Forest w' lo n fb g R d := by
  obtain ⟨hne, hcf, ps, hps, hrow⟩ := h
  exact ⟨hne, cell_grown hg hcf h2, ps, hps, hrow.kept hg (.inr (by simp [Value.ownBlock]; exact h1))⟩
theorem Forest.fb_lt {w : World} {lo n fb g : Nat} {R d : Nat → Nat} (h : Forest w lo n fb g R d) : fb < w.heap.size := World.block_lt_of_cell? w _ h.2.1
set_option maxHeartbeats 4000000 in
set_option maxRecDepth 100000 in
theorem uniteBlocks_any (lo n fb g : Nat) (R d : Nat → Nat) (A : Option Addr) (c : Nat) (q : List Int) (w : World) (B : Nat) (h : Forest w lo n fb g R d) (hq : IRow w B A q) (hB : B ≤ lo) (hlo : lo ≤ w.heap.size) (l : q.length = n) (m : n ≤ 2000000) (hwf : ∀ x ∈ q, (Lit.int .i64 x).wf = true) :
    Calls Try.prog 84 #[.pointer (some ⟨fb, 0, none⟩), .slice A n c] w fun e w' => e = .returned (.tuple #[]) ∧ (∃ d', Forest w' lo n fb g (blocksR R q n) d') ∧ Below lo w w' := by
  have L := Lib.hid l
  have HWF := Lib.hid hwf
  have hgl : lo ≤ g ∧ g < w.heap.size := by obtain ⟨_, _, ps, _, hrow⟩ := h; exact hrow.lt g rfl
  have F0 := Lib.hid h
  have HNB := Lib.hid (show fb ≠ w.heap.size from by have := h.fb_lt; omega)
  clear l hwf h
  have hmm := @run_makeMap Try.prog
  have law := int_keyed Try.underlying2
  go_enter Try.func84, Try.ntmps84
  have hm0 : (w.alloc (.map #[] 0)).ownsMap Try.prog 2 (plainElem (H := Unit) Try.prog 2) w.heap.size 0 (.map []) := World.ownsMap_made w _ _ _
  have hb0 : Below lo w (w.alloc (.map #[] 0)) := (Below.refl _ _).alloc hlo _
  have F1 := Lib.hid (F0.out.below ((Below.refl w.heap.size w).alloc (Nat.le_refl _) (.map #[] 0)))
  go_wp2
  clear hmm
  go_loopw [12] (fun i wr => ∃ (k : Nat) (Dm : DataW Unit), k ≤ n ∧ i = .int .i64 k ∧ Hid (FirstMap Dm q k) ∧ Below lo w wr ∧ wr.ownsMap Try.prog 2 (plainElem (H := Unit) Try.prog 2) w.heap.size k Dm ∧ Hid (∃ d', Forest wr lo n fb g (blocksR R q k) d') ∧ w.heap.size < wr.heap.size) (fun i _ => n - (intOf i).toNat)
  case atStart => exact ⟨0, _, Nat.zero_le _, rfl, FirstMap.nil q, hb0, hm0, Lib.hid ⟨_, F1.out⟩, by simp⟩
  case round =>
    obtain ⟨k, Dm, hk, rfl, HM, hb, hmap, HF, hsz⟩ := hrel
    clear hm0 hb0 F1
    by_cases hlt : k < n
    · obtain ⟨b, o, u, rfl, hbB, hc, hu⟩ := (hq.below (hb.mono hB)).at_ (k := k) (by rw [L.out]; exact hlt)
      have hkey : keyOf Try.prog 2 (.int .i64 u) = some (kI u) := keyOf_int_mk Try.underlying2 (HWF.out u (List.mem_of_getElem? hu.out))
      have HKEY := Lib.hid hkey
      clear hkey
      obtain ⟨d', hF⟩ := HF.out
      have HF := Lib.hid hF
      have HB := Lib.hid hb
      have hfk : firstOf q k < n := by have := firstOf_self hu.out; omega
      have HFO := Lib.hid (firstOf_eq hu.out)
      clear hb hF
      by_cases hmem : u ∈ q.take k
      · have hhas : Maps.has Dm (kI u) = true := by rw [HM.out.1]; exact decide_eq_true hmem
        have HMEM := Lib.hid hmem
        clear hmem
        go_wp2_with (first
          | (at_lookup; refine wpList_lookup_own_ok_int _ rfl _ _ 70 rfl 2 2 .i64 law Try.underlying70 Try.underlying2 (zero64 _) w.heap.size k Dm rfl hmap _ (kI u) rfl HKEY.out ?_; intro cc hat hwc; obtain rfl : cc = ((firstOf q k : Nat) : Int) := (lit_inj ((HM.out.2 u HMEM.out).symm.trans hat)).symm.trans (by rw [HFO.out]); clear hat)
          | (go_at_call 64; refine (unite_any lo n fb g _ d' k (firstOf q k) wr HF.out hlt hfk m).mono ?_; rintro e w2 ⟨rfl, hf2, hg2⟩; have HF2 := Lib.hid hf2; have HG2 := Lib.hid hg2; clear hf2 hg2))
        go_roundw
        case rel =>
          have hg2 := HG2.out
          exact ⟨k + 1, Dm, by omega, by go_num, Lib.hid (HM.out.old hu.out HMEM.out), HB.out.grown hg2 (by omega) (fun g' e => by cases e; exact hgl.1), (hmap.kept hg2 (by simp; omega)).mono (Nat.le_succ k), HF2, by have := hg2.size; omega⟩
        case measure => simp [intOf]; omega
      · have hhas : Maps.has Dm (kI u) = false := by rw [HM.out.1]; exact decide_eq_false hmem
        have HMEM := Lib.hid hmem
        have HT := Lib.hid (hmap.tidy law)
        have HE := Lib.hid ((firstOf_eq hu.out).trans (first_new hu.out hmem))
        clear hmem
        go_wp2_with (first
          | (at_lookup; refine wpList_lookup_own_ok_int _ rfl _ _ 70 rfl 2 2 .i64 law Try.underlying70 Try.underlying2 (zero64 _) w.heap.size k Dm rfl hmap _ (kI u) rfl HKEY.out ?_; intro cc hat hwc; clear hat)
          | (at_mapUpdate; refine wpList_mapUpdate_own _ rfl _ _ _ 70 rfl 2 2 law Try.underlying70 _ w.heap.size k Dm rfl hmap (by unfold maxLen; omega) _ _ (kI u) rfl rfl HKEY.out _ [] (plainElem_int Try.underlying2 (wf_small _ (by omega))) ?_; intro w2 hmap2 hg2; have HM2 := Lib.hid hmap2; have HF2 := Lib.hid (Forest.grown HF.out hg2 (by omega) (fun e => HNB.out e)); have HG2 := Lib.hid hg2; clear hg2 hmap2)
          | (go_at_call 64; refine (unite_any lo n fb g _ d' k k _ HF2.out hlt hlt m).mono ?_; rintro e w3 ⟨rfl, hf3, hg3⟩; have HF3 := Lib.hid hf3; have HG3 := Lib.hid hg3; clear hf3 hg3))
        go_roundw
        case rel =>
          have hg2 := HG2.out
          have hg3 := HG3.out
          have hb2 := HB.out.grown hg2 (by omega) (fun j hj => by cases hj; exact hlo)
          exact ⟨k + 1, _, by omega, by go_num, Lib.hid (HM.out.new HT.out hu.out HMEM.out), hb2.grown hg3 (by have := hg2.size; omega) (fun g' e => by cases e; exact hgl.1), (HM2.out.kept hg3 (by simp; omega)), Lib.hid (by
            obtain ⟨d3, h3⟩ := HF3.out
            refine ⟨d3, ?_⟩
            show Forest w3 lo n fb g (uniR (blocksR R q k) k (firstOf q k)) d3
            rw [HE.out]; exact h3), by have := hg2.size; have := hg3.size; omega⟩
        case measure => simp [intOf]; omega
    · obtain rfl : k = n := by omega
      clear hmap
      go_wp2
      exact bodyPost_end (results_none rfl _ _ _) rfl ⟨rfl, HF.out, hb⟩
end Go.Proofs.Ythnopigibjmgbaa
