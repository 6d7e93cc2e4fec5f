/- Numbering by first occurrences of pairs of small numbers. -/
import Derived.Test.YthnopigibjmgbaaProg
import Derived.WalkKit
import Derived.ProofKit
import Derived.BigQuiet
import Derived.Outline
import Derived.Maps.OwnSet
import Derived.Maps.OwnOps
import Derived.DeepKeys4
import Derived.MapViews
import Derived.WideKeyArgs2
import Derived.ChangeKeys
import Derived.Test.YthnopigibjmgbaaMem
import Derived.Test.YthnopigibjmgbaaLawI
import Derived.Test.YthnopigibjmgbaaPartM
import Derived.Test.YthnopigibjmgbaaPart
namespace Go.Proofs.Ythnopigibjmgbaa
open Go.RowKit Go.Maps
/-- A pair of numbers below 64. -/
structure Pr where
  a : Fin 64
  b : Fin 64
theorem Pr.same {x y : Pr} (h1 : x.a = y.a) (h2 : x.b = y.b) : x = y := by cases x; cases y; cases h1; cases h2; rfl
instance : DecidableEq Pr := fun x y =>
  if h : x.a = y.a ∧ x.b = y.b then isTrue (Pr.same h.1 h.2) else isFalse fun e => h ⟨by rw [e], by rw [e]⟩
def pv (x : Pr) : List Value := [.int .i64 (x.a.val : Int), .int .i64 (x.b.val : Int)]
def kLits (x : Pr) : List Lit := [.int .i64 (x.a.val : Int), .int .i64 (x.b.val : Int)]
def kP (x : Pr) : Lit := .string (keyBytes (kLits x))
theorem kLits_inj {x y : Pr} (h : kLits x = kLits y) : x = y := by
  unfold kLits at h
  injection h with h1 h2
  injection h2 with h2 _
  injection h1 with _ h1
  injection h2 with _ h2
  exact Pr.same (Fin.ext (by omega)) (Fin.ext (by omega))
theorem small64 (a : Fin 64) : (Lit.int .i64 (a.val : Int)).wf = true := WalkArith.wf_i64 (by have := a.isLt; omega)
set_option maxRecDepth 100000 in
theorem kP_inj (x y : Pr) (h : kP x = kP y) : x = y := by
  unfold kP at h
  injection h with h
  refine kLits_inj (keyBytes_inj ⟨rfl, rfl, trivial⟩ ?_ ?_ h)
  · intro a ha
    simp only [kLits, List.mem_cons, List.not_mem_nil, or_false] at ha
    rcases ha with rfl | rfl <;> exact small64 _
  · intro a ha
    simp only [kLits, List.mem_cons, List.not_mem_nil, or_false] at ha
    rcases ha with rfl | rfl <;> exact small64 _
theorem kP_key (x : Pr) : WideAt.IsKeyLit (kP x) := trivial
theorem laidOutP : laidOutB Try.prog = true := by kernel_rfl
theorem row2 : (75 : TypeId) < Try.prog.types.size := of_decide_eq_true (by kernel_rfl)
theorem wide2 : (match Try.prog.underlying 75 with | some (.array _ _) | some (.struct _) => true | _ => false) = true := by kernel_rfl
theorem deep2 : Try.prog.keyTypeAt 3 75 = true := by kernel_rfl
set_option maxRecDepth 100000 in
theorem law2 : Keyed Try.prog 75 := Keyed.of_law (deep_law_laid laidOutP (m := 3) (by omega) row2 deep2 wide2)
theorem typ2 : Try.prog.keyType 75 = true := by kernel_rfl
theorem cells2 : Try.prog.cellsOf 75 = 2 := by kernel_rfl
theorem cells1 : Try.prog.cellsOf 2 = 1 := by kernel_rfl
theorem pos_succ {n k : Nat} (h : k < n) : ∃ m, n = m + 1 := ⟨n - 1, by omega⟩
theorem lits1 {P : Program} {e : TypeId} (hi : P.underlying e = some (.int .i64)) (d : Nat) {a : Int} (h : (Lit.int .i64 a).wf = true) : P.keyLits (d + 1) e [.int .i64 a] = some [.int .i64 a] := by
  unfold Program.keyLits
  rw [hi]
  show (if IntKind.i64 = IntKind.i64 ∧ (Lit.int .i64 a).wf = true then _ else _) = _
  rw [if_pos ⟨rfl, h⟩]
theorem lits2 {P : Program} {t e : TypeId} (hu : P.underlying t = some (.array 2 e)) (hi : P.underlying e = some (.int .i64)) (h2 : P.cellsOf t = 2) (h1 : P.cellsOf e = 1) (d : Nat) {a b : Int} (h : (Lit.int .i64 a).wf = true) (h' : (Lit.int .i64 b).wf = true) : P.keyLits (d + 1 + 1) t [.int .i64 a, .int .i64 b] = some [.int .i64 a, .int .i64 b] := by
  rw [Program.keyLits.eq_def]
  simp only [hu]
  rw [if_pos (by rw [h2]; rfl), h1]
  rw [show List.range 2 = [0, 1] from rfl, List.mapM_cons, List.mapM_cons, List.mapM_nil]
  have e1 : ([Value.int .i64 a, .int .i64 b].drop (0 * 1)).take 1 = [.int .i64 a] := rfl
  have e2 : ([Value.int .i64 a, .int .i64 b].drop (1 * 1)).take 1 = [.int .i64 b] := rfl
  rw [e1, e2, lits1 hi d h, lits1 hi d h']
  rfl
theorem key_gen {P : Program} {t e : TypeId} (hu : P.underlying t = some (.array 2 e)) (hi : P.underlying e = some (.int .i64)) (h2 : P.cellsOf t = 2) (h1 : P.cellsOf e = 1) (ht : P.keyType t = true) (hs : ∃ m, P.types.size = m + 1) {a b : Int} (h : (Lit.int .i64 a).wf = true) (h' : (Lit.int .i64 b).wf = true) :
    keyOf P t (.agg #[.int .i64 a, .int .i64 b]) = some (.string (keyBytes [.int .i64 a, .int .i64 b])) := by
  obtain ⟨m, hm⟩ := hs
  have hf : (Value.agg #[.int .i64 a, .int .i64 b]).formed P t = true := by
    simp [Value.formed, hu, h2]
  unfold keyOf
  simp only [hu]
  rw [ht, hf, hm]
  show ((P.keyLits (m + 1 + 1) t [.int .i64 a, .int .i64 b]).map _) = _
  rw [lits2 hu hi h2 h1 m h h']
  rfl
theorem key2 (x : Pr) : keyOf Try.prog 75 (.agg #[.int .i64 (x.a.val : Int), .int .i64 (x.b.val : Int)]) = some (kP x) :=
  key_gen Try.underlying75 Try.underlying2 cells2 cells1 typ2 (pos_succ row2) (small64 _) (small64 _)
theorem info_pair : (Try.prog.info? 75).map (fun i => (i.zero, i.size, i.bytes)) = some (some (.agg #[.int .i64 0, .int .i64 0]), 2, 16) := by kernel_rfl
/-- A slice of pairs that reads as a list. -/
def PRow (w : World) (B : Nat) (A : Option Addr) (xs : List Pr) : Prop := Row w B A (xs.flatMap pv)
theorem flat_at : ∀ {xs : List Pr} {k : Nat} {x : Pr}, xs[k]? = some x → (xs.flatMap pv)[k * 2]? = some (.int .i64 (x.a.val : Int)) ∧ (xs.flatMap pv)[k * 2 + 1]? = some (.int .i64 (x.b.val : Int)) := by
  intro xs
  induction xs with
  | nil => intro k x h; simp at h
  | cons a xs ih =>
    intro k x h
    cases k with
    | zero => simp at h; subst h; exact ⟨rfl, rfl⟩
    | succ k =>
      have := ih (k := k) (by simpa using h)
      have e : (k + 1) * 2 = k * 2 + 2 := by omega
      rw [List.flatMap_cons, e]
      exact this
theorem PRow.at_ {w : World} {B : Nat} {A : Option Addr} {xs : List Pr} (h : PRow w B A xs) {k : Nat} (hk : k < xs.length) :
    ∃ b off x, A = some ⟨b, off, none⟩ ∧ b < B ∧ w.cell? ⟨b, off + k * 2, none⟩ = some (.int .i64 ((x : Pr).a.val : Int)) ∧ w.cell? ⟨b, off + k * 2 + 1, none⟩ = some (.int .i64 (x.b.val : Int)) ∧ Hid (xs[k]? = some x) := by
  have hx : xs[k]? = some xs[k] := List.getElem?_eq_getElem hk
  obtain ⟨h1, h2⟩ := flat_at hx
  obtain ⟨b, off, e, hb, hc⟩ := h (by have := (List.getElem?_eq_some_iff.1 h1).1; omega)
  exact ⟨b, off, xs[k], e, hb, hc _ _ h1, hc _ _ h2, hx⟩
theorem PRow.below {w w' : World} {B : Nat} {A : Option Addr} {xs : List Pr} (h : PRow w B A xs) (hb : Below B w w') : PRow w' B A xs := Row.below h hb
set_option maxHeartbeats 2000000 in
set_option maxRecDepth 100000 in
theorem numberPairs_any (A : Option Addr) (n c : Nat) (xs : List Pr) (w : World) (B : Nat) (h : PRow w B A xs) (hB : B ≤ w.heap.size) (l : xs.length = n) (m : n ≤ 2000000) :
    Calls Try.prog 81 #[.slice A n c] w fun e w' => e = .returned (.slice (some ⟨w.heap.size + 1, 0, none⟩) n n) ∧
      w'.ownsRow w.heap.size 2 1 (.slice (some ⟨w.heap.size + 1, 0, none⟩) n n) n ((normL xs).map (Value.int .i64)) ∧ Below w.heap.size w w' := by
  obtain ⟨i0, hi, hz0, hz1, hz2⟩ := info_parts info_i64
  have L := Lib.hid l
  clear l
  have hmm := @run_makeMap Try.prog
  have law := law2
  go_enter Try.func81, Try.ntmps81
  go_wp2_with (at_make; refine wpList_make_full _ rfl _ _ _ rfl w.heap.size 2 i0 (.int .i64 0) 1 Try.underlying30 hi hz0 hz1 .i64 .i64 _ _ n rfl rfl rfl rfl (by rw [hz2]; omega) (by unfold maxLen; omega) (by simp) ?_; intro w1 hown1 hg1)
  have H0 : w1.ownsRow w.heap.size 2 1 (.slice (some ⟨w.heap.size + 1, 0, none⟩) n n) n (((normL xs).map (Value.int .i64)).take 0 ++ List.replicate (n - 0) (.int .i64 0)) := by
    have e := toList_madeCells_one (.int .i64 0) n
    have e2 : (Value.int .i64 0).cells = #[.int .i64 0] := rfl
    rw [e2, Nat.mul_one, e] at hown1
    simpa using hown1
  have hm1 : w1.ownsMap Try.prog 75 (plainElem (H := Unit) Try.prog 2) w.heap.size 0 (.map []) := (World.ownsMap_made w _ _ _).kept hg1 (by simp)
  have hb1 : Below w.heap.size w w1 := ((Below.refl _ _).alloc (Nat.le_refl _) _).grown hg1 (by simp) (by simp)
  have h63 : n ≤ 9223372036854775807 := by omega
  have HNL := Lib.hid (normL_length xs)
  clear hown1 hg1 hi hz0 hz1 hz2 hmm
  go_loopw [15] (fun i wr => ∃ (k : Nat) (Dm : DataW Unit), k ≤ n ∧ i = .int .i64 k ∧ Hid (MapIs kP Dm (seen (xs.take k))) ∧ Below w.heap.size w wr ∧ wr.ownsMap Try.prog 75 (plainElem (H := Unit) Try.prog 2) w.heap.size k Dm ∧ wr.ownsRow w.heap.size 2 1 (.slice (some ⟨w.heap.size + 1, 0, none⟩) n n) n (((normL xs).map (Value.int .i64)).take k ++ List.replicate (n - k) (.int .i64 0))) (fun i _ => n - (intOf i).toNat)
  case atStart => exact ⟨0, _, Nat.zero_le _, rfl, MapIs.nil kP, hb1, hm1, H0⟩
  case round =>
    obtain ⟨k, Dm, hk, rfl, HM, hb, hmap, hown⟩ := hrel
    clear H0 hb1 hm1
    by_cases hlt : k < n
    · obtain ⟨b, o, u, rfl, hbB, hc, hc2, hu⟩ := (h.below (hb.mono hB)).at_ (k := k) (by rw [L.out]; exact hlt)
      have HKEY := Lib.hid (key2 u)
      have hx := hown.cellAt k (by omega)
      have hlen : k < (((normL xs).map (Value.int .i64)).take k ++ List.replicate (n - k) (Value.int .i64 0)).length := by rw [hown.1]; omega
      rw [List.getElem?_eq_getElem hlen] at hx
      replace hx : ∃ old, wr.cell? ⟨w.heap.size + 1, k, none⟩ = some old := ⟨_, hx⟩
      obtain ⟨old, hx⟩ := hx
      have hxl := (hown.lt (w.heap.size + 1) rfl).2
      have hf := hown.frozenAt k
      have hsz : Maps.size Dm ≤ 2000000 := by have := hmap.size_le; omega
      have HB := Lib.hid hb
      have HO := Lib.hid hown
      have HNU := Lib.hid (normL_at hu.out)
      have HMAP := Lib.hid hmap
      clear hb hown hlen
      by_cases hmem : u ∈ seen (xs.take k)
      · have hhas : Maps.has Dm (kP u) = true := by rw [HM.out.2.1]; exact decide_eq_true hmem
        have HS := Lib.hid (seen_succ hu.out)
        have HMEM := Lib.hid hmem
        clear hmem hmap
        go_wp2_with (at_lookup; refine wpList_lookup_own_ok_int _ rfl _ _ 100 rfl 75 2 .i64 law Try.underlying100 Try.underlying2 (zero64 _) w.heap.size k Dm rfl (by exact HMAP.out.alloc _) _ (kP u) rfl HKEY.out ?_; intro cc hat hwc; have HAT := Lib.hid hat; clear hat)
        go_roundw
        case rel =>
          refine ⟨k + 1, Dm, by omega, by go_num, ?_, (HB.out.setCell (by simp) _).alloc (by simp; have := HB.out.size; omega) _, ?_, ?_⟩
          · have := HM.out
            show MapIs kP Dm (seen (xs.take (k + 1)))
            rw [HS.out]; unfold addNew; rw [if_pos HMEM.out]; exact this
          · exact ((HMAP.out.setCell (a := ⟨w.heap.size + 1, k, none⟩) (show w.heap.size ≠ w.heap.size + 1 by omega) _).mono (Nat.le_succ k)).alloc _
          · have e : cc = ((seen (xs.take k)).idxOf u : Int) := by
              exact (lit_inj ((HM.out.2.2 u HMEM.out).symm.trans HAT.out)).symm
            have := (HO.out.stored k (.int .i64 cc)).1.alloc (.cells #[.int .i64 (u.a.val : Int), .int .i64 (u.b.val : Int)] 75)
            rwa [upd_take _ _ _ _ _ (by rw [List.length_map, HNL.out]; exact L.out) (by rw [List.getElem?_map, HNU.out, e]; rfl)] at this
        case measure => simp [intOf]; omega
      · have hhas : Maps.has Dm (kP u) = false := by rw [HM.out.2.1]; exact decide_eq_false hmem
        have HS := Lib.hid (seen_succ hu.out)
        have HMEM := Lib.hid hmem
        have HT := Lib.hid (hmap.tidy law)
        clear hmem hmap
        go_wp2_with (first
          | (at_lookup; refine wpList_lookup_own_ok_int _ rfl _ _ 100 rfl 75 2 .i64 law Try.underlying100 Try.underlying2 (zero64 _) w.heap.size k Dm rfl (by exact HMAP.out.alloc _) _ (kP u) rfl HKEY.out ?_; intro cc hat hwc; clear hat)
          | (at_len; refine wpList_len_own _ rfl _ 100 rfl 75 2 Try.underlying100 _ w.heap.size k Dm rfl (by exact HMAP.out.alloc _) ?_)
          | (at_mapUpdate; refine wpList_mapUpdate_own _ rfl _ _ _ 100 rfl 75 2 law Try.underlying100 _ w.heap.size k Dm rfl (by exact HMAP.out.alloc _) (by unfold maxLen; omega) _ _ (kP u) rfl rfl HKEY.out _ [] (plainElem_int Try.underlying2 (wf_small _ hsz)) ?_; intro w2 hmap2 hg2; have hx2 := hg2.cell ((World.cell?_alloc_past _ _ _ hxl).trans hx) (by simp); have hf2 := ((HO.out.alloc _).kept hg2 (.inr (by simp [Value.ownBlock]))).frozenAt k; have HG2 := Lib.hid hg2; have HM2 := Lib.hid hmap2; clear hg2 hmap2))
        go_roundw
        case rel =>
          have hg2 := HG2.out
          have hb2 := HB.out.alloc HB.out.size (.cells #[.int .i64 (u.a.val : Int), .int .i64 (u.b.val : Int)] 75)
          have HO2 := (HO.out.alloc (.cells #[.int .i64 (u.a.val : Int), .int .i64 (u.b.val : Int)] 75)).kept hg2 (.inr (by simp [Value.ownBlock]))
          refine ⟨k + 1, _, by omega, by go_num, ?_, (hb2.grown hg2 hb2.size (fun j hj => by cases hj; exact Nat.le_refl _)).setCell (by simp) _, HM2.out.setCell (a := ⟨w.heap.size + 1, k, none⟩) (show w.heap.size ≠ w.heap.size + 1 by omega) _, ?_⟩
          · show MapIs kP _ (seen (xs.take (k + 1)))
            rw [HS.out]
            have hsize := HM.out.1
            have := MapIs.new kP_inj kP_key HM.out HT.out HMEM.out
            rwa [← hsize] at this
          · have e : ((Maps.size Dm : Nat) : Int) = ((seen (xs.take k)).idxOf u : Int) := by
              rw [idxOf_miss HMEM.out, HM.out.1]
            have := (HO2.stored k (.int .i64 (Maps.size Dm : Nat))).1
            rwa [upd_take _ _ _ _ _ (by rw [List.length_map, HNL.out]; exact L.out) (by rw [List.getElem?_map, HNU.out, ← e]; rfl)] at this
        case measure => simp [intOf]; omega
    · go_wp2
      go_ret
      obtain rfl : k = n := by omega
      exact ⟨rfl, by simpa [List.take_of_length_le, L.out, HNL.out] using hown, hb⟩
end Go.Proofs.Ythnopigibjmgbaa
