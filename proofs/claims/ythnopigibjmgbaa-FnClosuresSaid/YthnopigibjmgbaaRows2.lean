/- Relations as rows of bits: the program's helpers by one contract each. -/
import Derived.Test.YthnopigibjmgbaaProg
import Derived.WalkKit
import Derived.ProofKit
import Derived.BigQuiet
import Derived.Outline
import Derived.IntWalk
import Derived.StillTailTactics
import Derived.Test.YthnopigibjmgbaaMem
import Derived.Test.YthnopigibjmgbaaOwn
import Derived.Test.YthnopigibjmgbaaTurn
import Derived.Test.YthnopigibjmgbaaLawI
import Derived.Test.YthnopigibjmgbaaLawI2
import Derived.Test.YthnopigibjmgbaaLawII
import Derived.Test.YthnopigibjmgbaaPart3
import Derived.Test.YthnopigibjmgbaaRelM
import Derived.Test.YthnopigibjmgbaaBuild
import Derived.Test.YthnopigibjmgbaaPairs
import Derived.Test.YthnopigibjmgbaaRowsM
namespace Go.Proofs.Ythnopigibjmgbaa
open Go.RowKit
/-- The block g, made by the call, keeps the words of a relation. -/
def Words (w : World) (lo g : Nat) (xs : List Int) : Prop := w.ownsRow lo 59 1 (.slice (some ⟨g, 0, none⟩) 40 40) 40 (xs.map (Value.int .u64))
def HasWords (w : World) (lo g : Nat) (f : Nat → Nat → Bool) : Prop := ∃ xs, Bits f xs ∧ Words w lo g xs
theorem Words.cell {w : World} {lo g : Nat} {xs : List Int} (h : Words w lo g xs) {k : Nat} {x : Int} (hx : xs[k]? = some x) : w.cell? ⟨g, k, none⟩ = some (.int .u64 x) := by
  have hl := h.1
  rw [List.length_map] at hl
  rw [h.cellAt k (by have := (List.getElem?_eq_some_iff.1 hx).1; omega), List.getElem?_map, hx]; rfl
theorem HasWords.at_ {w : World} {lo g : Nat} {f : Nat → Nat → Bool} (h : HasWords w lo g f) {k : Nat} (hk : k < 40) : ∃ x xs, w.cell? ⟨g, k, none⟩ = some (.int .u64 x) ∧ Hid (WordIs (f k) x) ∧ Hid (xs[k]? = some x) ∧ Hid (Bits f xs) ∧ Hid (Words w lo g xs) ∧ w.frozen? ⟨g, k, none⟩ = false := by
  obtain ⟨xs, hb, hw⟩ := h
  have hlt : k < xs.length := by have := hb.1; omega
  have hx : xs[k]? = some xs[k] := List.getElem?_eq_getElem hlt
  exact ⟨xs[k], xs, hw.cell hx, hb.2 k _ hx, hx, hb, hw, hw.frozenAt k⟩
theorem Words.put {w : World} {lo g : Nat} {xs : List Int} (h : Words w lo g xs) (k : Nat) (x : Int) : Words (w.setCell ⟨g, k, none⟩ (.int .u64 x)) lo g (xs.set k x) := by
  have := (h.stored k (.int .u64 x)).1
  rwa [← List.map_set] at this
theorem HasWords.below {w w' : World} {lo g : Nat} {f : Nat → Nat → Bool} (h : HasWords w lo g f) (hb : Below w.heap.size w w') : HasWords w' lo g f := by
  obtain ⟨xs, h1, h2⟩ := h
  exact ⟨xs, h1, own_below' h2 hb⟩
theorem HasWords.drawn {w w' : World} {lo g : Nat} {f : Nat → Nat → Bool} (h : HasWords w lo g f) (hd : Drawn w w') : HasWords w' lo g f := h.below (hd.below _)
theorem HasWords.congr {w : World} {lo g : Nat} {f f' : Nat → Nat → Bool} (h : HasWords w lo g f) (e : ∀ a b, a < 40 → b < 40 → f a b = f' a b) : HasWords w lo g f' := by
  obtain ⟨xs, h1, h2⟩ := h
  exact ⟨xs, h1.congr e, h2⟩
theorem wrap_pow {b : Nat} (hb : b < 40) : IntKind.u64.wrap (2 ^ b) = ((2 ^ b : Nat) : Int) := by
  have h := two_pow_bd hb
  have e : (2 : Int) ^ b = ((2 ^ b : Nat) : Int) := by simp
  rw [e, IntKind.wrap_u64]
  generalize 2 ^ b = d at *
  omega
set_option maxHeartbeats 1000000 in
set_option maxRecDepth 100000 in
theorem add_any (g a b : Nat) (f : Nat → Nat → Bool) (w : World) (lo : Nat) (h : HasWords w lo g f) (ha : a < 40) (hb : b < 40) :
    Calls Try.prog 60 #[.pointer (some ⟨g, 0, none⟩), .int .i64 a, .int .i64 b] w fun e w' => e = .returned (.tuple #[]) ∧ HasWords w' lo g (addF f a b) ∧ w.grownBy w' (some g) := by
  obtain ⟨x, xs, hc, hx, hxs, hbits, hw, hfz⟩ := h.at_ ha
  go_enter Try.func60, Try.ntmps60
  go_wp2
  have hc2 : w.drew.cell? ⟨g, a, none⟩ = some (.int .u64 x) := hc
  have ha' : (a : Int) < 40 := by omega
  have hb' : (b : Int) < 40 := by omega
  have hb0 : min b 64 = b := by omega
  go_still_tail 10, (by kernel_rfl)
  have hf2 : w.drew.frozen? ⟨g, a, none⟩ = false := hfz
  change wpList _ _ _ _ _ w.drew
  go_wp2
  exact bodyPost_end (results_none rfl _ _ _) rfl ⟨rfl, ⟨_, hbits.out.add hxs.out hb, by
    rw [wrap_pow hb]; exact own_drawn (hw.out.put a _) (Drawn.refl _).drew⟩, grown_trans (hw.out.stored a _).2 (grown_drawn (Drawn.refl _).drew)⟩
theorem has_any (g a b : Nat) (f : Nat → Nat → Bool) (w : World) (lo : Nat) (h : HasWords w lo g f) (ha : a < 40) (hb : b < 40) :
    Calls Try.prog 61 #[.pointer (some ⟨g, 0, none⟩), .int .i64 a, .int .i64 b] w fun e w' => e = .returned (.bool (f a b)) ∧ w = w' := by
  obtain ⟨x, xs, hc, hx, hxs, hbits, hw, hfz⟩ := h.at_ ha
  have ha' : (a : Int) < 40 := by omega
  have hb' : (b : Int) < 40 := by omega
  have hb0 : min b 64 = b := by omega
  have HT := Lib.hid (hx.out.test' hb)
  go_enter Try.func61, Try.ntmps61
  go_wp2
  go_ret
  exact ⟨ret_bool (by rw [HT.out]; cases f a b <;> rfl), rfl⟩
set_option maxHeartbeats 2000000 in
set_option maxRecDepth 100000 in
theorem rowsPairs_any (g : Nat) (n : Nat) (f : Nat → Nat → Bool) (w : World) (lo : Nat) (h : HasWords w lo g f) (hn : n ≤ 40) :
    Calls Try.prog 62 #[.pointer (some ⟨g, 0, none⟩), .int .i64 n] w fun e w' => RetBuild w (picked f n n) e w' := by
  have H := Lib.hid h
  clear h
  go_enter Try.func62, Try.ntmps62
  go_wp2
  have HB0 := Lib.hid (Build.nil w w.heap.size)
  have hbl : Below w.heap.size w w := Below.refl _ _
  go_loopw [5, 9] (fun v i wr => ∃ k : Nat, k ≤ n ∧ i = .int .i64 k ∧ Build wr w.heap.size v (picked f n k) ∧ Below w.heap.size w wr) (fun _ i _ => n - (intOf i).toNat)
  case atStart => exact ⟨0, Nat.zero_le _, rfl, HB0.out, hbl⟩
  case round =>
    obtain ⟨k, hk, rfl, HV, hb⟩ := hrel
    clear HB0 hbl
    by_cases hlt : k < n
    · have HV2 := Lib.hid (show Build _ _ _ (pickTo f n k 0) from by rw [pickTo_zero]; exact HV)
      clear HV
      go_wp2
      go_loopw [5, 13] (fun v i wr => ∃ q : Nat, q ≤ n ∧ i = .int .i64 q ∧ Build wr w.heap.size v (pickTo f n k q) ∧ Below w.heap.size w wr) (fun _ i _ => n - (intOf i).toNat)
      case atStart => exact ⟨0, by omega, by go_num, HV2.out, hb⟩
      case round =>
        obtain ⟨q, hq2, rfl, HV, hb⟩ := hrel
        clear HV2
        obtain ⟨wo, rfl⟩ : ∃ wo : World, wo = wr := ⟨_, rfl⟩
        by_cases hlt2 : q < n
        · have C := Lib.hid (has_any g k q f wo lo (H.out.below hb) (by omega) (by omega))
          rcases hf : f k q with _ | _
          · have HT := Lib.hid (pickTo_no (n := n) hf)
            have HF := Lib.hid hf
            have HV2 := Lib.hid HV
            have HB := Lib.hid hb
            clear HV hb hf
            go_wp2_with (go_at_call 61; refine (C.out).mono ?_; rw [HF.out]; rintro e w' ⟨rfl, rfl⟩)
            go_roundw
            case rel => exact ⟨q + 1, by omega, by go_num, by rw [HT.out]; exact HV2.out, HB.out⟩
            case measure => simp [intOf]; omega
          · have HT := Lib.hid (pickTo_yes (n := n) hf)
            have hlen := pickTo_length f n k q
            have hlen2 : k * n ≤ 40 * 40 := Nat.mul_le_mul (by omega) hn
            have HF := Lib.hid hf
            have HV2 := Lib.hid HV
            have HB := Lib.hid hb
            have hsz := hb.size
            clear HV hb hf
            go_wp2_with fail
            refine (C.out).mono ?_; rw [HF.out]; rintro e w' ⟨rfl, rfl⟩
            go_wp2_with (at_builtin; refine wpList_append_pair rfl _ _ rfl _ w.heap.size _ _ _ _ rfl (by exact HV2.out) hsz rfl (by omega) ?_; intro v2 w2 hv2 hb2; have HV3 := Lib.hid hv2; have HB3 := Lib.hid hb2; clear hv2 hb2)
            go_roundw
            case rel => exact ⟨q + 1, by omega, by go_num, by rw [HT.out]; exact HV3.out, HB.out.trans HB3.out⟩
            case measure => simp [intOf]; omega
        · obtain rfl : q = n := by omega
          have HV2 := Lib.hid (show Build _ _ _ (picked f q (k + 1)) from HV)
          clear HV
          go_wp2
          go_roundw
          case rel => exact ⟨k + 1, by omega, by go_num, HV2.out, hb⟩
          case measure => simp [intOf]; omega
    · obtain rfl : k = n := by omega
      have H : RetBuild w (picked f k k) (.returned _) wr := ⟨_, rfl, HV, hb⟩
      go_wp2
      go_ret
      exact H
end Go.Proofs.Ythnopigibjmgbaa
