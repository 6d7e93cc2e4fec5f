/- Relations as matrices: the model's helpers by one contract each. -/
import Derived.Test.YthnopigibjmgbaaProg
import Derived.WalkKit
import Derived.ProofKit
import Derived.BigQuiet
import Derived.Outline
import Derived.IntWalk
import Derived.StillTailTactics
import Derived.Test.YthnopigibjmgbaaMem
import Derived.Test.YthnopigibjmgbaaOwn
import Derived.Test.YthnopigibjmgbaaTurn
import Derived.Test.YthnopigibjmgbaaLawI
import Derived.Test.YthnopigibjmgbaaLawI2
import Derived.Test.YthnopigibjmgbaaLawII
import Derived.Test.YthnopigibjmgbaaPart3
import Derived.Test.YthnopigibjmgbaaRelM
import Derived.Test.YthnopigibjmgbaaBuild
import Derived.Test.YthnopigibjmgbaaPairs
import Derived.Test.YthnopigibjmgbaaRowsM
import Derived.Test.YthnopigibjmgbaaRows2
import Derived.Test.YthnopigibjmgbaaRows3
import Derived.Test.YthnopigibjmgbaaRel
namespace Go.Proofs.Ythnopigibjmgbaa
open Go.RowKit
/-- The slice of bools at block g, made by the call, keeps a relation. -/
def HasMat (w : World) (lo g N : Nat) (f : Nat → Nat → Bool) (n : Nat) : Prop := N = n * n ∧ w.ownsRow lo 4 1 (.slice (some ⟨g, 0, none⟩) N N) N (matL f n)
theorem HasMat.below {w w' : World} {lo g N n : Nat} {f : Nat → Nat → Bool} (h : HasMat w lo g N f n) (hb : Below w.heap.size w w') : HasMat w' lo g N f n := ⟨h.1, own_below' h.2 hb⟩
theorem HasMat.drawn {w w' : World} {lo g N n : Nat} {f : Nat → Nat → Bool} (h : HasMat w lo g N f n) (hd : Drawn w w') : HasMat w' lo g N f n := h.below (hd.below _)
theorem HasMat.congr {w : World} {lo g N n : Nat} {f f' : Nat → Nat → Bool} (h : HasMat w lo g N f n) (e : ∀ a b, a < n → b < n → f a b = f' a b) : HasMat w lo g N f' n := ⟨h.1, by rw [← matL_congr e]; exact h.2⟩
theorem mat_bd {n a b : Nat} (hn : n ≤ 40) (ha : a < n) (hb : b < n) : a * n ≤ 1600 ∧ a * n + b < n * n ∧ n * n ≤ 1600 := by
  have h1 := (mat_place ha hb).1
  have h2 : n * n ≤ 40 * 40 := Nat.mul_le_mul hn hn
  omega
/-- The place of a pair: its number's two parts, and what lies there. -/
theorem HasMat.at_ {w : World} {lo g N n : Nat} {f : Nat → Nat → Bool} (h : HasMat w lo g N f n) (hn : n ≤ 40) {a b : Nat} (ha : a < n) (hb : b < n) :
    ∃ s : Nat, ((a : Int) * (n : Int) = (s : Int) ∧ IntKind.i64.wrap (s : Int) = (s : Int)) ∧ IntKind.i64.wrap ((s : Int) + (b : Int)) = (s : Int) + (b : Int) ∧ 0 ≤ (s : Int) + (b : Int) ∧ ((s : Int) + (b : Int)).toNat = s + b ∧ s ≤ 1600 ∧ s + b < N ∧ w.cell? ⟨g, s + b, none⟩ = some (.bool (f a b)) ∧ w.frozen? ⟨g, s + b, none⟩ = false ∧ Hid (s = a * n) := by
  obtain ⟨h1, h2, h3⟩ := mat_bd hn ha hb
  obtain ⟨e, ho⟩ := h
  have e1 : (a : Int) * (n : Int) = ((a * n : Nat) : Int) := by simp
  refine ⟨a * n, ⟨e1, IntWalk.i64_in _ (by omega)⟩, IntWalk.i64_in _ (by omega), by omega, by omega, h1, by rw [e]; exact h2, ?_, ho.frozenAt _, rfl⟩
  · rw [ho.cellAt _ (by rw [e]; omega), matL_at ha hb]
theorem HasMat.put {w : World} {lo g N n : Nat} {f : Nat → Nat → Bool} (h : HasMat w lo g N f n) {a b s : Nat} (ha : a < n) (hb : b < n) (hs : Hid (s = a * n)) : HasMat (w.setCell ⟨g, s + b, none⟩ (.bool true)) lo g N (addF f a b) n := by
  refine ⟨h.1, ?_⟩
  have := (h.2.stored (s + b) (.bool true)).1
  have hs := hs.out
  subst hs
  rwa [matL_set ha hb] at this
theorem info_bool : (Try.prog.info? 4).map (fun i => (i.zero, i.size, i.bytes)) = some (some (.bool false), 1, 1) := by kernel_rfl
theorem HasMat.new {w w' : World} {lo n N : Nat} (e : N = n * n) (h : w'.ownsRow lo 4 1 (.slice (some ⟨w.heap.size, 0, none⟩) N N) N (madeCells (Value.bool false).cells (N * 1)).toList) : HasMat w' lo w.heap.size N (fun _ _ => false) n := by
  refine ⟨e, ?_⟩
  rw [matL_zero, ← e]
  have e1 := toList_madeCells_one (.bool false) N
  have e2 : (Value.bool false).cells = #[.bool false] := rfl
  rwa [e2, Nat.mul_one, e1] at h
theorem sq_num {n N : Nat} (hn : n ≤ 40) (e : N = n * n) : (n : Int) * (n : Int) = (N : Int) ∧ N ≤ 1600 := by
  have h2 : n * n ≤ 40 * 40 := Nat.mul_le_mul hn hn
  have e1 : (n : Int) * (n : Int) = ((n * n : Nat) : Int) := by simp
  refine ⟨?_, by omega⟩
  rw [e1, e]
set_option maxHeartbeats 2000000 in
set_option maxRecDepth 100000 in
theorem l02List_any (g N n : Nat) (f : Nat → Nat → Bool) (w : World) (lo : Nat) (h : HasMat w lo g N f n) (hn : n ≤ 40) :
    Calls Try.prog 58 #[.int .i64 n, .slice (some ⟨g, 0, none⟩) N N] w fun e w' => RetBuild w (picked f n n) e w' := by
  have H := Lib.hid h
  clear h
  go_enter Try.func58, Try.ntmps58
  go_wp2
  have HB0 := Lib.hid (Build.made w w.heap.size (Nat.le_refl _))
  have hbl : Below w.heap.size w (w.alloc (.cells #[] 30)) := (Below.refl _ _).alloc (Nat.le_refl _) _
  go_loopw [5, 6] (fun v i wr => ∃ k : Nat, k ≤ n ∧ i = .int .i64 k ∧ Build wr w.heap.size v (picked f n k) ∧ Below w.heap.size w wr) (fun _ i _ => n - (intOf i).toNat)
  case atStart => exact ⟨0, Nat.zero_le _, rfl, HB0.out, hbl⟩
  case round =>
    obtain ⟨k, hk, rfl, HV, hb⟩ := hrel
    clear HB0 hbl
    by_cases hlt : k < n
    · have HV2 := Lib.hid (show Build _ _ _ (pickTo f n k 0) from by rw [pickTo_zero]; exact HV)
      clear HV
      go_wp2
      go_loopw [5, 7] (fun v i wr => ∃ q : Nat, q ≤ n ∧ i = .int .i64 q ∧ Build wr w.heap.size v (pickTo f n k q) ∧ Below w.heap.size w wr) (fun _ i _ => n - (intOf i).toNat)
      case atStart => exact ⟨0, by omega, by go_num, HV2.out, hb⟩
      case round =>
        obtain ⟨q, hq2, rfl, HV, hb⟩ := hrel
        clear HV2
        obtain ⟨wo, rfl⟩ : ∃ wo : World, wo = wr := ⟨_, rfl⟩
        by_cases hlt2 : q < n
        · obtain ⟨s, ⟨e1, e0⟩, e2, e3, e4, hs, hsN, hc, hfz, HS⟩ := (H.out.below hb).at_ hn hlt hlt2
          rcases hf : f k q with _ | _
          · have HT := Lib.hid (pickTo_no (n := n) hf)
            have HV2 := Lib.hid HV
            have HB := Lib.hid hb
            rw [hf] at hc
            clear HV hb hf
            go_wp2
            go_roundw
            case rel => exact ⟨q + 1, by omega, by go_num, by rw [HT.out]; exact HV2.out, HB.out⟩
            case measure => simp [intOf]; omega
          · have HT := Lib.hid (pickTo_yes (n := n) hf)
            have hlen := pickTo_length f n k q
            have hlen2 : k * n ≤ 40 * 40 := Nat.mul_le_mul (by omega) hn
            have HL := Lib.hid (show (pickTo f n k q).length ≤ 2000000 by omega)
            have HV2 := Lib.hid HV
            have HB := Lib.hid hb
            have hsz := hb.size
            rw [hf] at hc
            clear HV hb hf hlen hlen2
            go_wp2_with (at_builtin; refine wpList_append_pair rfl _ _ rfl _ w.heap.size _ _ _ _ rfl (by exact HV2.out) hsz rfl HL.out ?_; intro v2 w2 hv2 hb2; have HV3 := Lib.hid hv2; have HB3 := Lib.hid hb2; clear hv2 hb2)
            go_roundw
            case rel => exact ⟨q + 1, by omega, by go_num, by rw [HT.out]; exact HV3.out, HB.out.trans HB3.out⟩
            case measure => simp [intOf]; omega
        · obtain rfl : q = n := by omega
          have HV2 := Lib.hid (show Build _ _ _ (picked f q (k + 1)) from HV)
          clear HV
          go_wp2
          go_roundw
          case rel => exact ⟨k + 1, by omega, by go_num, HV2.out, hb⟩
          case measure => simp [intOf]; omega
    · obtain rfl : k = n := by omega
      have H : RetBuild w (picked f k k) (.returned _) wr := ⟨_, rfl, HV, hb⟩
      go_wp2
      go_ret
      exact H
set_option maxHeartbeats 2000000 in
set_option maxRecDepth 100000 in
theorem l02Matrix_any (n : Nat) (A : Option Addr) (len c : Nat) (r : List (List Int)) (w : World) (B : Nat) (h : RRow w B A r) (hB : B ≤ w.heap.size) (l : r.length = len) (m : len ≤ 2000000) (hr : relB n r = true) (N : Nat) (hN : Hid (N = n * n)) :
    Calls Try.prog 88 #[.int .i64 n, .slice A len c] w fun e w' => e = .returned (.slice (some ⟨w.heap.size, 0, none⟩) N N) ∧ HasMat w' w.heap.size w.heap.size N (memF r) n ∧ Below w.heap.size w w' := by
  have L := Lib.hid l
  have HR := Lib.hid hr
  have h40 := (rel_small hr).2
  have hn : n ≤ 40 := by omega
  obtain ⟨i0, hi, hz0, hz1, hz2⟩ := info_parts info_bool
  obtain ⟨hsq, hN6⟩ := sq_num hn hN.out
  clear l hr
  go_enter Try.func88, Try.ntmps88
  go_wp2_with (at_make; refine wpList_make_full _ rfl _ _ _ rfl w.heap.size 4 i0 (.bool false) 1 Try.underlying50 hi hz0 hz1 .i64 .i64 _ _ N rfl rfl rfl rfl (by rw [hz2]; omega) (by unfold maxLen; omega) (Nat.le_refl _) ?_; intro w1 hown1 hg1)
  have H0 := Lib.hid (HasMat.new hN.out hown1)
  have hb1 : Below w.heap.size w w1 := (Below.refl _ _).grown hg1 (Nat.le_refl _) (by simp)
  clear hown1 hg1 hi hz0 hz1 hz2
  go_loopw [6] (fun i wr => ∃ k : Nat, k ≤ len ∧ i = .int .i64 k ∧ HasMat wr w.heap.size w.heap.size N (memTo r k) n ∧ Below w.heap.size w wr) (fun i _ => len - (intOf i).toNat)
  case atStart => exact ⟨0, Nat.zero_le _, rfl, H0.out.congr fun i j _ _ => (memTo_zero r i j).symm, hb1⟩
  case round =>
    obtain ⟨k, hk, rfl, HV, hb⟩ := hrel
    clear H0 hb1
    by_cases hlt : k < len
    · obtain ⟨b, o, b2, o2, c', u, v, rfl, hbB, hc, hb2, hcu, hcv, hu, hv, hx⟩ := pair_at (h.below (hb.mono hB)) HR.out (k := k) (by rw [L.out]; exact hlt)
      have hu' : u < n := by omega
      have hv' : v < n := by omega
      obtain ⟨s, ⟨e1, e0⟩, e2, e3, e4, hs, hsN, hcm, hfz, HS⟩ := (HV.drawn (Drawn.refl _).drew).at_ hn hu' hv'
      have hcu2 : wr.drew.cell? ⟨b2, o2, none⟩ = some (.int .i64 (u : Int)) := hcu
      have hcv2 : wr.drew.cell? ⟨b2, o2 + 1, none⟩ = some (.int .i64 (v : Int)) := hcv
      have hc2 : wr.drew.cell? ⟨b, o + k, none⟩ = some (.slice (some ⟨b2, o2, none⟩) 2 c') := hc
      have hsN' : (s : Int) + (v : Int) < (N : Int) := by omega
      have HB := Lib.hid hb
      have HV2 := Lib.hid HV
      clear hb HV
      go_wp2
      go_still_tail 17, (by kernel_rfl)
      change wpList _ _ _ _ _ wr.drew
      clear e0 e1 e2 e3 e4
      go_wp2
      go_roundw
      case rel => exact ⟨k + 1, by omega, by go_num, ((HV2.out.put hu' hv' HS).drawn (Drawn.refl _).drew).congr fun i j _ _ => (memTo_next hx.out i j).symm, (HB.out.setCell (Nat.le_refl _) _).trans (below_drewN _ _ 1)⟩
      case measure => simp [intOf]; omega
    · have HV2 := Lib.hid (show HasMat wr w.heap.size w.heap.size N (memF r) n from by rw [memTo_all r (by rw [L.out]; omega)] at HV; exact HV)
      clear HV
      go_wp2
      go_ret
      exact ⟨rfl, HV2.out, hb⟩
end Go.Proofs.Ythnopigibjmgbaa
