/- The model's source of numbers. -/
import Derived.Test.YtbgmhndmldekbaaDoorProg
import Derived.WalkKit
import Derived.ProofKit
import Derived.BigQuiet
import Derived.Outline
import Derived.IntWalk
import Derived.StillTailTactics
import Derived.Laws.BitsAllLaws
import Derived.Test.YtbgmhndmldekbaaDoorLow
namespace Go.Proofs.YtbgmhndmldekbaaDoor
open Go.RowKit
/-- A slice of bytes that reads as a list. -/
def BySrc (w : World) (B : Nat) (A : Option Addr) (xs : List Int) : Prop := Row w B A (xs.map (Value.int .u8))
theorem BySrc.below {w w' : World} {B : Nat} {A : Option Addr} {xs : List Int} (h : BySrc w B A xs) (hb : Below B w w') : BySrc w' B A xs := Row.below h hb
theorem BySrc.at_ {w : World} {B : Nat} {A : Option Addr} {xs : List Int} (h : BySrc w B A xs) {k : Nat} (hk : k < xs.length) :
    ∃ b off u, A = some ⟨b, off, none⟩ ∧ b < B ∧ w.cell? ⟨b, off + k, none⟩ = some (.int .u8 u) ∧ Hid (xs[k]? = some u) := by
  obtain ⟨b, off, e, hb, hc⟩ := Row.at_ h (k := k) (by simpa using hk)
  exact ⟨b, off, xs[k], e, hb, by simpa using hc, List.getElem?_eq_getElem hk⟩
/-- The source at block sb: its bytes, and how many it has been asked for. -/
def Src (w : World) (lo sb : Nat) (A : Option Addr) (n c at' : Nat) : Prop := ∃ seed : Int, w.ownsRow lo 51 1 (.slice (some ⟨sb, 0, none⟩) 3 3) 3 [.slice A n c, .int .i64 (at' : Int), .int .u64 seed]
theorem Src.below {w w' : World} {lo sb : Nat} {A : Option Addr} {n c k : Nat} (h : Src w lo sb A n c k) (hb : Below w.heap.size w w') : Src w' lo sb A n c k := by
  obtain ⟨s, h⟩ := h; exact ⟨s, own_below' h hb⟩
theorem src_cells {w : World} {lo sb : Nat} {a b c : Value} (h : w.ownsRow lo 51 1 (.slice (some ⟨sb, 0, none⟩) 3 3) 3 [a, b, c]) :
    w.cell? ⟨sb, 0, none⟩ = some a ∧ w.cell? ⟨sb, 1, none⟩ = some b ∧ w.cell? ⟨sb, 2, none⟩ = some c ∧ w.frozen? ⟨sb, 1, none⟩ = false ∧ w.frozen? ⟨sb, 2, none⟩ = false :=
  ⟨by rw [h.cellAt 0 (by omega)]; rfl, by rw [h.cellAt 1 (by omega)]; rfl, by rw [h.cellAt 2 (by omega)]; rfl, h.frozenAt 1, h.frozenAt 2⟩
def RetNext (w : World) (lo sb : Nat) (A : Option Addr) (n c k : Nat) (m : Nat) (e : Ending) (w' : World) : Prop := ∃ x : Nat, x < m ∧ e = .returned (.int .i64 (x : Int)) ∧ Src w' lo sb A n c k ∧ w.grownBy w' (some sb)
theorem and255 {x : Int} (h : 0 ≤ x) (h2 : x < 18446744073709551616) : ∃ m : Nat, bits .and .u64 x 255 = (m : Int) ∧ m < 256 := by
  refine ⟨x.toNat &&& 255, ?_, by rw [nat_mask8]; omega⟩
  have := u64_and x 255 h h2 (by omega) (by omega)
  rw [this]; rfl
theorem src_val (Y : Int) : ∃ m : Nat, m < 256 ∧ wrap64 (bits .and .u64 (IntKind.u64.wrap Y / 1099511627776) 255) = (m : Int) := by
  obtain ⟨m, e, hm⟩ := and255 (x := IntKind.u64.wrap Y / 1099511627776) (by rw [IntKind.wrap_u64]; omega) (by rw [IntKind.wrap_u64]; omega)
  refine ⟨m, hm, ?_⟩
  rw [e]
  unfold wrap64
  omega
set_option maxHeartbeats 4000000 in
set_option maxRecDepth 100000 in
theorem next_any (lo sb : Nat) (A : Option Addr) (n c k : Nat) (xs : List Int) (w : World) (B : Nat) (h : Src w lo sb A n c k) (hx : BySrc w B A xs) (hB : B ≤ lo) (l : xs.length = n) (_ : n ≤ 1048576) (hk : k ≤ 1000000) (hb : ∀ u ∈ xs, 0 ≤ u ∧ u ≤ 255) :
    Calls Tryd.prog 26 #[.pointer (some ⟨sb, 0, none⟩)] w fun e w' => RetNext w lo sb A n c (k + 1) 256 e w' := by
  obtain ⟨seed, hown⟩ := h
  obtain ⟨h0, h1, h2, f1, f2⟩ := src_cells hown
  have hsb := (hown.lt sb rfl).1
  have HO := Lib.hid hown
  have L := Lib.hid l
  have HBB := Lib.hid hb
  clear l hb hown
  by_cases hlt : k < n
  · obtain ⟨b, o, u, rfl, hbB, hc, hu⟩ := hx.at_ (k := k) (by rw [L.out]; exact hlt)
    obtain ⟨u0, u1⟩ := HBB.out u (List.mem_of_getElem? hu.out)
    have hne : b ≠ sb := by omega
    have hlt' : (k : Int) < (n : Int) := by omega
    go_enter Tryd.func26, Tryd.ntmps26
    go_wp2
    go_quiet (fail)
    go_wp2
    go_quiet (fail)
    go_wp2
    go_quiet (fail)
    go_wp2
    go_ret
    exact ⟨u.toNat, by omega, by rw [show ((u.toNat : Nat) : Int) = u by omega]; rfl, ⟨_, own_drawn (((own_drawn HO.out ((Drawn.refl _).drewN _)).stored 1 _).1.stored 2 _).1 ((Drawn.refl _).drewN _)⟩,
      grown_trans (grown_drawn ((Drawn.refl _).drewN _)) (grown_trans ((own_drawn HO.out ((Drawn.refl _).drewN _)).stored 1 _).2 (grown_trans (((own_drawn HO.out ((Drawn.refl _).drewN _)).stored 1 _).1.stored 2 _).2 (grown_drawn ((Drawn.refl _).drewN _))))⟩
  · have hge : (n : Int) ≤ (k : Int) := by omega
    go_enter Tryd.func26, Tryd.ntmps26
    go_wp2
    go_quiet (fail)
    go_wp2
    go_quiet (fail)
    go_wp2
    go_ret
    obtain ⟨mm, hm, e⟩ := src_val (IntKind.u64.wrap (IntKind.u64.wrap (seed * 6364136223846793005)) + 1442695040888963407)
    exact ⟨mm, hm, by rw [← e]; rfl, ⟨_, own_drawn (((own_drawn HO.out ((Drawn.refl _).drewN _)).stored 1 _).1.stored 2 _).1 ((Drawn.refl _).drewN _)⟩,
      grown_trans (grown_drawn ((Drawn.refl _).drewN _)) (grown_trans ((own_drawn HO.out ((Drawn.refl _).drewN _)).stored 1 _).2 (grown_trans (((own_drawn HO.out ((Drawn.refl _).drewN _)).stored 1 _).1.stored 2 _).2 (grown_drawn ((Drawn.refl _).drewN _))))⟩
set_option maxHeartbeats 1000000 in
set_option maxRecDepth 100000 in
theorem pick_any (mm lo sb : Nat) (A : Option Addr) (n c k : Nat) (xs : List Int) (w : World) (B : Nat) (h : Src w lo sb A n c k) (hx : BySrc w B A xs) (hB : B ≤ lo) (l : xs.length = n) (m : n ≤ 1048576) (hk : k ≤ 1000000) (hb : ∀ u ∈ xs, 0 ≤ u ∧ u ≤ 255) (h1 : 1 ≤ mm) (h2 : mm ≤ 200) :
    Calls Tryd.prog 15 #[.pointer (some ⟨sb, 0, none⟩), .int .i64 mm] w fun e w' => ∃ k', k' ≤ k + 1 ∧ RetNext w lo sb A n c k' mm e w' := by
  by_cases hm1 : mm = 1
  · subst hm1
    have H := Lib.hid h
    clear h l hb
    go_enter Tryd.func15, Tryd.ntmps15
    go_wp2
    go_ret
    exact ⟨k, by omega, 0, by omega, rfl, H.out, World.grownBy.refl _ _⟩
  · have C := Lib.hid (next_any lo sb A n c k xs w B h hx hB l m hk hb)
    have hm : ¬ (mm : Int) ≤ 1 := by omega
    have hm2 : ¬ (200 : Int) < (mm : Int) := by omega
    have hm3 : (mm : Int) ≠ 0 := by omega
    clear h l hb
    go_enter Tryd.func15, Tryd.ntmps15
    go_wp2_with fail
    refine (C.out).mono ?_; rintro e w1 ⟨x, hx1, rfl, hs, hg⟩
    have HS := Lib.hid hs
    have HG := Lib.hid hg
    have hp : 0 < (mm : Int) := by omega
    clear hs hg
    go_wp2
    go_ret
    exact ⟨k + 1, Nat.le_refl _, x % mm, Nat.mod_lt _ (by omega), by simp, HS.out, HG.out⟩
theorem src_new (w : World) (A : Option Addr) (n c : Nat) : Src (w.alloc (.cells #[.slice A n c, .int .i64 0, .int .u64 0] 51)) w.heap.size w.heap.size A n c 0 :=
  ⟨0, World.ownsRow_lit (base := w.heap.size) (e := 51) (size := 1) w #[.slice A n c, .int .i64 0, .int .u64 0] 3 (Nat.le_refl _) (by unfold maxLen; omega) rfl⟩
theorem from_any (A : Option Addr) (n c : Nat) (w : World) :
    Calls Tryd.prog 13 #[.slice A n c] w fun e w' => e = .returned (.pointer (some ⟨w.heap.size, 0, none⟩)) ∧ Src w' w.heap.size w.heap.size A n c 0 ∧ Below w.heap.size w w' := by
  have H := Lib.hid (src_new w A n c)
  go_enter Tryd.func13, Tryd.ntmps13
  go_wp2
  go_ret
  exact ⟨rfl, H.out, (Below.refl _ _).alloc (Nat.le_refl _) _⟩
theorem Src.turn {w w' : World} {lo sb : Nat} {A : Option Addr} {n c k g : Nat} (h : Src w lo sb A n c k) (hg : w.grownBy w' (some g)) (hne : sb ≠ g) : Src w' lo sb A n c k := by
  obtain ⟨s, h⟩ := h; exact ⟨s, h.kept hg (.inr (by simp [Value.ownBlock]; exact hne))⟩
theorem Src.grownNone {w w' : World} {lo sb : Nat} {A : Option Addr} {n c k : Nat} (h : Src w lo sb A n c k) (hg : w.grownBy w' none) : Src w' lo sb A n c k := by
  obtain ⟨s, h⟩ := h; exact ⟨s, h.kept hg (.inr (by simp [Value.ownBlock]))⟩
theorem grown_on {w w1 w2 : World} {sb : Nat} {row : Option Nat} (h : w.grownBy w1 (some sb)) (h2 : w1.grownBy w2 row) (hr : ∀ g, row = some g → w.heap.size ≤ g ∨ g = sb) : w.grownBy w2 (some sb) :=
  ⟨h2.os.trans h.os, h2.tape.trans h.tape, h2.output.trans h.output, Nat.le_trans h.size h2.size, fun k hk hne => (h2.block k (Nat.lt_of_lt_of_le hk h.size) (fun e => by
    rcases hr k e.symm with h3 | h3
    · omega
    · exact hne (by rw [h3]))).trans (h.block k hk hne)⟩
theorem grown_onA {w w1 : World} {sb : Nat} (h : w.grownBy w1 (some sb)) (o : Obj) : w.grownBy (w1.alloc o) (some sb) := grown_on h (World.grownBy_alloc w1 o none) (fun g e => by cases e)
theorem Src.alloc {w : World} {lo sb : Nat} {A : Option Addr} {n c k : Nat} (h : Src w lo sb A n c k) (o : Obj) : Src (w.alloc o) lo sb A n c k := h.grownNone (World.grownBy_alloc w o none)
theorem Src.other {w w' : World} {lo sb : Nat} {A : Option Addr} {n c k : Nat} {row : Option Nat} (h : Src w lo sb A n c k) (hg : w.grownBy w' row) (hr : ∀ g, row = some g → g ≠ sb) : Src w' lo sb A n c k := by
  obtain ⟨s, h⟩ := h
  exact ⟨s, h.kept hg (.inr (fun e => hr sb e.symm rfl))⟩
theorem Src.lt {w : World} {lo sb : Nat} {A : Option Addr} {n c k : Nat} (h : Src w lo sb A n c k) : lo ≤ sb ∧ sb < w.heap.size := by
  obtain ⟨s, h⟩ := h
  exact h.lt sb rfl
theorem one_any (mm lo sb : Nat) (A : Option Addr) (n c k : Nat) (xs : List Int) (w : World) (B : Nat) (h : Src w lo sb A n c k) (hx : BySrc w B A xs) (hB : B ≤ lo) (l : xs.length = n) (m : n ≤ 1048576) (hk : k ≤ 1000000) (hb : ∀ u ∈ xs, 0 ≤ u ∧ u ≤ 255) (h1 : 1 ≤ mm) (h2 : mm ≤ 200) :
    Calls Tryd.prog 22 #[.pointer (some ⟨sb, 0, none⟩), .int .i64 mm] w fun e w' => ∃ (k' : Nat) (b : Bool), k' ≤ k + 1 ∧ e = .returned (.bool b) ∧ Src w' lo sb A n c k' ∧ w.grownBy w' (some sb) := by
  have C := Lib.hid (pick_any mm lo sb A n c k xs w B h hx hB l m hk hb h1 h2)
  clear h l hb
  go_enter Tryd.func22, Tryd.ntmps22
  go_wp2_with fail
  refine (C.out).mono ?_; rintro e w1 ⟨k', hk', x, hx1, rfl, hs, hg⟩
  have HS := Lib.hid hs
  have HG := Lib.hid hg
  clear hs hg
  rcases Nat.eq_zero_or_pos x with h0 | h0
  · subst h0
    go_wp2
    go_ret
    exact ⟨k', true, hk', rfl, HS.out, HG.out⟩
  · have hxx : ((x : Int) == 0) = false := by simp; omega
    go_wp2
    go_ret
    exact ⟨k', false, hk', rfl, HS.out, HG.out⟩
theorem lit_row (w : World) (ys : List Int) (T : TypeId) : IRow (w.alloc (.cells (ys.map (Value.int .i64)).toArray T)) (w.heap.size + 1) (some ⟨w.heap.size, 0, none⟩) ys := by
  intro _
  refine ⟨w.heap.size, 0, rfl, by omega, fun i v hv => ?_⟩
  rw [Nat.zero_add, cell_of_row _ _ i _ _ (0, 0) (heap_alloc_new w _)]
  rw [← hv]
  simp
theorem cell_one1 (w : World) (v : Value) (T : TypeId) : (w.alloc (.cells #[v] T)).cell? ⟨w.heap.size, 0, none⟩ = some v := by
  have := cell_of_row (w.alloc (.cells #[v] T)) w.heap.size 0 #[v] T (0, 0) (heap_alloc_new w _)
  rw [this]; simp
end Go.Proofs.YtbgmhndmldekbaaDoor
