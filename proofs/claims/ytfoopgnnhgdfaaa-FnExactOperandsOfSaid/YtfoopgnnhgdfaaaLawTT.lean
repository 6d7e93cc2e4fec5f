/- The laws' own helpers on lists of lists of terms: how much they hold, a copy, comparing, marks. -/
import Derived.Test.YtfoopgnnhgdfaaaProg
import Derived.WalkKit
import Derived.ProofKit
import Derived.BigQuiet
import Derived.StillTailTactics
import Derived.Outline
import Derived.Test.YtfoopgnnhgdfaaaMem
import Derived.Test.YtfoopgnnhgdfaaaOwn
import Derived.Test.YtfoopgnnhgdfaaaTurn
import Derived.Test.YtfoopgnnhgdfaaaTmM
import Derived.Test.YtfoopgnnhgdfaaaTmW
import Derived.Test.YtfoopgnnhgdfaaaTm
import Derived.Test.YtfoopgnnhgdfaaaBuildT
namespace Go.Proofs.Ytfoopgnnhgdfaaa
open Go.RowKit
theorem markTs_own {T : TypeId} (A : Option Addr) (n c : Nat) (k0 : Int) (es : List Tm) (w : World) (lo hi : Nat) (h : OwnV w lo hi T 2 A n c (tvs es)) (m : n ≤ 2000000) (k1 : 0 ≤ k0) (k2 : k0 ≤ 9000000000000000) :
    Calls Try.prog 32 #[.slice A n c, .int .i64 k0] w fun e w' => e = .returned (.int .i64 (k0 + 2 * n)) ∧
      OwnV w' lo hi T 2 A n c (tvs (marksT k0 n)) ∧ w.grownBy w' (Value.slice A n c).ownBlock :=
  (markTs_any A n c k0 es w lo h.own m k1 k2).mono fun _ _ ⟨h1, h2, h3⟩ => ⟨h1, ⟨h2, h.top⟩, h3⟩
/-- What the measure of a list of lists says: nothing if it is too great, or that all of it is small. -/
def SzTT (xss : List (List Tm)) (left r : Int) : Prop := r < 0 ∨ (0 ≤ r ∧ r ≤ left ∧ (xss.length : Int) ≤ left ∧ ∀ xs ∈ xss, (xs.length : Int) ≤ left)
def SzRetT (xss : List (List Tm)) (left : Int) (w : World) (e : Ending) (w' : World) : Prop := ∃ r : Int, e = .returned (.int .i64 r) ∧ SzTT xss left r ∧ w = w'
set_option maxHeartbeats 1000000 in
theorem szTT_any (A : Option Addr) (n c : Nat) (xss : List (List Tm)) (left : Int) (w : World) (B : Nat) (h : TTRow w B A xss) (l : xss.length = n) (h1 : n ≤ 9223372036854775807) (h1' : ∀ xs ∈ xss, xs.length ≤ 9223372036854775807) (h2 : 0 ≤ left) (h3 : left ≤ 1048576) :
    Calls Try.prog 47 #[.slice A n c, .int .i64 left] w fun e w' => SzRetT xss left w e w' := by
  have L := Lib.hid l
  have H1 := Lib.hid h1'
  clear l h1'
  by_cases hneg : left - n < 0
  · have H : SzRetT xss left w (.returned (.int .i64 (-1))) w := ⟨-1, rfl, .inl (by omega), rfl⟩
    go_enter Try.func47, Try.ntmps47
    go_wp2
    go_ret
    exact H
  · go_enter Try.func47, Try.ntmps47
    go_wp2
    go_loop [1, 5] (fun x i => ∃ (k : Nat) (r : Int), k ≤ n ∧ i = .int .i64 k ∧ x = .int .i64 r ∧ 0 ≤ r ∧ r ≤ left - n ∧ Hid (∀ j xs, j < k → xss[j]? = some xs → (xs.length : Int) ≤ left)) (fun _ i => n - (intOf i).toNat)
    case atStart => exact ⟨0, left - n, Nat.zero_le _, rfl, rfl, by omega, by omega, fun j xs hj => by omega⟩
    case round =>
      obtain ⟨k, r, hk, rfl, rfl, hr0, hr1, HE⟩ := hrel
      by_cases hlt : k < n
      · obtain ⟨b, o, A', c', xs, rfl, hb, hc, hr, hx⟩ := h.at_ (k := k) (by rw [L.out]; exact hlt)
        have hxl := H1.out xs (List.mem_of_getElem? hx.out)
        by_cases hs : r - xs.length < 0
        · have HS := Lib.hid (show szT xs.length r = -1 by unfold szT; rw [if_pos hs])
          have H : SzRetT xss left w (.returned (.int .i64 (-1))) w := ⟨-1, rfl, .inl (by omega), rfl⟩
          go_wp2_with (go_at_call 23; refine (szT_any _ _ _ _ _ hxl hr0 (by omega)).mono ?_; rw [HS.out]; rintro e w' ⟨rfl, rfl⟩)
          go_ret
          exact H
        · have HS := Lib.hid (show szT xs.length r = r - xs.length by unfold szT; rw [if_neg hs])
          have HE2 := Lib.hid (show ∀ j ys, j < k + 1 → xss[j]? = some ys → (ys.length : Int) ≤ left from fun j ys hj hy => by
            by_cases e : j = k
            · subst e
              have : ys = xs := by have := hy.symm.trans hx.out; injection this
              subst this; omega
            · exact HE.out j ys (by omega) hy)
          clear HE
          go_wp2_with (go_at_call 23; refine (szT_any _ _ _ _ _ hxl hr0 (by omega)).mono ?_; rw [HS.out]; rintro e w' ⟨rfl, rfl⟩)
          go_round
          case rel => exact ⟨k + 1, _, by omega, by go_num, rfl, by omega, by omega, HE2⟩
          case measure => simp [intOf]; omega
      · have H : SzRetT xss left w (.returned (.int .i64 r)) w := ⟨r, rfl, .inr ⟨hr0, by omega, by rw [L.out]; omega, fun xs hxs => by
          obtain ⟨j, hj⟩ := List.getElem?_of_mem hxs
          have hjl := (List.getElem?_eq_some_iff.1 hj).1
          rw [L.out] at hjl
          exact HE.out j xs (by omega) hj⟩, rfl⟩
        go_wp2
        go_ret
        exact H
set_option maxRecDepth 100000 in
set_option maxHeartbeats 1000000 in
theorem eqTT_yes (A1 A2 : Option Addr) (n1 n2 c1 c2 : Nat) (xss : List (List Tm)) (w : World) (B : Nat) (h1 : TTRow w B A1 xss) (h2 : TTRow w B A2 xss) (hB : B ≤ w.heap.size)
    (l1 : xss.length = n1) (l2 : xss.length = n2) (m1 : n1 ≤ 2000000) (m2 : ∀ xs ∈ xss, xs.length ≤ 2000000) :
    Calls Try.prog 37 #[.slice A1 n1 c1, .slice A2 n2 c2] w fun e w' => e = .returned (.bool true) ∧ Below w.heap.size w w' := by
  obtain rfl : n1 = n2 := l1.symm.trans l2
  have L1 := Lib.hid l1
  have M2 := Lib.hid m2
  clear l1 l2 m2
  go_enter Try.func37, Try.ntmps37
  go_wp2
  go_loopw [5] (fun i wr => ∃ k : Nat, k ≤ n1 ∧ i = .int .i64 k ∧ Below w.heap.size w wr) (fun i _ => n1 - (intOf i).toNat)
  case atStart => exact ⟨0, Nat.zero_le _, rfl, Below.refl _ _⟩
  case round =>
    obtain ⟨k, hk1, rfl, hb⟩ := hrel
    by_cases hlt1 : k < n1
    · obtain ⟨b1, o1, A1', c1', xs, rfl, hb1, hc1, hr1, hx⟩ := (h1.below (hb.mono hB)).at_ (k := k) (by rw [L1.out]; exact hlt1)
      obtain ⟨b2, o2, A2', c2', ys, rfl, hb2, hc2, hr2, hy⟩ := (h2.below (hb.mono hB)).at_ (k := k) (by rw [L1.out]; exact hlt1)
      obtain rfl : xs = ys := by have := hx.out.symm.trans hy.out; injection this
      have hxl := M2.out xs (List.mem_of_getElem? hx.out)
      have d1 : wr.drew.cell? ⟨b1, o1 + k, none⟩ = some (.slice A1' xs.length c1') := hc1
      have d2 : wr.drew.cell? ⟨b2, o2 + k, none⟩ = some (.slice A2' xs.length c2') := hc2
      have hws : w.heap.size ≤ wr.heap.size := hb.size
      have C := Lib.hid (eqTs_yes A1' A2' xs.length xs.length c1' c2' xs wr.drew B hr1 hr2 (by have : wr.drew.heap.size = wr.heap.size := rfl; omega) rfl rfl hxl)
      have HB := Lib.hid hb
      clear hb
      go_wp2
      go_still_tail 8, (by kernel_rfl)
      change wpList _ _ _ _ _ wr.drew
      go_wp2_with (go_at_call 27; refine (C.out).mono ?_; rintro e w2 ⟨rfl, b2⟩; have B2 := Lib.hid b2; clear b2)
      go_roundw
      case rel => exact ⟨k + 1, by omega, by go_num, (HB.out.drew).trans (B2.out.mono hws)⟩
      case measure => simp [intOf]; omega
    · go_wp2
      go_ret
      exact ⟨rfl, hb⟩
theorem info_TT : (Try.prog.info? 24).map (fun i => (i.zero, i.size, i.bytes)) = some (some (.slice none 0 0), 1, 24) := by kernel_rfl
theorem set_midT {vs : List Value} {n k : Nat} {z v : Value} (hv : vs.length = k) (hk : k < n) : (vs ++ List.replicate (n - k) z).set k v = (vs ++ [v]) ++ List.replicate (n - (k + 1)) z := by
  have h1 : n - k = (n - (k + 1)) + 1 := by omega
  rw [h1, List.replicate_succ, List.set_append_right _ _ (by omega), hv, Nat.sub_self, List.set_cons_zero, List.append_assoc]
  rfl
set_option maxHeartbeats 2000000 in
theorem toTT_own (A : Option Addr) (n c : Nat) (xss : List (List Tm)) (w : World) (B : Nat) (h : TTRow w B A xss) (hB : B ≤ w.heap.size) (l : xss.length = n) (m : n ≤ 2000000) (m2 : ∀ xs ∈ xss, xs.length ≤ 2000000) :
    Calls Try.prog 49 #[.slice A n c] w fun e w' => e = .returned (.slice (some ⟨w.heap.size, 0, none⟩) n n) ∧
      OwnTT w' w.heap.size w'.heap.size (some ⟨w.heap.size, 0, none⟩) n n xss ∧ Below w.heap.size w w' := by
  obtain ⟨i0, hi, hz0, hz1, hz2⟩ := info_parts info_TT
  have L := Lib.hid l
  have M2 := Lib.hid m2
  clear l m2
  go_enter Try.func49, Try.ntmps49
  go_wp2_with (at_make; refine wpList_make_full _ rfl _ _ _ rfl w.heap.size 24 i0 (.slice none 0 0) 1 Try.underlying49 hi hz0 hz1 .i64 .i64 _ _ n rfl rfl rfl rfl (by rw [hz2]; omega) (by unfold maxLen; omega) (Nat.le_refl _) ?_; intro w1 hown1 hg1)
  have H0 : w1.ownsRow w.heap.size 24 1 (.slice (some ⟨w.heap.size, 0, none⟩) n n) n (innerT xss (fun _ => none) (fun _ => 0) 0 ++ List.replicate (n - 0) (.slice none 0 0)) := by
    have e := toList_madeCells_one (.slice none 0 0) n
    have e2 : (Value.slice none 0 0).cells = #[.slice none 0 0] := rfl
    rw [e2, Nat.mul_one, e] at hown1
    simpa [innerT] using hown1
  have hb1 : Below w.heap.size w w1 := (Below.refl _ _).grown hg1 (Nat.le_refl _) (by simp)
  have h63 : n ≤ 9223372036854775807 := by omega
  clear hown1 hg1 hi hz0 hz1 hz2
  go_loopw [4] (fun i wr => ∃ (k : Nat) (G : Nat → Option Addr) (C : Nat → Nat) (R : Nat → TypeId), k ≤ n ∧ i = .int .i64 k ∧ Below w.heap.size w wr ∧ wr.ownsRow w.heap.size 24 1 (.slice (some ⟨w.heap.size, 0, none⟩) n n) n (innerT xss G C k ++ List.replicate (n - k) (.slice none 0 0)) ∧
    InnerT wr (w.heap.size + 1) wr.heap.size (some ⟨w.heap.size, 0, none⟩) k xss G C R) (fun i _ => n - (intOf i).toNat)
  case atStart => exact ⟨0, _, _, fun _ => 0, Nat.zero_le _, rfl, hb1, H0, InnerT.zero _ _ _ _ _ _ _ _⟩
  case round =>
    obtain ⟨k, G, C, R, hk, rfl, hb, hown, hin⟩ := hrel
    clear H0 hb1
    by_cases hlt : k < n
    · obtain ⟨b, o, A', c', xs, rfl, hbB, hc, hr, hx⟩ := (h.below (hb.mono hB)).at_ (k := k) (by rw [L.out]; exact hlt)
      have hxl := M2.out xs (List.mem_of_getElem? hx.out)
      have hws : w.heap.size + 1 ≤ wr.heap.size := by
        have h1 := (own_some hown (k := k) (by omega)).1
        obtain ⟨old, h1⟩ := h1
        have := World.block_lt_of_cell? wr _ h1
        exact this
      have CC := Lib.hid (toTs_own A' xs.length c' xs wr B hr (by omega) rfl hxl)
      have HB := Lib.hid hb
      have HO := Lib.hid hown
      have HI := Lib.hid hin
      clear hb hown hin
      go_wp2_with (go_at_call 25; refine (CC.out).mono ?_; rintro e w2 ⟨rfl, o2, b2⟩; obtain ⟨⟨old, hx2⟩, hf2⟩ := own_some (own_below' HO.out b2) (k := k) (by omega); have O2 := Lib.hid o2; have B2 := Lib.hid b2; clear o2 b2)
      go_roundw
      case rel =>
        have s2 := B2.out.size
        refine ⟨k + 1, upd G k (some ⟨wr.heap.size, 0, none⟩), upd C k xs.length, upd R k 77, by omega, by go_num, (HB.out.trans (B2.out.mono (by omega))).setCell (Nat.le_refl _) _, ?_, ?_⟩
        · rw [innerT_snoc hx.out]
          exact own_put (own_below' HO.out B2.out) (Drawn.refl _) (set_midT (innerT_length _ _ _ _) hlt)
        · have hsz : (w2.setCell ⟨w.heap.size, k, none⟩ (.slice (some ⟨wr.heap.size, 0, none⟩) xs.length xs.length)).heap.size = w2.heap.size := by simp [World.setCell]
          rw [hsz]
          have ht : Turns w.heap.size (w.heap.size + 1) w2 (w2.setCell ⟨w.heap.size, k, none⟩ (.slice (some ⟨wr.heap.size, 0, none⟩) xs.length xs.length)) :=
            Turns.of_grown ((own_below' HO.out B2.out).stored k _).2 fun g hg => by injection hg with hg; subst hg; exact ⟨Nat.le_refl _, Nat.lt_succ_self _⟩
          exact (InnerT.snoc HI.out B2.out O2.out hx.out hws (Nat.le_refl _) s2 (fun g hg => by injection hg with hg; injection hg with hg; omega)).turn ht (.inr (Nat.le_refl _))
      case measure => simp [intOf]; omega
    · go_wp2
      go_ret
      obtain rfl : k = n := by omega
      refine ⟨rfl, ⟨L.out.symm, 24, G, C, R, OwnV.mk' (by simpa using hown), ⟨fun i hi' => (hin.own i hi').wide (by omega) (Nat.le_refl _), hin.one, hin.out⟩⟩, hb⟩
/-- How many numbers a list of lists holds. -/
def totalT : List (List Tm) → Nat
  | [] => 0
  | xs :: r => xs.length + totalT r
theorem totalT_append (a b : List (List Tm)) : totalT (a ++ b) = totalT a + totalT b := by
  induction a with
  | nil => simp [totalT]
  | cons x a ih => simp [totalT, ih, Nat.add_assoc]
theorem totalT_le {xss : List (List Tm)} (h : ∀ xs ∈ xss, xs.length ≤ 2000000) : totalT xss ≤ xss.length * 2000000 := by
  induction xss with
  | nil => simp [totalT]
  | cons x r ih =>
    have h1 := h x (by simp)
    have h2 := ih fun y hy => h y (by simp [hy])
    simp only [totalT, List.length_cons]
    omega
theorem totalT_take {xss : List (List Tm)} (h : ∀ xs ∈ xss, xs.length ≤ 2000000) (k : Nat) (hk : k ≤ 2000000) : totalT (xss.take k) ≤ 4000000000000 := by
  have := totalT_le (xss := xss.take k) fun x hx => h x (List.mem_of_mem_take hx)
  have hl : (xss.take k).length ≤ k := List.length_take_le _ _
  have : (xss.take k).length * 2000000 ≤ k * 2000000 := Nat.mul_le_mul_right _ hl
  omega
theorem totalT_succ {xss : List (List Tm)} {k : Nat} {xs : List Tm} (h : xss[k]? = some xs) : totalT (xss.take (k + 1)) = totalT (xss.take k) + xs.length := by
  rw [take_one _ _ _ h, totalT_append]; simp [totalT]
def marksTT (k0 : Int) (xss : List (List Tm)) : List (List Tm) := (List.range xss.length).map fun i => marksT (k0 + 2 * totalT (xss.take i)) (xss.getD i []).length
theorem marksTT_length (k0 : Int) (xss : List (List Tm)) : (marksTT k0 xss).length = xss.length := by simp [marksTT]
theorem marksTT_at {k0 : Int} {xss : List (List Tm)} {k : Nat} {xs : List Tm} (h : xss[k]? = some xs) : (marksTT k0 xss)[k]? = some (marksT (k0 + 2 * totalT (xss.take k)) xs.length) := by
  obtain ⟨hk, rfl⟩ := List.getElem?_eq_some_iff.1 h
  simp [marksTT, hk]
/-- Up to place k marked, from there on as it was. -/
def midTT (k0 : Int) (xss : List (List Tm)) (k : Nat) : List (List Tm) := (marksTT k0 xss).take k ++ xss.drop k
theorem midTT_zero (k0 : Int) (xss : List (List Tm)) : midTT k0 xss 0 = xss := by simp [midTT]
theorem midTT_all {k0 : Int} {xss : List (List Tm)} {n : Nat} (h : xss.length = n) : midTT k0 xss n = marksTT k0 xss := by
  unfold midTT
  rw [List.take_of_length_le (by rw [marksTT_length]; omega), List.drop_eq_nil_of_le (by omega), List.append_nil]
theorem midTT_at {k0 : Int} {xss : List (List Tm)} {k : Nat} {xs : List Tm} (h : xss[k]? = some xs) : (midTT k0 xss k)[k]? = some xs := by
  have hk := (List.getElem?_eq_some_iff.1 h).1
  have hl : ((marksTT k0 xss).take k).length = k := by rw [List.length_take, marksTT_length]; omega
  unfold midTT
  rw [List.getElem?_append_right (by omega), hl, Nat.sub_self, List.getElem?_drop]
  simpa using h
theorem midTT_succ {k0 : Int} {xss : List (List Tm)} {k : Nat} {xs : List Tm} (h : xss[k]? = some xs) : (midTT k0 xss k).set k (marksT (k0 + 2 * totalT (xss.take k)) xs.length) = midTT k0 xss (k + 1) := by
  have hk := (List.getElem?_eq_some_iff.1 h).1
  have hl : ((marksTT k0 xss).take k).length = k := by rw [List.length_take, marksTT_length]; omega
  unfold midTT
  rw [drop_one _ _ _ h, List.set_append_right _ _ (by omega), hl, Nat.sub_self, List.set_cons_zero, take_one _ _ _ (marksTT_at h), List.append_assoc]
  rfl
theorem midTT_length (k0 : Int) (xss : List (List Tm)) (k : Nat) (h : k ≤ xss.length) : (midTT k0 xss k).length = xss.length := by
  unfold midTT
  rw [List.length_append, List.length_take, marksTT_length, List.length_drop]; omega
theorem owner {w : World} {lo hi : Nat} {T : TypeId} {s n c : Nat} {A : Option Addr} {vs : List Value} (h : OwnV w lo hi T s A n c vs) : (Value.slice A n c).ownBlock = none ∨ ∃ g, A = some ⟨g, 0, none⟩ ∧ (Value.slice A n c).ownBlock = some g := by
  rcases h.own.2 with ⟨e, _⟩ | ⟨g, cap, cur, e, _⟩
  · left; rw [e]; rfl
  · right; injection e with e1 _ _; subst e1; exact ⟨g, rfl, rfl⟩
/-- One of the rows is written; the others, and the outer row, are kept. -/
theorem ownTT_put {w w' : World} {lo hi : Nat} {T : TypeId} {A : Option Addr} {n c : Nat} {xss : List (List Tm)} {G : Nat → Option Addr} {C : Nat → Nat} {R : Nat → TypeId} {i : Nat} {xs ys : List Tm} (hn : n = xss.length)
    (ho : OwnV w lo hi T 1 A n c (innerT xss G C n)) (h : InnerT w lo hi A n xss G C R) (hi' : i < n) (hx : xss[i]? = some xs) (hl : ys.length = xs.length)
    (hy : OwnV w' lo hi (R i) 2 (G i) xs.length (C i) (tvs ys)) (hg : w.grownBy w' (Value.slice (G i) xs.length (C i)).ownBlock) : OwnTT w' lo hi A n c (xss.set i ys) := by
  have hoi := h.own i hi'
  rw [getD_ofT hx] at hoi
  have hd : ∀ j, j < n → j ≠ i → ((xss.set i ys).getD j []) = xss.getD j [] := fun j _ hj => by simp [List.getD_eq_getElem?_getD, Ne.symm hj]
  have hdi : (xss.set i ys).getD i [] = ys := by simp [List.getD_eq_getElem?_getD, show i < xss.length by omega]
  have hv : innerT (xss.set i ys) G C n = innerT xss G C n := by
    unfold innerT
    refine List.map_congr_left fun j hj => ?_
    have hj' := List.mem_range.1 hj
    by_cases e : j = i
    · subst e; rw [hdi, getD_ofT hx, hl]
    · rw [hd j hj' e]
  refine ⟨by simp [hn], T, G, C, R, ?_, ⟨fun j hj => ?_, h.one, h.out⟩⟩
  · rw [hv]
    refine ho.apart hg ?_
    rcases owner ho with e | ⟨g, e, eo⟩
    · exact .inl e
    · rcases owner hoi with e2 | ⟨g2, e2, eo2⟩
      · right; rw [eo, e2]; simp
      · right
        rw [eo, eo2]
        intro e3
        injection e3 with e3
        subst e3
        exact h.out i g hi' e2 e
  · by_cases e : j = i
    · subst e; rw [hdi, hl]; exact hy
    · rw [hd j hj e]
      refine (h.own j hj).apart hg ?_
      rcases owner (h.own j hj) with e1 | ⟨g, e1, eo⟩
      · exact .inl e1
      · rcases owner hoi with e2 | ⟨g2, e2, eo2⟩
        · right; rw [eo, e2]; simp
        · right
          rw [eo, eo2]
          intro e3
          injection e3 with e3
          subst e3
          exact e (h.one j i g hj hi' e1 e2)
set_option maxHeartbeats 2000000 in
theorem markTT_own (A : Option Addr) (n c : Nat) (k0 : Int) (xss : List (List Tm)) (w : World) (lo hi : Nat) (h : OwnTT w lo hi A n c xss) (m : n ≤ 2000000) (m2 : ∀ xs ∈ xss, xs.length ≤ 2000000) (k1 : 0 ≤ k0) (k2 : k0 ≤ 900000000000000) :
    Calls Try.prog 38 #[.slice A n c, .int .i64 k0] w fun e w' => e = .returned (.int .i64 (k0 + 2 * totalT xss)) ∧ OwnTT w' lo hi A n c (marksTT k0 xss) ∧ Turns lo hi w w' := by
  have L := Lib.hid h.len
  have M2 := Lib.hid m2
  clear m2
  go_enter Try.func38, Try.ntmps38
  go_wp2
  go_loopw [1, 5] (fun x i wr => ∃ k : Nat, k ≤ n ∧ i = .int .i64 k ∧ x = .int .i64 (k0 + 2 * totalT (xss.take k)) ∧ OwnTT wr lo hi A n c (midTT k0 xss k) ∧ Turns lo hi w wr) (fun _ i _ => n - (intOf i).toNat)
  case atStart => exact ⟨0, Nat.zero_le _, rfl, by simp [totalT], by rw [midTT_zero]; exact h, Turns.refl _ _ _⟩
  case round =>
    obtain ⟨k, hk, rfl, rfl, hown, hT⟩ := hrel
    have htk := totalT_take M2.out k (by omega)
    by_cases hlt : k < n
    · obtain ⟨xs, hx⟩ : ∃ xs, xss[k]? = some xs := ⟨_, List.getElem?_eq_getElem (by rw [L.out]; exact hlt)⟩
      have hm := midTT_at (k0 := k0) hx
      obtain ⟨hn, T, G, C, R, ho, hin⟩ := hown
      obtain ⟨g, rfl, _, _⟩ := own_at ho.own (by omega)
      have hc := ho.own.cellAt k (by omega)
      rw [innerT_at hlt, getD_ofT hm] at hc
      have hoi := hin.own k hlt
      rw [getD_ofT hm] at hoi
      have hxl := M2.out xs (List.mem_of_getElem? hx)
      have CC := Lib.hid (markTs_own (G k) xs.length (C k) (k0 + 2 * totalT (xss.take k)) xs wr lo hi hoi hxl (by omega) (by omega))
      have HX := Lib.hid hx
      have HM := Lib.hid hm
      have HO := Lib.hid ho
      have HI := Lib.hid hin
      have HT := Lib.hid hT
      have HN := Lib.hid hn
      have HOI := Lib.hid hoi
      clear hx hm ho hin hT hn hoi h
      go_wp2_with (go_at_call 32; refine (CC.out).mono ?_; rintro e w2 ⟨rfl, o2, g2⟩; have O2 := Lib.hid o2; have G2 := Lib.hid g2; clear o2 g2)
      go_roundw
      case rel =>
        refine ⟨k + 1, by omega, by go_num, congrArg (Value.int .i64) (by rw [totalT_succ HX.out]; omega), ?_, HT.out.trans (Turns.of_grown G2.out fun g' hg' => ?_)⟩
        · have := ownTT_put (by exact HN.out) HO.out HI.out hlt HM.out (ys := marksT (k0 + 2 * totalT (xss.take k)) xs.length) (marksT_length _ _) O2.out G2.out
          rwa [midTT_succ HX.out] at this
        · exact ⟨(HOI.out.own.lt g' hg').1, HOI.out.top g' hg'⟩
      case measure => simp [intOf]; omega
    · obtain rfl : k = n := by omega
      have HA := Lib.hid (midTT_all (k0 := k0) L.out)
      have HT := Lib.hid (show xss.take k = xss from List.take_of_length_le (by rw [L.out]; exact Nat.le_refl _))
      go_wp2
      go_ret
      exact ⟨ret_int (by rw [HT.out]), by rw [← HA.out]; exact hown, hT⟩
set_option maxHeartbeats 2000000 in
theorem heldTT_own (A : Option Addr) (n c : Nat) (k0 : Int) (xss : List (List Tm)) (w : World) (lo hi : Nat) (h : OwnTT w lo hi A n c (marksTT k0 xss)) (m : n ≤ 2000000) (m2 : ∀ xs ∈ xss, xs.length ≤ 2000000) (k1 : 0 ≤ k0) (k2 : k0 ≤ 900000000000000) :
    Calls Try.prog 39 #[.slice A n c, .int .i64 k0] w fun e w' => e = .returned (.int .i64 (k0 + 2 * totalT xss)) ∧ w = w' := by
  have L := Lib.hid (show xss.length = n by have := h.len; rwa [marksTT_length] at this)
  have M2 := Lib.hid m2
  clear m2
  go_enter Try.func39, Try.ntmps39
  go_wp2
  go_loop [1, 5] (fun x i => ∃ k : Nat, k ≤ n ∧ i = .int .i64 k ∧ x = .int .i64 (k0 + 2 * totalT (xss.take k))) (fun _ i => n - (intOf i).toNat)
  case atStart => exact ⟨0, Nat.zero_le _, rfl, by simp [totalT]⟩
  case round =>
    obtain ⟨k, hk, rfl, rfl⟩ := hrel
    have htk := totalT_take M2.out k (by omega)
    by_cases hlt : k < n
    · obtain ⟨xs, hx⟩ : ∃ xs, xss[k]? = some xs := ⟨_, List.getElem?_eq_getElem (by rw [L.out]; exact hlt)⟩
      have hm := marksTT_at (k0 := k0) hx
      obtain ⟨hn, T, G, C, R, ho, hin⟩ := h
      obtain ⟨g, rfl, _, _⟩ := own_at ho.own (by omega)
      have hc := ho.own.cellAt k (by omega)
      rw [innerT_at hlt, getD_ofT hm, marksT_length] at hc
      have hoi := hin.own k hlt
      rw [getD_ofT hm, marksT_length] at hoi
      have hxl := M2.out xs (List.mem_of_getElem? hx)
      have CC := Lib.hid (heldTs_own (G k) xs.length (C k) (k0 + 2 * totalT (xss.take k)) w lo hi hoi hxl (by omega) (by omega))
      have HX := Lib.hid hx
      clear hx hm ho hin hn hoi
      have hbnd : (xs.length : Int) ≤ 2000000 := by omega
      have hneg : ¬ (k0 + 2 * (totalT (xss.take k) : Int) + 2 * (xs.length : Int) < 0) := by omega
      go_wp2_with (go_at_call 41; refine (CC.out).mono ?_; rintro e w2 ⟨rfl, rfl⟩)
      go_round
      case rel => exact ⟨k + 1, by omega, by go_num, congrArg (Value.int .i64) (by rw [totalT_succ HX.out]; omega)⟩
      case measure => simp [intOf]; omega
    · obtain rfl : k = n := by omega
      have HT := Lib.hid (show xss.take k = xss from List.take_of_length_le (by rw [L.out]; exact Nat.le_refl _))
      go_wp2
      go_ret
      exact ⟨ret_int (by rw [HT.out]), rfl⟩
theorem eqTT_own (A1 A2 : Option Addr) (n1 n2 c1 c2 : Nat) (xss : List (List Tm)) (w : World) (lo1 hi1 lo2 hi2 : Nat) (h1 : OwnTT w lo1 hi1 A1 n1 c1 xss) (h2 : OwnTT w lo2 hi2 A2 n2 c2 xss) (m1 : n1 ≤ 2000000) (m2 : ∀ xs ∈ xss, xs.length ≤ 2000000) (b1 : hi1 ≤ w.heap.size) (b2 : hi2 ≤ w.heap.size) :
    Calls Try.prog 37 #[.slice A1 n1 c1, .slice A2 n2 c2] w fun e w' => e = .returned (.bool true) ∧ Below w.heap.size w w' :=
  eqTT_yes A1 A2 n1 n2 c1 c2 xss w (max hi1 hi2) (h1.row.more (Nat.le_max_left _ _)) (h2.row.more (Nat.le_max_right _ _)) (by omega) h1.len h2.len m1 m2
/-- What the measure has let by is small. -/
theorem szTT_small {xss : List (List Tm)} {left r : Int} (h : SzTT xss left r) (hr : ¬ r < 0) (hl : left ≤ 1048576) : xss.length ≤ 2000000 ∧ (∀ xs ∈ xss, xs.length ≤ 2000000) ∧ 0 ≤ r ∧ r ≤ 1048576 := by
  rcases h with h | ⟨h1, h2, h3, h4⟩
  · exact absurd h hr
  · exact ⟨by omega, fun xs hxs => by have := h4 xs hxs; omega, h1, by omega⟩
end Go.Proofs.Ytfoopgnnhgdfaaa
