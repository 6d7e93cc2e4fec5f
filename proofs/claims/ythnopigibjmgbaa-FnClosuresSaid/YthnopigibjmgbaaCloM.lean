/- Plain words for the closure of a relation: it contains the relation, is reflexive and transitive, and spans the same classes. -/
import Derived.WalkKit
import Derived.Lib.Hide
import Derived.Test.YthnopigibjmgbaaMem
import Derived.Test.YthnopigibjmgbaaCmpM
import Derived.Test.YthnopigibjmgbaaPartM
import Derived.Test.YthnopigibjmgbaaRelM
import Derived.Test.YthnopigibjmgbaaRowsM
import Derived.Test.YthnopigibjmgbaaForM
import Derived.Test.YthnopigibjmgbaaRelF
import Derived.Test.YthnopigibjmgbaaRelG
import Derived.Test.YthnopigibjmgbaaRelI
import Derived.Test.YthnopigibjmgbaaSpan
namespace Go.Proofs.Ythnopigibjmgbaa
open Go.RowKit
theorem mem_pickRow {f : Nat → Nat → Bool} {a b : Nat} {xs : List Int} : xs ∈ pickRow f a b ↔ ∃ c : Nat, c < b ∧ f a c = true ∧ xs = [(a : Int), (c : Int)] := by
  simp only [pickRow, List.mem_map, List.mem_filter, List.mem_range]
  constructor
  · rintro ⟨c, ⟨h1, h2⟩, rfl⟩; exact ⟨c, h1, h2, rfl⟩
  · rintro ⟨c, h1, h2, rfl⟩; exact ⟨c, ⟨h1, h2⟩, rfl⟩
theorem mem_picked {f : Nat → Nat → Bool} {n : Nat} {xs : List Int} : ∀ {a : Nat}, xs ∈ picked f n a ↔ ∃ i j : Nat, i < a ∧ j < n ∧ f i j = true ∧ xs = [(i : Int), (j : Int)] := by
  intro a
  induction a with
  | zero => simp [picked]
  | succ a ih =>
    rw [picked, List.mem_append, ih, mem_pickRow]
    constructor
    · rintro (⟨i, j, h1, h2, h3, h4⟩ | ⟨c, h1, h2, h3⟩)
      · exact ⟨i, j, by omega, h2, h3, h4⟩
      · exact ⟨a, c, by omega, h1, h2, h3⟩
    · rintro ⟨i, j, h1, h2, h3, h4⟩
      by_cases e : i = a
      · subst e; exact .inr ⟨j, h2, h3, h4⟩
      · exact .inl ⟨i, j, by omega, h2, h3, h4⟩
theorem memF_picked {f : Nat → Nat → Bool} {n i j : Nat} (hi : i < n) (hj : j < n) : memF (picked f n n) i j = f i j := by
  unfold memF
  rcases hf : f i j with _ | _
  · refine decide_eq_false fun h => ?_
    obtain ⟨a, b, h1, h2, h3, h4⟩ := mem_picked.1 h
    injection h4 with h5 h6; injection h6 with h6 _
    have e1 : a = i := by omega
    have e2 : b = j := by omega
    rw [e1, e2, hf] at h3; cases h3
  · exact decide_eq_true (mem_picked.2 ⟨i, j, hi, hj, hf, rfl⟩)
theorem cmp_lt {a b c d : Nat} (h : a < c ∨ (a = c ∧ b < d)) : cmpL [(a : Int), (b : Int)] [(c : Int), (d : Int)] < 0 := by
  simp only [cmpL]
  split
  · omega
  · split
    · omega
    · split
      · omega
      · split <;> omega
theorem picked_sorted (f : Nat → Nat → Bool) (n : Nat) : ∀ a, (picked f n a).Pairwise fun xs ys => cmpL xs ys < 0 := by
  intro a
  induction a with
  | zero => exact List.Pairwise.nil
  | succ a ih =>
    rw [picked, List.pairwise_append]
    refine ⟨ih, ?_, fun xs hx ys hy => ?_⟩
    · unfold pickRow
      rw [List.pairwise_map]
      refine List.Pairwise.imp (fun {b d} h => cmp_lt (.inr ⟨rfl, h⟩)) (List.Pairwise.filter _ List.pairwise_lt_range)
    · obtain ⟨i, j, h1, _, _, rfl⟩ := mem_picked.1 hx
      obtain ⟨c, _, _, rfl⟩ := mem_pickRow.1 hy
      exact cmp_lt (.inl h1)
theorem relB_picked (f : Nat → Nat → Bool) {n : Nat} (h1 : 1 ≤ n) (h2 : n ≤ 40) : relB n (picked f n n) = true := by
  refine relB_yes ⟨by omega, by omega, fun i xs hi => ?_, fun i xs ys hi hj => ?_⟩
  · obtain ⟨a, b, ha, hb, _, rfl⟩ := mem_picked.1 (List.mem_of_getElem? hi)
    exact ⟨a, b, rfl, by omega, by omega, by omega, by omega⟩
  · obtain ⟨h3, rfl⟩ := List.getElem?_eq_some_iff.1 hi
    obtain ⟨h4, rfl⟩ := List.getElem?_eq_some_iff.1 hj
    exact List.pairwise_iff_getElem.1 (picked_sorted f n n) i (i + 1) h3 h4 (by omega)
/-- The row steps of one middle item, all at once. -/
theorem wRow_eq (h : Nat → Nat → Bool) (b : Nat) : ∀ (a i j : Nat), wRow h b a i j = (h i j || (decide (i < a) && (h i b && h b j))) := by
  intro a
  induction a with
  | zero => intro i j; simp [wRow]
  | succ a ih =>
    intro i j
    show wStep (wRow h b a) b a i j = _
    have hab : wRow h b a a b = h a b := by rw [ih]; simp
    have hbj : wRow h b a b j = h b j := by rw [ih]; cases h b j <;> simp
    unfold wStep
    rw [hab]
    rcases hh : h a b with _ | _
    · rw [if_neg (by simp), ih]
      by_cases e : i = a
      · subst e; rw [hh]; simp
      · have : decide (i < a) = decide (i < a + 1) := decide_eq_decide.2 (by omega)
        rw [this]
    · rw [if_pos rfl]
      unfold rowF
      rw [hbj, ih]
      by_cases e : i = a
      · subst e; rw [hh]; simp
      · have : decide (i < a) = decide (i < a + 1) := decide_eq_decide.2 (by omega)
        rw [this]; simp [e]
theorem wAll_succ {g : Nat → Nat → Bool} {n k i j : Nat} (hi : i < n) : wAll g n (k + 1) i j = (wAll g n k i j || (wAll g n k i k && wAll g n k k j)) := by
  show wRow (wAll g n k) k n i j = _
  rw [wRow_eq]; simp [hi]
theorem wAll_more {g : Nat → Nat → Bool} {n i j : Nat} (hi : i < n) (h : g i j = true) : ∀ k, wAll g n k i j = true := by
  intro k
  induction k with
  | zero => exact h
  | succ k ih => rw [wAll_succ hi, ih]; rfl
theorem wAll_trans {g : Nat → Nat → Bool} {n : Nat} : ∀ k, k ≤ n → ∀ b i j, b < k → i < n → wAll g n k i b = true → wAll g n k b j = true → wAll g n k i j = true := by
  intro k
  induction k with
  | zero => intro _ b i j hb; omega
  | succ k ih =>
    intro hk b i j hb hi h1 h2
    have P := ih (by omega)
    rw [wAll_succ hi] at h1 ⊢
    rw [wAll_succ (show b < n by omega)] at h2
    simp only [Bool.or_eq_true, Bool.and_eq_true] at h1 h2 ⊢
    by_cases e : b = k
    · subst e
      have a1 : wAll g n b i b = true := h1.elim id fun h => h.1
      have a2 : wAll g n b b j = true := h2.elim id fun h => h.2
      exact .inr ⟨a1, a2⟩
    · have hbk : b < k := by omega
      rcases h1 with h1 | ⟨h1, h1'⟩ <;> rcases h2 with h2 | ⟨h2, h2'⟩
      · exact .inl (P b i j hbk hi h1 h2)
      · exact .inr ⟨P b i k hbk hi h1 h2, h2'⟩
      · exact .inr ⟨h1, P b k j hbk (by omega) h1' h2⟩
      · exact .inr ⟨h1, h2'⟩
theorem wAll_sound {g : Nat → Nat → Bool} {n : Nat} {T : Nat → Nat → Prop} (ht : ∀ a b c, T a b → T b c → T a c) (hg : ∀ i j, g i j = true → T i j) : ∀ k i j, wAll g n k i j = true → T i j := by
  intro k
  induction k with
  | zero => exact hg
  | succ k ih =>
    intro i j h
    have h : wRow (wAll g n k) k n i j = true := h
    rw [wRow_eq] at h
    simp only [Bool.or_eq_true, Bool.and_eq_true] at h
    rcases h with h | ⟨_, h1, h2⟩
    · exact ih i j h
    · exact ht i k j (ih i k h1) (ih k j h2)
theorem close_refl {n : Nat} (r : List (List Int)) {i : Nat} (hi : i < n) : closeF n r i i = true := wAll_more hi (by simp [diagTo, hi]) n
theorem close_more {n : Nat} {r : List (List Int)} {i j : Nat} (hi : i < n) (h : memF r i j = true) : closeF n r i j = true := wAll_more hi (by simp [diagTo, h]) n
theorem close_trans {n : Nat} {r : List (List Int)} {i b j : Nat} (hi : i < n) (hb : b < n) (h1 : closeF n r i b = true) (h2 : closeF n r b j = true) : closeF n r i j = true := wAll_trans n (Nat.le_refl _) b i j hb hi h1 h2
theorem close_sound {n : Nat} {r : List (List Int)} {T : Nat → Nat → Prop} (hr : ∀ a, T a a) (ht : ∀ a b c, T a b → T b c → T a c) (hg : ∀ i j, memF r i j = true → T i j) {i j : Nat} (h : closeF n r i j = true) : T i j :=
  wAll_sound ht (fun i j h => by
    simp only [diagTo, Bool.or_eq_true, Bool.and_eq_true, decide_eq_true_eq] at h
    rcases h with h | ⟨rfl, _⟩
    · exact hg i j h
    · exact hr i) n i j h
/-- What a composition holds. -/
theorem compTo_iff {n : Int} {r : List (List Int)} (hr : relB n r = true) {g : Nat → Nat → Bool} : ∀ (k : Nat), k ≤ r.length → ∀ i j, compTo r g k i j = true ↔ ∃ (m : Nat) (c : Nat), m < k ∧ r[m]? = some [(i : Int), (c : Int)] ∧ g c j = true := by
  intro k
  induction k with
  | zero => intro _ i j; simp [compTo]
  | succ k ih =>
    intro hk i j
    obtain ⟨a, b, hab, _, _⟩ := rel_pair hr (k := k) (by omega)
    rw [compTo_next hab]
    simp only [rowF, Bool.or_eq_true, Bool.and_eq_true, decide_eq_true_eq]
    rw [ih (by omega)]
    constructor
    · rintro (⟨m, c, h1, h2, h3⟩ | ⟨rfl, h⟩)
      · exact ⟨m, c, by omega, h2, h3⟩
      · exact ⟨k, b, by omega, hab, h⟩
    · rintro ⟨m, c, h1, h2, h3⟩
      by_cases e : m = k
      · subst e
        rw [hab] at h2
        injection h2 with h2
        injection h2 with e1 h2
        injection h2 with e2 _
        have e1 : a = i := by omega
        have e2 : b = c := by omega
        subst e1; subst e2
        exact .inr ⟨rfl, h3⟩
      · exact .inl ⟨m, c, by omega, h2, h3⟩
theorem comp_iff {n : Int} {r : List (List Int)} (hr : relB n r = true) {g : Nat → Nat → Bool} {i j : Nat} : compTo r g r.length i j = true ↔ ∃ c : Nat, memF r i c = true ∧ g c j = true := by
  rw [compTo_iff hr _ (Nat.le_refl _)]
  constructor
  · rintro ⟨m, c, _, h2, h3⟩; exact ⟨c, decide_eq_true (List.mem_of_getElem? h2), h3⟩
  · rintro ⟨c, h2, h3⟩
    obtain ⟨m, hm⟩ := List.getElem?_of_mem (of_decide_eq_true h2)
    exact ⟨m, c, (List.getElem?_eq_some_iff.1 hm).1, hm, h3⟩
theorem bool_eq {a b : Bool} (h : a = true ↔ b = true) : a = b := Bool.eq_iff_iff.2 h
section
variable {n : Nat} {f : Nat → Nat → Bool}
/-- The closure as a list. -/
noncomputable def cloL (n : Nat) (r : List (List Int)) : List (List Int) := picked (closeF n r) n n
theorem clo_rel (r : List (List Int)) (h1 : 1 ≤ n) (h2 : n ≤ 40) : relB n (cloL n r) = true := relB_picked _ h1 h2
theorem clo_mem {r : List (List Int)} {i j : Nat} (hi : i < n) (hj : j < n) : memF (cloL n r) i j = closeF n r i j := memF_picked hi hj
theorem clo_twice {r : List (List Int)} (h1 : 1 ≤ n) (h2 : n ≤ 40) : compL n (cloL n r) (cloL n r) = (cloL n r, 0) := by
  have hc := clo_rel (n := n) r h1 h2
  rw [compL_yes hc hc]
  congr 1
  refine picked_congr fun i j hi hj => bool_eq ?_
  rw [comp_iff hc]
  constructor
  · rintro ⟨c, a, b⟩
    have hcn := (memF_lt hc a).2
    rw [clo_mem hi (by omega)] at a
    rw [clo_mem (by omega) hj] at b
    exact close_trans hi (by omega) a b
  · intro h
    exact ⟨i, by rw [clo_mem hi hi]; exact close_refl r hi, by rw [clo_mem hi hj]; exact h⟩
theorem clo_left {r : List (List Int)} (hr : relB n r = true) (h1 : 1 ≤ n) (h2 : n ≤ 40) : ∀ xs ∈ (compL n r (cloL n r)).1, xs ∈ cloL n r := by
  have hc := clo_rel (n := n) r h1 h2
  rw [compL_yes hr hc]
  intro xs hxs
  obtain ⟨i, j, hi, hj, h, rfl⟩ := mem_picked.1 hxs
  obtain ⟨c, a, b⟩ := (comp_iff hr).1 h
  have hcn := (memF_lt hr a).2
  rw [clo_mem (by omega) hj] at b
  exact mem_picked.2 ⟨i, j, hi, hj, close_trans hi (by omega) (close_more hi a) b, rfl⟩
theorem inv_twice (h1 : 1 ≤ n) (h2 : n ≤ 40) : invL n (invL n (picked f n n)).1 = (picked f n n, 0) := by
  have hr := relB_picked f h1 h2
  rw [invL_yes hr]
  have hi := relB_picked (fun i j => memF (picked f n n) j i) h1 h2
  show invL n (picked (fun i j => memF (picked f n n) j i) n n) = _
  rw [invL_yes hi]
  congr 1
  refine picked_congr fun i j hi hj => ?_
  rw [memF_picked hj hi, memF_picked hi hj]
theorem span_join {n : Int} {r : List (List Int)} (hr : relB n r = true) : ∀ k, k ≤ r.length → ∀ (m a b : Nat), m < k → r[m]? = some [(a : Int), (b : Int)] → spanTo r k a = spanTo r k b := by
  intro k
  induction k with
  | zero => intro _ m a b h; omega
  | succ k ih =>
    intro hk m a b hm h
    obtain ⟨x, y, hxy, _, _⟩ := rel_pair hr (k := k) (by omega)
    rw [spanTo_next hxy]
    by_cases e : m = k
    · subst e
      rw [hxy] at h
      injection h with h
      injection h with e1 h
      injection h with e2 _
      have e1 : x = a := by omega
      have e2 : y = b := by omega
      subst e1; subst e2
      unfold uniR; split <;> split <;> omega
    · have := ih (by omega) m a b (by omega) h
      unfold uniR; rw [this]
theorem span_least {n : Int} {r : List (List Int)} (hr : relB n r = true) {S : Nat → Nat} (hS : ∀ (m a b : Nat), r[m]? = some [(a : Int), (b : Int)] → S a = S b) : ∀ k, k ≤ r.length → ∀ x y, spanTo r k x = spanTo r k y → S x = S y := by
  intro k
  induction k with
  | zero => intro _ x y h; have h : x = y := h; rw [h]
  | succ k ih =>
    intro hk x y h
    obtain ⟨a, b, hab, _, _⟩ := rel_pair hr (k := k) (by omega)
    have hs := hS k a b hab
    have ihk := ih (by omega)
    rw [spanTo_next hab] at h
    unfold uniR at h
    have key : spanTo r k x = spanTo r k y ∨ (spanTo r k x = spanTo r k a ∧ spanTo r k y = spanTo r k b) ∨ (spanTo r k x = spanTo r k b ∧ spanTo r k y = spanTo r k a) := by
      split at h <;> split at h <;> omega
    rcases key with h | ⟨h1, h2⟩ | ⟨h1, h2⟩
    · exact ihk x y h
    · rw [ihk x a h1, ihk y b h2, hs]
    · rw [ihk x b h1, ihk y a h2, hs]
theorem clo_span {r : List (List Int)} (hr : relB n r = true) (h1 : 1 ≤ n) (h2 : n ≤ 40) : spanL n (cloL n r) = spanL n r := by
  have hc := clo_rel (n := n) r h1 h2
  rw [spanL_yes hc, spanL_yes hr]
  congr 1
  have key : ∀ x y, spanTo (cloL n r) (cloL n r).length x = spanTo (cloL n r) (cloL n r).length y ↔ spanTo r r.length x = spanTo r r.length y := by
    intro x y
    constructor
    · refine span_least hc (fun m a b h => ?_) _ (Nat.le_refl _) x y
      have hm : memF (cloL n r) a b = true := decide_eq_true (List.mem_of_getElem? h)
      have hl := memF_lt hc hm
      rw [clo_mem (by omega) (by omega)] at hm
      refine close_sound (T := fun i j => spanTo r r.length i = spanTo r r.length j) (fun _ => rfl) (fun _ _ _ h1 h2 => h1.trans h2) (fun i j hij => ?_) hm
      obtain ⟨m, hm⟩ := List.getElem?_of_mem (of_decide_eq_true hij)
      exact span_join hr _ (Nat.le_refl _) m i j (List.getElem?_eq_some_iff.1 hm).1 hm
    · refine span_least hr (fun m a b h => ?_) _ (Nat.le_refl _) x y
      have hm : memF r a b = true := decide_eq_true (List.mem_of_getElem? h)
      have hl := memF_lt hr hm
      have h3 : memF (cloL n r) a b = true := by rw [clo_mem (by omega) (by omega)]; exact close_more (by omega) hm
      obtain ⟨m, hm⟩ := List.getElem?_of_mem (of_decide_eq_true h3)
      exact span_join hc _ (Nat.le_refl _) m a b (List.getElem?_eq_some_iff.1 hm).1 hm
  refine normL_ker (by simp [rootsL]) fun i j x x' y y' hx hx' hy hy' => ?_
  have hi : i < n := by have := (List.getElem?_eq_some_iff.1 hx).1; rw [rootsL_length] at this; exact this
  have hj : j < n := by have := (List.getElem?_eq_some_iff.1 hx').1; rw [rootsL_length] at this; exact this
  rw [rootsL_at hi] at hx hy; rw [rootsL_at hj] at hx' hy'
  injection hx with hx; injection hx' with hx'; injection hy with hy; injection hy' with hy'
  have := key i j
  omega
theorem pickRow_one {f : Nat → Nat → Bool} {a b c : Nat} (hc : c < b) (h : f a c = true) : 1 ≤ (pickRow f a b).length :=
  List.length_pos_of_mem (mem_pickRow.2 ⟨c, hc, h, rfl⟩)
theorem clo_count (r : List (List Int)) : ∀ a, a ≤ n → a ≤ (picked (closeF n r) n a).length := by
  intro a
  induction a with
  | zero => intro _; omega
  | succ a ih =>
    intro ha
    have := pickRow_one (f := closeF n r) (a := a) (b := n) (c := a) (by omega) (close_refl r (by omega))
    have := ih (by omega)
    rw [picked, List.length_append]; omega
end
end Go.Proofs.Ythnopigibjmgbaa
