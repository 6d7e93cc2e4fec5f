/- Lists of operations read from the end: which operations stand behind a term; the postfix form as a plain function. -/
import Derived.WalkKit
import Derived.Lib.Hide
import Derived.Test.YtkcbmblpalmmhaaMem
import Derived.Test.YtkcbmblpalmmhaaTmM
import Derived.Test.YtkcbmblpalmmhaaShiftM
import Derived.Test.YtkcbmblpalmmhaaExM
namespace Go.Proofs.Ytkcbmblpalmmhaa
open Go.RowKit
theorem scan_ex {v : Int} : ∀ (x : Ex) (r : List Tm) (n : Int), x.ok v → 0 ≤ n → scan v (x.flat ++ r) n = if n = 0 then false else scan v r (n - 1) := by
  have hc : ∀ (t : Tm) (r : List Tm) (n : Int), tmB v t = true → scan v (t :: r) n = if n = 0 then false else scan v r (n + (ar t - 1)) := by
    intro t r n h
    rw [scan]
    by_cases e : n = 0
    · rw [if_pos (.inl e), if_pos e]
    · rw [if_neg (by rintro (h0 | h0); exact e h0; rw [h] at h0; cases h0), if_neg e]
  intro x
  induction x with
  | leaf t =>
    intro r n h hn
    show scan v (t :: r) n = _
    rw [hc _ _ _ h.1, h.2, show n + (0 - 1) = n - 1 by omega]
  | one t a ih =>
    intro r n h hn
    show scan v (t :: (a.flat ++ r)) n = _
    rw [hc _ _ _ h.1, h.2.1, show n + (1 - 1) = n by omega, ih r n h.2.2 hn]
    split <;> rfl
  | two t a b iha ihb =>
    intro r n h hn
    show scan v (t :: ((a.flat ++ b.flat) ++ r)) n = _
    rw [hc _ _ _ h.1, h.2.1, List.append_assoc, show n + (2 - 1) = n + 1 by omega, iha _ (n + 1) h.2.2.1 (by omega), if_neg (show ¬ n + 1 = 0 by omega), show n + 1 - 1 = n by omega, ihb r n h.2.2.2 hn]
    split <;> rfl
theorem scan_list {v : Int} : ∀ (l : List Ex) (n : Int), (∀ x ∈ l, x.ok v) → 0 ≤ n → scan v (l.flatMap Ex.flat) n = decide (n = (l.length : Nat)) := by
  intro l
  induction l with
  | nil => intro n _ _; simp [scan]
  | cons x l ih =>
    intro n h hn
    rw [List.flatMap_cons, scan_ex x _ n (h x (by simp)) hn]
    by_cases e : n = 0
    · rw [if_pos e, eq_comm]
      exact decide_eq_false (by simp; omega)
    · rw [if_neg e, ih (n - 1) (fun y hy => h y (by simp [hy])) (by omega)]
      simp only [List.length_cons]
      congr 1
      apply propext
      omega
theorem scan_drop {v : Int} : ∀ (es : List Tm) (n : Int) (i : Nat), scan v es n = true → 0 ≤ n → ∃ n', 0 ≤ n' ∧ scan v (es.drop i) n' = true := by
  intro es
  induction es with
  | nil => intro n i h hn; exact ⟨n, hn, by simpa using h⟩
  | cons t r ih =>
    intro n i h hn
    cases i with
    | zero => exact ⟨n, hn, h⟩
    | succ i =>
      rw [scan] at h
      split at h
      · cases h
      · rename_i hc
        have hb := ar_bd t
        have h0 : n ≠ 0 := fun e => hc (.inl e)
        exact ih _ i h (by omega)
/-- The first term. -/
def Ex.top : Ex → Tm
  | .leaf t => t
  | .one t _ => t
  | .two t _ _ => t
/-- The operation that begins at a term, out of those that stand behind it. -/
theorem suf_step {v : Int} {es : List Tm} (h : scan v es 1 = true) {i : Nat} {t : Tm} (ht : es[i]? = some t) {l : List Ex} (hl : l.flatMap Ex.flat = es.drop (i + 1)) (ho : ∀ x ∈ l, x.ok v) :
    ∃ (x : Ex) (l' : List Ex), x.ok v ∧ x.top = t ∧ l = x.kids ++ l' ∧ ar t = (x.kids.length : Nat) ∧ (x :: l').flatMap Ex.flat = es.drop i := by
  obtain ⟨n, hn, hs⟩ := scan_drop es 1 i h (by omega)
  have hd := drop_one _ _ _ ht
  rw [hd, scan] at hs
  split at hs
  · cases hs
  rename_i hc
  have h0 : n ≠ 0 := fun e => hc (.inl e)
  have htm : tmB v t = true := by
    rcases e : tmB v t with _ | _
    · exact absurd (.inr e) hc
    · rfl
  have hb := ar_bd t
  rw [← hl, scan_list l _ ho (by omega)] at hs
  have hlen := of_decide_eq_true hs
  have h3 : ar t = 0 ∨ ar t = 1 ∨ ar t = 2 := by omega
  rcases h3 with h3 | h3 | h3
  · exact ⟨.leaf t, l, ⟨htm, h3⟩, rfl, rfl, h3, by rw [hd, ← hl]; rfl⟩
  · rcases l with _ | ⟨a, l⟩
    · simp at hlen; omega
    · exact ⟨.one t a, l, ⟨htm, h3, ho a (by simp)⟩, rfl, rfl, h3, by rw [hd, ← hl]; simp [Ex.flat]⟩
  · rcases l with _ | ⟨a, _ | ⟨b, l⟩⟩
    · simp at hlen; omega
    · simp at hlen; omega
    · exact ⟨.two t a b, l, ⟨htm, h3, ho a (by simp), ho b (by simp)⟩, rfl, rfl, h3, by rw [hd, ← hl]; simp [Ex.flat]⟩
theorem Ex.flat_top (x : Ex) : x.flat = x.top :: x.kids.flatMap Ex.flat := by cases x <;> simp [Ex.flat, Ex.top, Ex.kids]
theorem ex_eq {v : Int} {x y : Ex} (hx : x.ok v) (hy : y.ok v) (h1 : x.top = y.top) (h2 : x.kids = y.kids) : x = y := by
  cases x <;> cases y <;> simp [Ex.top, Ex.kids] at h1 h2 <;> simp_all
theorem parse_inj {v : Int} : ∀ (n : Nat) (l1 l2 : List Ex), (l1.flatMap Ex.flat).length ≤ n → (∀ x ∈ l1, x.ok v) → (∀ x ∈ l2, x.ok v) → l1.flatMap Ex.flat = l2.flatMap Ex.flat → l1 = l2 := by
  intro n
  induction n with
  | zero =>
    intro l1 l2 hn h1 h2 he
    rcases l1 with _ | ⟨x, l1⟩
    · rcases l2 with _ | ⟨y, l2⟩
      · rfl
      · have h3 := congrArg List.length he
        have h4 := Ex.flat_pos y
        rw [List.flatMap_cons, List.length_append] at h3
        simp only [List.flatMap_nil, List.length_nil] at h3
        omega
    · have h4 := Ex.flat_pos x
      rw [List.flatMap_cons, List.length_append] at hn
      omega
  | succ n ih =>
    intro l1 l2 hn h1 h2 he
    rcases l1 with _ | ⟨x, l1⟩
    · rcases l2 with _ | ⟨y, l2⟩
      · rfl
      · have h3 := congrArg List.length he
        have h4 := Ex.flat_pos y
        rw [List.flatMap_cons, List.length_append] at h3
        simp only [List.flatMap_nil, List.length_nil] at h3
        omega
    · rcases l2 with _ | ⟨y, l2⟩
      · have h3 := congrArg List.length he
        have h4 := Ex.flat_pos x
        rw [List.flatMap_cons, List.length_append] at h3
        simp only [List.flatMap_nil, List.length_nil] at h3
        omega
      · rw [List.flatMap_cons, List.flatMap_cons, Ex.flat_top x, Ex.flat_top y, List.cons_append, List.cons_append] at he
        injection he with ht hr
        rw [← List.flatMap_append, ← List.flatMap_append] at hr
        have hlen : ((x.kids ++ l1).flatMap Ex.flat).length ≤ n := by
          rw [List.flatMap_cons, Ex.flat_top x, List.cons_append, List.length_cons, ← List.flatMap_append] at hn
          omega
        have hk := ih (x.kids ++ l1) (y.kids ++ l2) hlen (fun z hz => by
          rcases List.mem_append.1 hz with hz | hz
          · exact Ex.kids_ok (h1 x (by simp)) z hz
          · exact h1 z (by simp [hz])) (fun z hz => by
          rcases List.mem_append.1 hz with hz | hz
          · exact Ex.kids_ok (h2 y (by simp)) z hz
          · exact h2 z (by simp [hz])) hr
        have hkl : x.kids.length = y.kids.length := by
          obtain ⟨t1, r1, e1, a1⟩ := Ex.kids_len (h1 x (by simp))
          obtain ⟨t2, r2, e2, a2⟩ := Ex.kids_len (h2 y (by simp))
          rw [Ex.flat_top x] at e1
          rw [Ex.flat_top y] at e2
          injection e1 with e1 _
          injection e2 with e2 _
          rw [← e1, ht, e2] at a1
          rw [a1] at a2
          omega
        obtain ⟨hk1, hk2⟩ := List.append_inj hk hkl
        rw [ex_eq (h1 x (by simp)) (h2 y (by simp)) ht hk1, hk2]
/-- The whole of an expression, once all its terms have been read from the end. -/
theorem suf_done {es : List Tm} (h : exB 29 60 es = true) {l : List Ex} (hl : l.flatMap Ex.flat = es) (ho : ∀ x ∈ l, x.ok 29) : l = [treeOf es] := by
  obtain ⟨h1, h2⟩ := treeOf_ok h
  exact parse_inj (v := 29) es.length l [treeOf es] (by rw [hl]; exact Nat.le_refl _) ho (fun x hx => by rw [List.mem_singleton] at hx; subst hx; exact h2) (by rw [hl]; simp [h1])
def postX : Ex → List Tm
  | .leaf t => [t]
  | .one t a => postX a ++ [t]
  | .two t a b => postX a ++ postX b ++ [t]
theorem postX_kids (x : Ex) : postX x = x.kids.flatMap postX ++ [x.top] := by cases x <;> simp [postX, Ex.kids, Ex.top]
theorem postX_len : ∀ x : Ex, (postX x).length = x.flat.length := by
  intro x
  induction x with
  | leaf t => rfl
  | one t a ih => simp [postX, Ex.flat, ih]
  | two t a b iha ihb => simp [postX, Ex.flat, iha, ihb]; omega
theorem postX_pos (x : Ex) : 1 ≤ (postX x).length := by rw [postX_len]; exact Ex.flat_pos x
noncomputable def postR (es : List Tm) : List Tm × Int := if exB 29 60 es = true then (postX (treeOf es), 0) else ([], 1)
theorem postR_no {es : List Tm} (h : exB 29 60 es = false) : postR es = ([], 1) := by unfold postR; rw [if_neg (by rw [h]; simp)]
theorem postR_yes {es : List Tm} (h : exB 29 60 es = true) : postR es = (postX (treeOf es), 0) := by unfold postR; rw [if_pos h]
theorem postR_len (es : List Tm) : (postR es).1.length ≤ 2000000 := by
  rcases h : exB 29 60 es with _ | _
  · rw [postR_no h]; simp
  · rw [postR_yes h]
    have h1 := postX_len (treeOf es)
    rw [(treeOf_ok h).1] at h1
    have h2 := (exB_scan h).2
    simp only; omega
end Go.Proofs.Ytkcbmblpalmmhaa
