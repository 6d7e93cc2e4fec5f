/- Lists of numbers and labels as texts, as mathematics: what is written is read, and nothing else. -/
import Derived.Test.YtkfkdaencajplaaDoorRdM
import Derived.Test.YtkfkdaencajplaaDoorSplM
import Derived.Test.YtkfkdaencajplaaDoorNameM
namespace Go.Proofs.YtkfkdaencajplaaDoor
open Go.Lib
/-! numbers: what is read is what is written -/
theorem num_itoa {l : List UInt8} {n : Int} (h : num l = some n) : itoa n = l := by
  rw [← num2_eq] at h
  unfold num2 at h
  split at h
  · cases h
  · split at h
    · split at h
      · injection h with h; subst h; assumption
      · cases h
    · cases h
theorem num_bounds {l : List UInt8} {n : Int} (h : num l = some n) : -1000000000000000000 < n ∧ n < 1000000000000000000 := by
  unfold num at h
  split at h
  · cases h
  · split at h
    · rename_i c r _
      cases hd : numD r true with
      | none => rw [hd] at h; cases h
      | some u =>
        rw [hd] at h
        simp only [Option.map_some, Option.some.injEq] at h
        obtain ⟨_, h1, h2, h3, _⟩ := numD_some hd
        have := dval_small h1 h2
        omega
    · rename_i c r _
      cases hd : numD (c :: r) (decide (1 < (c :: r).length)) with
      | none => rw [hd] at h; cases h
      | some u =>
        rw [hd] at h
        simp only [Option.map_some, Option.some.injEq] at h
        obtain ⟨_, h1, h2, h3, _⟩ := numD_some hd
        have := dval_small h1 h2
        omega
theorem dec_digs (u : Nat) : (decDigits u).all isDig = true := by
  induction u using Nat.strongRecOn with
  | _ u ih =>
    have hd : isDig (UInt8.ofNat (48 + u % 10)) = true := by simp only [isDig, UInt8.toNat_ofNat', decide_eq_true_eq]; omega
    by_cases h : u < 10
    · rw [decDigits, dif_pos h]
      rw [Nat.mod_eq_of_lt h] at hd
      rw [List.all_cons, hd]; rfl
    · rw [decDigits, dif_neg h, List.all_append, ih (u / 10) (by omega), List.all_cons, hd]; rfl
theorem dval_dec (u : Nat) : dval 0 (decDigits u) = u := by
  induction u using Nat.strongRecOn with
  | _ u ih =>
    by_cases h : u < 10
    · rw [decDigits, dif_pos h, dval_cons, dval_nil, UInt8.toNat_ofNat']
      omega
    · rw [decDigits, dif_neg h, dval_app, ih (u / 10) (by omega), dval_cons, dval_nil, UInt8.toNat_ofNat']
      omega
theorem dec_short {u : Nat} (h : u < 1000000000000000000) : (decDigits u).length ≤ 18 := by
  rw [decDigits_length]
  refine Nat.le_of_not_lt fun hlt => ?_
  have h1 : ∀ (k u : Nat), u < 10 ^ (k + 1) → nDigits u ≤ k + 1 := by
    intro k
    induction k with
    | zero => intro u h; rw [nDigits_small (by simpa using h)]; omega
    | succ k ih =>
      intro u h
      by_cases hu : u < 10
      · rw [nDigits_small hu]; omega
      · rw [nDigits_big hu]
        have := ih (u / 10) (by rw [Nat.pow_succ] at h; omega)
        omega
  have := h1 17 u (Nat.lt_of_lt_of_le h (by decide))
  omega
theorem num_of_nat {u : Nat} (h : u < 1000000000000000000) : num (itoa (u : Int)) = some (u : Int) := by
  rw [itoa_nat]
  obtain ⟨c, r, h1, h2, h3, h4⟩ := dec_head u
  have ha := dec_digs u
  have hv := dval_dec u
  have hl := dec_short h
  have hc : c ≠ 45 := by rintro rfl; revert h2; decide
  rw [h1] at ha hv hl ⊢
  simp only [num, if_neg hc]
  have : numD (c :: r) (decide (1 < (c :: r).length)) = some u := by
    unfold numD
    rw [if_neg, if_pos ha, hv]
    rintro (e | e | ⟨e, e'⟩)
    · cases e
    · omega
    · have := h4 (h3 (by simpa using e))
      subst this
      simp at e'
  rw [this]; rfl
theorem num_of_neg {u : Nat} (h : u < 1000000000000000000) (h0 : u ≠ 0) : num (itoa (-(u : Int))) = some (-(u : Int)) := by
  rw [itoa_neg h0]
  obtain ⟨c, r, h1, h2, h3, h4⟩ := dec_head u
  have ha := dec_digs u
  have hv := dval_dec u
  have hl := dec_short h
  rw [h1] at ha hv hl ⊢
  simp only [num, if_pos]
  have : numD (c :: r) true = some u := by
    unfold numD
    rw [if_neg, if_pos ha, hv]
    rintro (e | e | ⟨e, e'⟩)
    · cases e
    · omega
    · exact h0 (h3 (by simpa using e))
  rw [this]; rfl
theorem num_of {n : Int} (h1 : -1000000000000000000 < n) (h2 : n < 1000000000000000000) : num (itoa n) = some n := by
  by_cases h : 0 ≤ n
  · obtain ⟨u, rfl⟩ := Int.eq_ofNat_of_zero_le h
    exact num_of_nat (by omega)
  · obtain ⟨u, hu⟩ := Int.eq_ofNat_of_zero_le (show 0 ≤ -n by omega)
    have hn : n = -(u : Int) := by omega
    subst hn
    exact num_of_neg (by omega) (by omega)
theorem itoa_bytes (n : Int) : ∀ c ∈ itoa n, isDig c = true ∨ c = 45 := by
  intro c hc
  unfold itoa at hc
  split at hc
  · rcases List.mem_cons.1 hc with h | h
    · exact Or.inr h
    · exact Or.inl (List.all_eq_true.1 (dec_digs _) c h)
  · exact Or.inl (List.all_eq_true.1 (dec_digs _) c hc)
theorem itoa_no44 (n : Int) : (44 : UInt8) ∉ itoa n := fun h => by
  rcases itoa_bytes n 44 h with h | h
  · revert h; decide
  · revert h; decide
theorem itoa_ne (n : Int) : itoa n ≠ [] := by
  unfold itoa
  split
  · simp
  · obtain ⟨c, r, h, _⟩ := dec_head n.toNat
    rw [h]; simp
/-! lists of numbers -/
def decs (vs : List Int) : List UInt8 := join (vs.map itoa) [44]
/-- The pieces ps are the numbers vs, all of them within P. -/
def Read (P : Int → Bool) (ps : List (List UInt8)) (vs : List Int) : Prop := ps.map num = vs.map some ∧ vs.all P = true
theorem Read.length {P : Int → Bool} {ps : List (List UInt8)} {vs : List Int} (h : Read P ps vs) : ps.length = vs.length := by
  have := congrArg List.length h.1
  simpa using this
theorem Read.itoa : ∀ {ps : List (List UInt8)} {vs : List Int} {P : Int → Bool}, Read P ps vs → vs.map Lib.itoa = ps
  | [], vs, _, h => by
    have := h.length
    cases vs with
    | nil => rfl
    | cons v vs => simp at this
  | p :: ps, vs, P, h => by
    cases vs with
    | nil => have := h.length; simp at this
    | cons v vs =>
      obtain ⟨h1, h2⟩ := h
      simp only [List.map_cons, List.cons.injEq] at h1
      simp only [List.all_cons, Bool.and_eq_true] at h2
      simp only [List.map_cons]
      rw [num_itoa h1.1, Read.itoa (P := P) ⟨h1.2, h2.2⟩]
theorem Read.decs {P : Int → Bool} {l : List UInt8} {vs : List Int} (h : Read P (pcs 44 l) vs) : Go.Proofs.YtkfkdaencajplaaDoor.decs vs = l := by
  unfold Go.Proofs.YtkfkdaencajplaaDoor.decs
  rw [h.itoa, join_pcs]
theorem Read.inj {P Q : Int → Bool} {ps : List (List UInt8)} {vs us : List Int} (h : Read P ps vs) (h' : Read Q ps us) : vs = us := by
  have := h.1.symm.trans h'.1
  exact (List.map_inj_right (fun _ _ e => Option.some.inj e)).1 this
theorem Read.ne {P : Int → Bool} {b : UInt8} {l : List UInt8} {vs : List Int} (h : Read P (pcs b l) vs) : vs ≠ [] := by
  rintro rfl
  have := h.length
  exact pcs_ne b l (List.length_eq_zero_iff.1 (by simpa using this))
theorem decs_pcs {vs : List Int} (h : vs ≠ []) : pcs 44 (decs vs) = vs.map itoa :=
  pcs_join 44 _ (by simpa using h) (fun p hp => by
    obtain ⟨v, _, rfl⟩ := List.mem_map.1 hp
    exact itoa_no44 v)
theorem read_of_decs {vs : List Int} {P : Int → Bool} (h : vs ≠ []) (hP : vs.all P = true) (hb : ∀ v ∈ vs, -1000000000000000000 < v ∧ v < 1000000000000000000) : Read P (pcs 44 (decs vs)) vs := by
  rw [decs_pcs h]
  refine ⟨?_, hP⟩
  rw [List.map_map]
  exact List.map_congr_left fun v hv => num_of (hb v hv).1 (hb v hv).2
theorem Read.step {P : Int → Bool} {ps : List (List UInt8)} {vs : List Int} {k : Nat} {p : List UInt8} {n : Int} (h : Read P (ps.take k) vs) (hk : ps[k]? = some p) (hn : num p = some n) (hP : P n = true) : Read P (ps.take (k + 1)) (vs ++ [n]) := by
  have : ps.take (k + 1) = ps.take k ++ [p] := by rw [List.take_add_one, hk]; rfl
  rw [this]
  refine ⟨?_, ?_⟩
  · rw [List.map_append, List.map_append, h.1]; simp [hn]
  · rw [List.all_append, h.2]; simp [hP]
theorem read_stop {P : Int → Bool} {ps : List (List UInt8)} {k : Nat} {p : List UInt8} (hk : ps[k]? = some p) (hn : num p = none) (vs : List Int) : ¬ Read P ps vs := by
  intro h
  have := congrArg (fun l => l[k]?) h.1
  simp only [List.getElem?_map, hk, Option.map_some, hn] at this
  cases hv : vs[k]? with
  | none => rw [hv] at this; cases this
  | some v => rw [hv] at this; simp at this
theorem read_out {P : Int → Bool} {ps : List (List UInt8)} {k : Nat} {p : List UInt8} {n : Int} (hk : ps[k]? = some p) (hn : num p = some n) (hP : P n = false) (vs : List Int) : ¬ Read P ps vs := by
  intro h
  have := congrArg (fun l => l[k]?) h.1
  simp only [List.getElem?_map, hk, Option.map_some, hn] at this
  cases hv : vs[k]? with
  | none => rw [hv] at this; cases this
  | some v =>
    rw [hv] at this
    simp at this
    subst this
    have h2 := List.all_eq_true.1 h.2 n (List.mem_of_getElem? hv)
    rw [hP] at h2; cases h2
theorem Read.weaken {P Q : Int → Bool} {ps : List (List UInt8)} {vs : List Int} (h : Read P ps vs) (hq : vs.all Q = true) : Read Q ps vs := ⟨h.1, hq⟩
/-! labels -/
def inMod (v : Int) : Bool := decide (0 ≤ v ∧ v ≤ 63)
def yes (_ : Int) : Bool := true
theorem all_yes (vs : List Int) : vs.all yes = true := by simp [yes]
theorem inMod_bounds {vs : List Int} (h : vs.all inMod = true) : ∀ v ∈ vs, -1000000000000000000 < v ∧ v < 1000000000000000000 := fun v hv => by
  have := List.all_eq_true.1 h v hv
  simp only [inMod, decide_eq_true_eq] at this
  omega
def tauB : List UInt8 := [116, 97, 117]
def make (nm : List UInt8) (vs : List Int) : List UInt8 := if vs = [] then nm else nm ++ 40 :: (decs vs ++ [41])
def LabOk (nm : List UInt8) (vs : List Int) : Prop := nameP nm ∧ vs.length ≤ 2 ∧ (nm = tauB → vs = []) ∧ vs.all inMod = true
open Classical in
noncomputable def labText (nm : List UInt8) (vs : List Int) : List UInt8 := if LabOk nm vs then make nm vs else []
theorem labText_yes {nm : List UInt8} {vs : List Int} (h : LabOk nm vs) : labText nm vs = make nm vs := by unfold labText; rw [if_pos h]
theorem labText_no {nm : List UInt8} {vs : List Int} (h : ¬ LabOk nm vs) : labText nm vs = [] := by unfold labText; rw [if_neg h]
theorem make_ne {nm : List UInt8} {vs : List Int} (h : nameP nm) : make nm vs ≠ [] := by
  have : nm ≠ [] := by rintro rfl; have := h.1; simp at this
  unfold make
  split
  · exact this
  · simp
theorem name_no40 {nm : List UInt8} (h : nameP nm) : (40 : UInt8) ∉ nm := fun hm => by
  obtain ⟨i, hi, he⟩ := List.getElem_of_mem hm
  have := h.2.2 i 40 (by rw [List.getElem?_eq_getElem hi, he])
  rcases this with h | ⟨_, h⟩
  · revert h; decide
  · revert h; decide
/-- l is a label with the values vs. -/
def LabR (l : List UInt8) (vs : List Int) : Prop := ∃ nm, LabOk nm vs ∧ make nm vs = l
theorem app_inj {p p' r r' : List UInt8} {b : UInt8} (h : p ++ b :: r = p' ++ b :: r') (hp : b ∉ p) (hp' : b ∉ p') : p = p' ∧ r = r' := by
  have h1 := pcs_hit b r p hp
  have h2 := pcs_hit b r' p' hp'
  rw [h, h2] at h1
  injection h1 with h1 _
  subst h1
  have := List.append_cancel_left h
  injection this with _ h3
  exact ⟨rfl, h3⟩
theorem lab_plain {l : List UInt8} (h : (40 : UInt8) ∉ l) {vs : List Int} : LabR l vs ↔ nameP l ∧ vs = [] := by
  constructor
  · rintro ⟨nm, hok, hm⟩
    unfold make at hm
    split at hm
    · rename_i hv; subst hm; exact ⟨hok.1, hv⟩
    · exact absurd (by rw [← hm]; simp) h
  · rintro ⟨h1, rfl⟩
    exact ⟨l, ⟨h1, by simp, fun _ => rfl, rfl⟩, by simp [make]⟩
theorem lab_open {p r : List UInt8} (h : (40 : UInt8) ∉ p) {vs : List Int} : LabR (p ++ 40 :: r) vs ↔ ∃ q, r = q ++ [41] ∧ nameP p ∧ p ≠ tauB ∧ Read inMod (pcs 44 q) vs ∧ vs.length ≤ 2 := by
  constructor
  · rintro ⟨nm, hok, hm⟩
    unfold make at hm
    split at hm
    · subst hm
      exact absurd (by simp) (name_no40 hok.1)
    · rename_i hv
      obtain ⟨h1, h2⟩ := app_inj hm (name_no40 hok.1) h
      subst h1
      exact ⟨decs vs, h2.symm, hok.1, fun e => hv (hok.2.2.1 e), read_of_decs hv hok.2.2.2 (inMod_bounds hok.2.2.2), hok.2.1⟩
  · rintro ⟨q, rfl, h1, h2, h3, h4⟩
    refine ⟨p, ⟨h1, h4, fun e => absurd e h2, h3.2⟩, ?_⟩
    unfold make
    rw [if_neg h3.ne, h3.decs]
theorem lab_inj {l : List UInt8} {vs us : List Int} (h : LabR l vs) (h' : LabR l us) : vs = us := by
  by_cases hm : (40 : UInt8) ∈ l
  · obtain ⟨p, r, rfl, hp⟩ := pcs_split _ 40 l (Nat.le_refl _) hm
    obtain ⟨q, e1, _, _, h1, _⟩ := (lab_open hp).1 h
    obtain ⟨q', e2, _, _, h2, _⟩ := (lab_open hp).1 h'
    have : q = q' := List.append_cancel_right (e1.symm.trans e2)
    subst this
    exact h1.inj h2
  · rw [((lab_plain hm).1 h).2, ((lab_plain hm).1 h').2]
open Classical in
/-- The values of a label. -/
noncomputable def labVals (l : List UInt8) : Option (List Int) := if h : ∃ vs, LabR l vs then some h.choose else none
theorem labVals_yes {l : List UInt8} {vs : List Int} (h : LabR l vs) : labVals l = some vs := by
  unfold labVals
  have hex : ∃ vs, LabR l vs := ⟨vs, h⟩
  rw [dif_pos hex, lab_inj hex.choose_spec h]
theorem labVals_no {l : List UInt8} (h : ∀ vs, ¬ LabR l vs) : labVals l = none := by
  unfold labVals
  rw [dif_neg (fun ⟨vs, hv⟩ => h vs hv)]
/-- The name of a label: what stands ahead of the parenthesis. -/
def preL (l : List UInt8) : List UInt8 := l.takeWhile (fun c => c != 40)
theorem preL_plain {l : List UInt8} (h : (40 : UInt8) ∉ l) : preL l = l := by
  unfold preL
  induction l with
  | nil => rfl
  | cons c r ih =>
    have h1 : c ≠ 40 := fun e => h (by simp [e])
    have h2 : (40 : UInt8) ∉ r := fun e => h (by simp [e])
    rw [List.takeWhile_cons_of_pos (by simpa using h1), ih h2]
theorem preL_open {p : List UInt8} (h : (40 : UInt8) ∉ p) (r : List UInt8) : preL (p ++ 40 :: r) = p := by
  unfold preL
  rw [List.takeWhile_append_of_pos]
  · simp
  · intro x hx
    simp only [bne_iff_ne, ne_eq]
    rintro rfl
    exact h hx
/-- A text is a label exactly if it is the text of what is read from it. -/
theorem lab_text {l nm : List UInt8} {vs : List Int} (h : labText nm vs = l) (hne : l ≠ []) : LabR l vs := by
  by_cases hok : LabOk nm vs
  · rw [labText_yes hok] at h
    exact ⟨nm, hok, h⟩
  · rw [labText_no hok] at h
    exact absurd h.symm hne
theorem lab_back_open {p r q : List UInt8} {vs : List Int} (hp : (40 : UInt8) ∉ p) (hq : r = q ++ [41] ∨ (q = r ∧ r.getLast? ≠ some 41)) (h : Read yes (pcs 44 q) vs) (hl : ∃ us, LabR (p ++ 40 :: r) us) : labText p vs = p ++ 40 :: r := by
  obtain ⟨us, hl⟩ := hl
  obtain ⟨q', e, h1, h2, h3, h4⟩ := (lab_open hp).1 hl
  have hqq : q = q' := by
    rcases hq with hq | ⟨_, hq⟩
    · exact List.append_cancel_right (hq.symm.trans e)
    · exact absurd (by rw [e]; simp) hq
  subst hqq
  have := h.inj h3
  subst this
  rw [labText_yes ⟨h1, h4, fun e => absurd e h2, h3.2⟩]
  unfold make
  rw [if_neg h3.ne, h3.decs, e]
end Go.Proofs.YtkfkdaencajplaaDoor
