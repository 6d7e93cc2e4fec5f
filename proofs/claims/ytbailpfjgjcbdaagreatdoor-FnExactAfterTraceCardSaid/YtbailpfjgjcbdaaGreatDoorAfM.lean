/- States behind traces: plain mathematics. -/
import Derived.Test.YtbailpfjgjcbdaaGreatDoorIcM
namespace Go.Proofs.YtbailpfjgjcbdaaGreatDoor
open Go.RowKit
def behL (x : Lt) (ss : List Int) (nl : Int) : List Int := ss.flatMap fun k => sucE x k nl
theorem behL_nil (x : Lt) (nl : Int) : behL x [] nl = [] := rfl
theorem behL_snoc (x : Lt) (ss : List Int) (k nl : Int) : behL x (ss ++ [k]) nl = behL x ss nl ++ sucE x k nl := by unfold behL; rw [List.flatMap_append]; simp
theorem behL_len {x : Lt} (hm : x.es.length ≤ 300) (nl : Int) : ∀ ss : List Int, (behL x ss nl).length ≤ 300 * ss.length
  | [] => by simp [behL]
  | k :: ss => by
    have h := behL_len hm nl ss
    have h2 := sucE_len x k nl
    unfold behL at h ⊢
    rw [List.flatMap_cons, List.length_append, List.length_cons]
    omega
theorem mem_behL {x : Lt} {ss : List Int} {nl t : Int} : t ∈ behL x ss nl ↔ ∃ e ∈ x.es, (e.l = nl ∧ e.f ∈ ss) ∧ e.t = t := by
  unfold behL
  rw [List.mem_flatMap]
  constructor
  · rintro ⟨k, hk, h⟩
    obtain ⟨e, he, ⟨h1, h2⟩, h3⟩ := mem_suc.1 h
    exact ⟨e, he, ⟨h2, by rw [h1]; exact hk⟩, h3⟩
  · rintro ⟨e, he, ⟨h1, h2⟩, h3⟩
    exact ⟨e.f, h2, mem_suc.2 ⟨e, he, ⟨rfl, h1⟩, h3⟩⟩
theorem behL_in {x : Lt} (hv : ltB x = true) (ss : List Int) (nl : Int) : inSt x (behL x ss nl) := fun k hk => by
  obtain ⟨e, he, _, rfl⟩ := mem_behL.1 hk
  exact (inE_iff.1 (List.all_eq_true.1 (ltB_parts hv).2.2.2.2.2 _ he)).2.2
def hasI (xs : List Int) (k : Int) : Bool := !(xs.all fun u => !(u == k))
theorem hasI_iff {xs : List Int} {k : Int} : hasI xs k = true ↔ k ∈ xs := by
  unfold hasI
  rw [Bool.not_eq_true', Bool.eq_false_iff, ne_eq, List.all_eq_true]
  constructor
  · intro h
    apply Classical.byContradiction
    intro hn
    exact h fun u hu => by
      rw [Bool.not_eq_true', beq_eq_false_iff_ne]
      rintro rfl
      exact hn hu
  · intro h h2
    have := h2 k h
    simp at this
def nxP (ss : List Int) (nl : Int) (e : Ed) : Bool := e.l == nl && hasI ss e.f
def nxT (x : Lt) (ss : List Int) (nl : Int) (j : Nat) : List Int := ((x.es.take j).filter (nxP ss nl)).map Ed.t
theorem nxT_yes {x : Lt} {ss : List Int} {nl : Int} {j : Nat} {e : Ed} (he : x.es[j]? = some e) (h : nxP ss nl e = true) : nxT x ss nl (j + 1) = nxT x ss nl j ++ [e.t] := by
  unfold nxT; rw [take_one _ _ _ he, List.filter_append, List.filter_cons, if_pos h, List.filter_nil, List.map_append]; rfl
theorem nxT_no {x : Lt} {ss : List Int} {nl : Int} {j : Nat} {e : Ed} (he : x.es[j]? = some e) (h : nxP ss nl e = false) : nxT x ss nl (j + 1) = nxT x ss nl j := by
  unfold nxT; rw [take_one _ _ _ he, List.filter_append, List.filter_cons, if_neg (by rw [h]; decide), List.filter_nil, List.append_nil]
theorem mem_nxT {x : Lt} {ss : List Int} {nl t : Int} {j : Nat} (hj : x.es.length ≤ j) : t ∈ nxT x ss nl j ↔ t ∈ behL x ss nl := by
  unfold nxT
  rw [List.take_of_length_le hj, List.mem_map, mem_behL]
  constructor
  · rintro ⟨e, he, h⟩
    rw [List.mem_filter] at he
    obtain ⟨h1, h2⟩ := he
    unfold nxP at h2
    rw [Bool.and_eq_true, beq_iff_eq, hasI_iff] at h2
    exact ⟨e, h1, h2, h⟩
  · rintro ⟨e, he, h1, h2⟩
    exact ⟨e, List.mem_filter.2 ⟨he, by unfold nxP; rw [Bool.and_eq_true, beq_iff_eq, hasI_iff]; exact h1⟩, h2⟩
theorem nxT_in {x : Lt} (hv : ltB x = true) (ss : List Int) (nl : Int) (j : Nat) : inSt x (nxT x ss nl j) := fun k hk => by
  unfold nxT at hk
  obtain ⟨e, he, rfl⟩ := List.mem_map.1 hk
  exact (inE_iff.1 (List.all_eq_true.1 (ltB_parts hv).2.2.2.2.2 _ (List.mem_of_mem_take (List.mem_filter.1 he).1))).2.2
noncomputable def nexL (x : Lt) (ss : List Int) (nl : Int) : List Int := cloL x (behL x ss nl)
theorem nexL_nxT {x : Lt} {ss : List Int} {nl : Int} {j : Nat} (hj : x.es.length ≤ j) : cloL x (nxT x ss nl j) = nexL x ss nl := clL_congr fun _ => mem_nxT hj
theorem nexL_nil (x : Lt) (nl : Int) : nexL x [] nl = [] := cloL_nil x
theorem fndI_lf {x : Lt} (tv : ltB x = true) (u s : ByteArray) (i : Int) (h0 : 0 ≤ i) (hs : x.ls[i.toNat]? = some s) : eqB s u = (i == fndI x.ls u) := by
  rcases tu : hasU x.ls u with _ | _
  · rw [fndI_no tu]
    have h1 : eqB s u = false := by
      rcases h : eqB s u with _ | _
      · rfl
      · rw [hasU_hit hs h] at tu; cases tu
    rw [h1]
    symm
    rw [beq_eq_false_iff_ne]
    omega
  · rw [fndI_yes tu]
    exact lab_fnd tv tu h0 hs
/-- The states behind a trace. -/
noncomputable def aftT (x : Lt) (tr : List ByteArray) : List Int := tr.foldl (fun ss u => nexL x ss (fndI x.ls u)) (cloL x [x.ini])
theorem aftT_zero (x : Lt) : aftT x [] = cloL x [x.ini] := rfl
theorem aftT_snoc (x : Lt) (tr : List ByteArray) (u : ByteArray) : aftT x (tr ++ [u]) = nexL x (aftT x tr) (fndI x.ls u) := by unfold aftT; rw [List.foldl_append]; rfl
theorem aftT_next {x : Lt} {tr : List ByteArray} {j : Nat} {u : ByteArray} (h : tr[j]? = some u) : aftT x (tr.take (j + 1)) = nexL x (aftT x (tr.take j)) (fndI x.ls u) := by rw [take_one _ _ _ h, aftT_snoc]
theorem fold_nil (x : Lt) : ∀ tr : List ByteArray, tr.foldl (fun ss u => nexL x ss (fndI x.ls u)) [] = []
  | [] => rfl
  | u :: tr => by rw [List.foldl_cons, nexL_nil]; exact fold_nil x tr
theorem aftT_dead {x : Lt} {tr : List ByteArray} {j : Nat} (h : aftT x (tr.take j) = []) : aftT x tr = [] := by
  have e : tr = tr.take j ++ tr.drop j := (List.take_append_drop j tr).symm
  rw [e]
  unfold aftT at h ⊢
  rw [List.foldl_append, h]
  exact fold_nil x _
theorem aftT_40 {x : Lt} (hv : ltB x = true) (tr : List ByteArray) : (aftT x tr).length ≤ 40 := by
  rcases List.eq_nil_or_concat tr with rfl | ⟨tr', u, rfl⟩
  · exact cloL_40 hv _
  · rw [List.concat_eq_append, aftT_snoc]; exact cloL_40 hv _
theorem aftT_in {x : Lt} (hv : ltB x = true) (tr : List ByteArray) : inSt x (aftT x tr) := by
  rcases List.eq_nil_or_concat tr with rfl | ⟨tr', u, rfl⟩
  · exact cloL_in hv _
  · rw [List.concat_eq_append, aftT_snoc]; exact cloL_in hv _
noncomputable def visB (u : ByteArray) : Bool := labB u && !isT u
noncomputable def afC (x : Lt) (tr : List ByteArray) : Int := if ltB x = true then (if tr.all visB = true then (if (aftT x tr).length = 0 then 3 else 0) else 2) else 1
noncomputable def afR (x : Lt) (tr : List ByteArray) : List Int := if afC x tr = 0 then aftT x tr else []
theorem afC_inv {x : Lt} {tr : List ByteArray} (h : ltB x = false) : afC x tr = 1 := by unfold afC; rw [h]; rfl
theorem afC_rng {x : Lt} {tr : List ByteArray} (h : ltB x = true) (h2 : tr.all visB = false) : afC x tr = 2 := by unfold afC; rw [h, h2]; rfl
theorem afC_not {x : Lt} {tr : List ByteArray} (h : ltB x = true) (h2 : tr.all visB = true) (h3 : (aftT x tr).length = 0) : afC x tr = 3 := by unfold afC; rw [if_pos h, if_pos h2, if_pos h3]
theorem afC_ok {x : Lt} {tr : List ByteArray} (h : ltB x = true) (h2 : tr.all visB = true) (h3 : ¬ (aftT x tr).length = 0) : afC x tr = 0 := by unfold afC; rw [if_pos h, if_pos h2, if_neg h3]
theorem afC_parts {x : Lt} {tr : List ByteArray} (h : afC x tr = 0) : ltB x = true := by
  unfold afC at h
  split at h
  · assumption
  · cases h
theorem afR_ok {x : Lt} {tr : List ByteArray} (h : afC x tr = 0) : afR x tr = aftT x tr := if_pos h
theorem afR_no {x : Lt} {tr : List ByteArray} (h : ¬ afC x tr = 0) : afR x tr = [] := if_neg h
theorem afR_len (x : Lt) (tr : List ByteArray) : (afR x tr).length ≤ 40 := by
  unfold afR
  split
  · rename_i h; exact aftT_40 (afC_parts h) tr
  · exact Nat.zero_le _
theorem ok_afR (x : Lt) (tr : List ByteArray) : okList okAny (afR x tr) := ⟨by have h := afR_len x tr; omega, fun _ _ => trivial⟩
theorem cnt_afR (x : Lt) (tr : List ByteArray) : cntL intM (afR x tr) ≤ 100000000 := by
  have h1 := cnt_int (afR x tr)
  have h2 := wL_z (afR x tr)
  have h3 := afR_len x tr
  omega
end Go.Proofs.YtbailpfjgjcbdaaGreatDoor
