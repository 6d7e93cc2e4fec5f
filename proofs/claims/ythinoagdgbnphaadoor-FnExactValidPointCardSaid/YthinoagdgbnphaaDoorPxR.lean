/- Why a part is not valid, and which bodies and definitions are; plain mathematics. -/
import Derived.WalkKit
import Derived.Lib.Hide
import Derived.Test.YthinoagdgbnphaaDoorMem
import Derived.Test.YthinoagdgbnphaaDoorDat
import Derived.Test.YthinoagdgbnphaaDoorTmM
import Derived.Test.YthinoagdgbnphaaDoorNameM
import Derived.Test.YthinoagdgbnphaaDoorPxM
namespace Go.Proofs.YthinoagdgbnphaaDoor
open Go.RowKit
def emB (t : ByteArray) : Bool := t.size == 0
def kindB (p : Pt) : Bool :=
  if p.k = 0 ∨ p.k = 2 then (p.n == 0 && (emB p.nm && p.args.length == 0))
  else if p.k = 1 then p.n == 0
  else if p.k = 3 then (p.n == 0 && emB p.nm)
  else if p.k = 4 then (emB p.nm && p.args.length == 0)
  else if p.k = 5 then emB p.nm
  else false
noncomputable def nmB (p : Pt) : Bool := if p.k = 1 then nameB p.nm.data.toList else true
def numB (ls : List Df) (p : Pt) : Bool := if p.k = 4 then decide (1 ≤ p.n ∧ p.n ≤ 7) else if p.k = 5 then decide (0 ≤ p.n ∧ p.n < ls.length) else true
def cntB (ls : List Df) (p : Pt) : Bool :=
  if p.k = 1 then (p.args.length == 0 || (!(p.nm.toList == [116, 97, 117]) && decide (p.args.length ≤ 2)))
  else if p.k = 3 then p.args.length == 1
  else if p.k = 5 then decide ((p.args.length : Int) = (ls.getD p.n.toNat default).ps)
  else true
def trmB (s : Int) (ts : List (List Tm)) : Bool := ts.all (exB s 15)
/-- The first reason why a part is not valid in its place; 0 if there is none. -/
noncomputable def rsn (ls : List Df) (a : An) : Int :=
  if kindB a.p = false then 2
  else if nmB a.p = false then 3
  else if numB ls a.p = false then 4
  else if cntB ls a.p = false then 5
  else if a.p.k = 5 ∧ a.c = false then 6
  else if a.p.k = 4 ∧ 6 ≤ a.s then 7
  else if trmB a.s a.p.args = false then 8
  else 0
noncomputable def firstR (ls : List Df) : List An → Int → Int × Int
  | [], _ => (0, 0)
  | a :: r, i => if rsn ls a = 0 then firstR ls r (i + 1) else (i, rsn ls a)
def shapeB (es : List Pt) : Bool := decide (es.length ≤ 20) && nd es 1
theorem shape_parse {es : List Pt} (h : shapeB es = true) : ∃ x : Px, x.flat = es ∧ x.ok ∧ x.size ≤ 20 := by
  unfold shapeB at h
  rw [Bool.and_eq_true] at h
  obtain ⟨l, hl, hf, ho⟩ := nd_parse es 1 h.2 (by omega)
  have h1 := of_decide_eq_true h.1
  rcases l with _ | ⟨x, _ | ⟨y, l⟩⟩
  · simp at hl
  · have e : x.flat = es := by simpa using hf
    exact ⟨x, e, ho x (by simp), by rw [← Px.flat_len, e]; exact h1⟩
  · simp at hl; omega
/-- The tree of a body. -/
noncomputable def pxOf (es : List Pt) : Px := by classical exact if h : ∃ x : Px, x.flat = es ∧ x.ok ∧ x.size ≤ 20 then Classical.choose h else .leaf ⟨0, 0, ⟨#[]⟩, []⟩
theorem pxOf_ok {es : List Pt} (h : shapeB es = true) : (pxOf es).flat = es ∧ (pxOf es).ok ∧ (pxOf es).size ≤ 20 := by
  have hx := shape_parse h
  unfold pxOf
  rw [dif_pos hx]
  exact Classical.choose_spec hx
/-- The parts of a body with what their places say of them. -/
noncomputable def annOf (d : Df) : List An := (pxOf d.body).ann 0 d.ps false
theorem annOf_len {d : Df} (h : shapeB d.body = true) : (annOf d).length = d.body.length := by
  unfold annOf; rw [Px.ann_len, ← Px.flat_len, (pxOf_ok h).1]
theorem annOf_part {d : Df} (h : shapeB d.body = true) {i : Nat} {a : An} (ha : (annOf d)[i]? = some a) : d.body[i]? = some a.p := by
  have e := Px.ann_part (pxOf d.body) 0 d.ps false
  rw [(pxOf_ok h).1] at e
  rw [← e, List.getElem?_map]
  unfold annOf at ha
  rw [ha]; rfl
theorem annOf_end {d : Df} (h : shapeB d.body = true) {i : Nat} {a : An} (ha : (annOf d)[i]? = some a) : pf (d.body.drop i) 1 i = a.e := by
  have := Px.ann_end (pxOf d.body) 0 d.ps false [] i a (pxOf_ok h).2.1 ha
  rw [List.append_nil, (pxOf_ok h).1, Nat.zero_add] at this
  exact this
theorem annOf_scope {d : Df} (_h : shapeB d.body = true) {i : Nat} {a : An} (ha : (annOf d)[i]? = some a) : a.s = d.ps + sc ((annOf d).take i) i := by
  have := Px.ann_scope (pxOf d.body) 0 d.ps false i a ha
  rw [Nat.zero_add] at this
  exact this
theorem annOf_le {d : Df} (h : shapeB d.body = true) {a : An} (ha : a ∈ annOf d) : a.e ≤ d.body.length := by
  have := Px.ann_le (pxOf d.body) 0 d.ps false a ha
  rw [Nat.zero_add, ← Px.flat_len, (pxOf_ok h).1] at this
  exact this
/-- Directly behind an action? -/
def behind (d : Df) : Nat → Bool
  | 0 => false
  | j + 1 => match d.body[j]? with | some q => q.k == 1 | none => false
theorem annOf_cont {d : Df} (h : shapeB d.body = true) {i : Nat} {a : An} (ha : (annOf d)[i]? = some a) : a.c = behind d i := by
  rcases i with _ | j
  · obtain ⟨p, r, e⟩ := Px.ann_first (pxOf d.body) 0 d.ps false
    unfold annOf at ha
    rw [e] at ha
    injection ha with ha
    subst ha; rfl
  · have hlt := (List.getElem?_eq_some_iff.1 ha).1
    obtain ⟨b, hb⟩ : ∃ b, (annOf d)[j]? = some b := ⟨_, List.getElem?_eq_getElem (by omega)⟩
    have hp := annOf_part h hb
    show a.c = match d.body[j]? with | some q => q.k == 1 | none => false
    rw [hp]
    exact Px.ann_cont (pxOf d.body) 0 d.ps false j a b (pxOf_ok h).2.1 hb ha
theorem sc_bd (l : List An) (n : Nat) : 0 ≤ sc l n ∧ sc l n ≤ l.length := by
  induction l with
  | nil => simp [sc]
  | cons a l ih =>
    simp only [sc, List.length_cons]
    have : 0 ≤ sm a.p ∧ sm a.p ≤ 1 := by unfold sm; split <;> omega
    split <;> omega
theorem annOf_sbd {d : Df} (h : shapeB d.body = true) (h0 : 0 ≤ d.ps) (h3 : d.ps ≤ 3) {i : Nat} {a : An} (ha : (annOf d)[i]? = some a) : 0 ≤ a.s ∧ a.s ≤ 23 := by
  have e := annOf_scope h ha
  have hlt := (List.getElem?_eq_some_iff.1 ha).1
  rw [annOf_len h] at hlt
  have hb := sc_bd ((annOf d).take i) i
  rw [List.length_take] at hb
  have h20 := (pxOf_ok h).2.2
  rw [← Px.flat_len, (pxOf_ok h).1] at h20
  omega
/-- The first part of a body that is not valid, and the reason. -/
noncomputable def bodyF (ls : List Df) (d : Df) : Int × Int := if shapeB d.body = true then firstR ls (annOf d) 0 else (0, 1)
theorem firstR_drop {ls : List Df} {l : List An} : ∀ {k : Nat} {a : An} (i : Int), l[k]? = some a → firstR ls (l.drop k) i = if rsn ls a = 0 then firstR ls (l.drop (k + 1)) (i + 1) else (i, rsn ls a) := by
  intro k a i h
  obtain ⟨hlt, e⟩ := List.getElem?_eq_some_iff.1 h
  rw [List.drop_eq_getElem_cons hlt, e]; rfl
theorem rsn_nonneg (ls : List Df) (a : An) : 0 ≤ rsn ls a := by
  unfold rsn
  repeat' split
  all_goals omega
/-- Definitions whose parameters are counted well, with names that differ. -/
noncomputable def headB (ls : List Df) : Bool := ls.all fun d => nameB d.nm.data.toList && decide (0 ≤ d.ps ∧ d.ps ≤ 3)
def diffB : List Df → Bool
  | [] => true
  | d :: r => r.all (fun q => !(q.nm.toList == d.nm.toList)) && diffB r
noncomputable def vdB (ls : List Df) : Bool := decide (1 ≤ ls.length ∧ ls.length ≤ 4) && (headB ls && (diffB ls && ls.all fun d => (bodyF ls d).2 == 0))
end Go.Proofs.YthinoagdgbnphaaDoor
