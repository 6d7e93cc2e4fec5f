/- Lts as a record: how it is read, owned, marked. -/
import Derived.Test.YthbnfjedjijacaaEdD
namespace Go.Proofs.Ythbnfjedjijacaa
open Go.RowKit
structure Lt where
  st : Int
  ini : Int
  ls : List ByteArray
  es : List Ed
instance : Inhabited Lt := ⟨⟨0, 0, [], []⟩⟩
def ltR : Rec Lt where
  R w S x vs := ∃ A1 c1 A2 c2, vs = [.int .i64 x.st, .int .i64 x.ini, .slice A1 x.ls.length c1, .slice A2 x.es.length c2] ∧ (x.ls.length ≤ c1 ∧ c1 ≤ maxLen ∧ LRow txtR w S A1 x.ls) ∧ (x.es.length ≤ c2 ∧ c2 ≤ maxLen ∧ LRow edR w S A2 x.es)
  width := 4
  pos := by decide
  len h := by obtain ⟨_, _, _, _, rfl, _⟩ := h; rfl
  keep h hk := by
    obtain ⟨A1, c1, A2, c2, e, ⟨p1, q1, r1⟩, ⟨p2, q2, r2⟩⟩ := h
    exact ⟨A1, c1, A2, c2, e, ⟨p1, q1, r1.keep hk⟩, ⟨p2, q2, r2.keep hk⟩⟩
  more h hS := by
    obtain ⟨A1, c1, A2, c2, e, ⟨p1, q1, r1⟩, ⟨p2, q2, r2⟩⟩ := h
    exact ⟨A1, c1, A2, c2, e, ⟨p1, q1, r1.more hS⟩, ⟨p2, q2, r2.more hS⟩⟩
def okLt (x : Lt) : Prop := okList okTx x.ls ∧ okList okAny x.es
def wtLt (x : Lt) : Nat := wL wtZ x.ls + wL wtZ x.es
def ltO : Owd Lt where
  F := ltR
  O w S x vs := ∃ A1 c1 A2 c2, ∃ E : Nat → Nat → Prop, vs = [.int .i64 x.st, .int .i64 x.ini, .slice A1 x.ls.length c1, .slice A2 x.es.length c2] ∧ OL txtO 9 w (E 0) A1 x.ls.length c1 x.ls ∧ OL edO 42 w (E 1) A2 x.es.length c2 x.es ∧ Ap E ∧ ∀ i b, E i b → S b
  rd h := by
    obtain ⟨A1, c1, A2, c2, E, e, h1, h2, _, hS⟩ := h
    exact ⟨A1, c1, A2, c2, e, ⟨h1.cap.1, h1.cap.2, (h1.more (hS 0)).lrow⟩, ⟨h2.cap.1, h2.cap.2, (h2.more (hS 1)).lrow⟩⟩
  keep h hk := by
    obtain ⟨A1, c1, A2, c2, E, e, h1, h2, ha, hS⟩ := h
    exact ⟨A1, c1, A2, c2, E, e, h1.keep (hk.more (hS 0)), h2.keep (hk.more (hS 1)), ha, hS⟩
  more h hT := by
    obtain ⟨A1, c1, A2, c2, E, e, h1, h2, ha, hS⟩ := h
    exact ⟨A1, c1, A2, c2, E, e, h1, h2, ha, fun i b hb => hT b (hS i b hb)⟩
def ltM : Mk Lt := ⟨fun k x => ⟨x.st, x.ini, mkL txtM (k) x.ls, mkL edM (k + cntL txtM x.ls) x.es⟩, fun x => cntL txtM x.ls + cntL edM x.es⟩
theorem cnt_lt (x : Lt) : ltM.cnt x ≤ 3 * wtLt x := by
  have h1 := cnt_txt x.ls
  have h2 := cnt_ed x.es
  show cntL txtM x.ls + cntL edM x.es ≤ 3 * (wL wtZ x.ls + wL wtZ x.es)
  omega
end Go.Proofs.Ythbnfjedjijacaa
