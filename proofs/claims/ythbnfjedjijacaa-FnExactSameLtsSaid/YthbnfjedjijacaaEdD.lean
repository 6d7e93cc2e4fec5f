/- Edges as records. -/
import Derived.Test.YthbnfjedjijacaaApD
namespace Go.Proofs.Ythbnfjedjijacaa
open Go.RowKit
structure Ed where
  f : Int
  l : Int
  t : Int
instance : Inhabited Ed := ⟨⟨0, 0, 0⟩⟩
def edR : Rec Ed where
  R _ _ x vs := vs = [.int .i64 x.f, .int .i64 x.l, .int .i64 x.t]
  width := 3
  pos := by decide
  len h := by rw [h]; rfl
  keep h _ := h
  more h _ := h
def edO : Owd Ed where
  F := edR
  O w S x vs := edR.R w S x vs
  rd h := h
  keep h _ := h
  more h _ := h
def edM : Mk Ed := ⟨fun k _ => ⟨k, k + 1, k + 1 + 1⟩, fun _ => 3⟩
theorem cnt_ed (xs : List Ed) : cntL edM xs ≤ 3 * wL wtZ xs := cntL_le (a := 3) (fun _ => by show 3 ≤ 3 + _; omega) (by decide) xs
end Go.Proofs.Ythbnfjedjijacaa
