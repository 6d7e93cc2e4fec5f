/- A strings.Builder of the call's own: what it holds, in any later world. -/
import Derived.Shelf.Strings.BuilderK
import Derived.Test.YthbnfjedjijacaaGreatDoorLxJ
namespace Go.Proofs
open Go.Shelf
def Tryz.laysWS_ren : Go.Shelf.Ren := ⟨fun | 166 => 38 | 240 => 76 | 276 => 100 | n => n, fun | 0 => 0 | 3 => 3 | 4 => 4 | 9 => 9 | 20 => 20 | 37 => 56 | 70 => 55 | 72 => 58 | 75 => 60 | 164 => 122 | 5 => 5 | 80 => 68 | n => n, fun n => n⟩
theorem Tryz.laysWS : Lays.n166 Tryz.prog Tryz.laysWS_ren where
  mixed := by kernel_rfl
  f166 := Tryz.func38.trans (congrArg some (by kernel_rfl))
  f240 := Tryz.func76.trans (congrArg some (by kernel_rfl))
  f276 := Tryz.func100.trans (congrArg some (by kernel_rfl))
  t0 := Tryz.underlying0
  a0 := Tryz.isAgg0
  z0 := Tryz.sizeOf0
  v0 := Tryz.zeroValue0
  t3 := Tryz.underlying3
  a3 := Tryz.isAgg3
  z3 := Tryz.sizeOf3
  v3 := Tryz.zeroValue3
  t4 := Tryz.underlying4
  a4 := Tryz.isAgg4
  z4 := Tryz.sizeOf4
  v4 := Tryz.zeroValue4
  t9 := Tryz.underlying9
  a9 := Tryz.isAgg9
  z9 := Tryz.sizeOf9
  v9 := Tryz.zeroValue9
  t20 := Tryz.underlying20
  a20 := Tryz.isAgg20
  z20 := Tryz.sizeOf20
  v20 := Tryz.zeroValue20
  t37 := Tryz.underlying56
  a37 := Tryz.isAgg56
  z37 := Tryz.sizeOf56
  v37 := Tryz.zeroValue56
  t70 := Tryz.underlying55
  a70 := Tryz.isAgg55
  z70 := Tryz.sizeOf55
  v70 := Tryz.zeroValue55
  t72 := Tryz.underlying58
  a72 := Tryz.isAgg58
  z72 := Tryz.sizeOf58
  v72 := Tryz.zeroValue58
  t75 := Tryz.underlying60
  a75 := Tryz.isAgg60
  z75 := Tryz.sizeOf60
  v75 := Tryz.zeroValue60
  t164 := Tryz.underlying122
  a164 := Tryz.isAgg122
  z164 := Tryz.sizeOf122
  v164 := Tryz.zeroValue122
shelf_lay Lays.n169 Nm 169 at Tryz as Tryz.laysBS
theorem Tryz.Builder_Extra_166 : Builder.Extra Tryz.prog Tryz.laysWS_ren where
  sizeBuilder := by kernel_rfl
  liesBuilder := by kernel_rfl
  t5 := Tryz.underlying5
  a5 := Tryz.isAgg5
  z5 := Tryz.sizeOf5
  v5 := Tryz.zeroValue5
  infoByte := by kernel_rfl
  cellsByte := by kernel_rfl
  sizeByte := by kernel_rfl
  neB5 := by decide
theorem Tryz.Builder_Extra_169 : Builder.Extra Tryz.prog Tryz.laysBS_ren where
  sizeBuilder := by kernel_rfl
  liesBuilder := by kernel_rfl
  t5 := Tryz.underlying5
  a5 := Tryz.isAgg5
  z5 := Tryz.sizeOf5
  v5 := Tryz.zeroValue5
  infoByte := by kernel_rfl
  cellsByte := by kernel_rfl
  sizeByte := by kernel_rfl
  neB5 := by decide
end Go.Proofs
namespace Go.Proofs.YthbnfjedjijacaaGreatDoor
open Go.RowKit Go.Lib
def Bd (B b : Nat) (l : List UInt8) (W : World) : Prop := Lib.IsBuilderF 58 5 B b (Lib.byteCells l) W
/-- Every block but the builder's and the rows of bytes stands as it stood. -/
def Kept (b : Nat) (W W' : World) : Prop := Lib.OthersKept 5 (some b) W W'
theorem Bd.new (w : World) : Bd w.heap.size w.heap.size [] (w.alloc (.cells #[.pointer none, .slice none 0 0] 58)) :=
  Lib.IsBuilderF.of (Lib.fresh_isBuilder _ _ w)
theorem bd_keep {T e : TypeId} {B b : Nat} {p : Value} {bs : List Value} {W W' : World} (h : Lib.BuilderAtF T e B b p bs W) (hb : ∀ (k : Nat) (o : Obj), W.heap[k]? = some o → W'.heap[k]? = some o) : Lib.BuilderAtF T e B b p bs W' := by
  obtain ⟨h1, v, h2, ⟨h3, h4⟩, h5⟩ := h
  refine ⟨h1, v, hb _ _ h2, ⟨h3, ?_⟩, h5⟩
  rcases h4 with h4 | ⟨g, cap, cur, fz, e1, e2, e3, e4⟩
  · exact .inl h4
  · exact .inr ⟨g, cap, cur, fz, e1, e2, hb _ _ e3, e4⟩
theorem keeps_below {W W' : World} (hb : Below W.heap.size W W') : ∀ (k : Nat) (o : Obj), W.heap[k]? = some o → W'.heap[k]? = some o := fun k o h => by
  have hk : k < W.heap.size := (Array.getElem?_eq_some_iff.1 h).1
  rw [hb.block k hk]; exact h
theorem Bd.below {B b : Nat} {l : List UInt8} {W W' : World} (h : Bd B b l W) (hb : Below W.heap.size W W') : Bd B b l W' :=
  h.elim (fun a => .inl (bd_keep a (keeps_below hb))) (fun a => .inr (bd_keep a (keeps_below hb)))
set_option maxRecDepth 100000 in
theorem write_any (B b : Nat) (l s : List UInt8) (W : World) (h : Bd B b l W) (hl : l.length + s.length ≤ 140737488355328) (hB : B ≤ W.heap.size) :
    Calls Tryz.prog 38 #[.pointer (some ⟨b, 0, none⟩), .string ⟨s.toArray⟩] W fun e w' => e = .returned (.tuple #[.int .i64 (s.length : Nat), .nilIface]) ∧ Bd B b (l ++ s) w' ∧ Below B W w' ∧ Kept b W w' := by
  have e1 : (⟨s.toArray⟩ : ByteArray).size = s.length := by simp [ByteArray.size]
  have e2 : Lib.byteCells l ++ Lib.strCells ⟨s.toArray⟩ = Lib.byteCells (l ++ s) := by rw [Lib.strCells_eq]; simp [Lib.byteCells]
  have H := Any.Builder_WriteString_k Tryz.laysWS Tryz.Builder_Extra_166 B b (Lib.byteCells l) ⟨s.toArray⟩ W h (by rw [Lib.byteCells_length, e1]; exact hl) hB
  rw [e2, e1] at H
  exact H.mono fun _ _ ⟨he, hb, hw, hk⟩ => ⟨he, .inr hb, hw, hk⟩
set_option maxRecDepth 100000 in
theorem text_any (B b : Nat) (l : List UInt8) (W : World) (h : Bd B b l W) (hB : B ≤ W.heap.size) :
    Calls Tryz.prog 44 #[.pointer (some ⟨b, 0, none⟩)] W fun e w' => e = .returned (.string ⟨l.toArray⟩) ∧ Below B W w' :=
  (Any.Builder_String_any_k Tryz.laysBS Tryz.Builder_Extra_169 B b l W h hB).mono fun _ _ ⟨he, _, hw, _⟩ => ⟨he, hw⟩
/-- A row whose block stands as it stood. -/
theorem Row.stands {w w' : World} {B : Nat} {A : Option Addr} {vs : List Value} (h : Row w B A vs) (hk : ∀ b o, A = some ⟨b, o, none⟩ → w'.heap[b]? = w.heap[b]?) (hB : B ≤ w'.heap.size) : Row w' w'.heap.size A vs := by
  intro hp
  obtain ⟨b, off, e, hb, hc⟩ := h hp
  refine ⟨b, off, e, by omega, fun i v hi => ?_⟩
  rw [← hc i v hi]
  exact World.cell?_of_block (hk b off e)
end Go.Proofs.YthbnfjedjijacaaGreatDoor
