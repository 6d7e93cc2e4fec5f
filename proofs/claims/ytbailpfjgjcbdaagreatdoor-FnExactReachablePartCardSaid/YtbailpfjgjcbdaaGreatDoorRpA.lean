/- Appends onto rows of the call's own of any kind of element: where the row lies behind it; the four cells of a system in a box of the call's own. -/
import Derived.Test.YtbailpfjgjcbdaaGreatDoorOu
import Derived.Test.YtbailpfjgjcbdaaGreatDoorRpM
namespace Go.Proofs.YtbailpfjgjcbdaaGreatDoor
open Go.RowKit
set_option linter.unusedVariables false
theorem append_whereG {ST T : TypeId} {d : Nat} (hE : ElOK ST T d) {w w' : World} {base n c m : Nat} {v v' : Value} {xs news : List Value} {a : Addr} (ty : TypeId) (hown : w.ownsRow base T d v n xs) (hl : news.length = m * d) (hm : 0 < m) (hnews : ∀ j u, news[j]? = some u → w.cell? (a.add j) = some u) (h1 : ∀ u ∈ news, u.oneCell' = true) (hb : n + m ≤ 1000000)
    (hrun : (Builtin.append_ #[ST, ST] ty #[v, .slice (some a) m c]).run Tryz.prog w = .ok v' w') : ∀ g, v'.ownBlock = some g → v.ownBlock = some g ∨ w.heap.size ≤ g := by
  obtain ⟨ht, i0, z, hi, hz0, hz1, hz2, hzs, hd⟩ := hE
  have hxl := hown.1
  have hby : (n + m) * i0.bytes ≤ 64000000 := Nat.le_trans (Nat.mul_le_mul hb hz2) (by decide)
  have hby2 : m * i0.bytes ≤ 64000000 := Nat.le_trans (Nat.mul_le_mul_right _ (Nat.le_add_left m n)) hby
  rcases hown.2 with ⟨rfl, rfl⟩ | ⟨g, cap, cur, rfl, hbg, hg, hnc, hcm, hcs, htake⟩
  · have hr := run_append_nil (P := Tryz.prog) w ST ty T i0 z ht hi hz0 a m c news (by rw [hz1]; exact hl) hnews hm (by omega) (by omega)
    rw [hr] at hrun
    injection hrun with e1 e2
    subst e1
    intro g hg
    right
    simp [Value.ownBlock] at hg
    omega
  · by_cases hroom : n + m ≤ cap
    · have hr := run_append_room (P := Tryz.prog) w ST ty T i0 ht hi g n cap cur hg a m c news (by rw [hz1]; exact hl) hnews h1 hroom (by rw [hz1, hl, hcs, ← Nat.add_mul]; exact Nat.mul_le_mul_right _ hroom)
      rw [hr] at hrun
      injection hrun with e1 e2
      subst e1
      intro g' hg'
      left
      simpa [Value.ownBlock] using hg'
    · have holds : ∀ j u, xs[j]? = some u → w.cell? ((⟨g, 0, none⟩ : Addr).add j) = some u := hown.cells (g := g) rfl
      have hr := run_append_grow (P := Tryz.prog) w ST ty T i0 z ht hi hz0 ⟨g, 0, none⟩ n cap xs (by rw [hz1]; exact hxl) holds a m c news (by rw [hz1]; exact hl) hnews (by omega) (by omega) (growslice_fits (by omega) (by omega))
      rw [hr] at hrun
      injection hrun with e1 e2
      subst e1
      intro g' hg'
      right
      simp [Value.ownBlock] at hg'
      omega
/-- An append of one element or more; where the row lies behind it is told. -/
theorem wpList_append_put {ST T : TypeId} {d : Nat} (hE : ElOK ST T d) {ops : Array Oper} {rest : List Oper} {o : Oper} {a : Act} {Q : Exit → Act → World → Prop} (hgd : o.guard = none) (s x : Operand)
    (ho : o.op = .call { callee := .builtin .append, args := #[s, x], argTypes := #[ST, ST] })
    (w : World) (base : Nat) (v : Value) (n : Nat) (vs : List Value) (hs : a.eval s = v) (hown : w.ownsRow base T d v n vs)
    (ad : Addr) (m c : Nat) (news : List Value) (hx : a.eval x = .slice (some ad) m c) (hl : news.length = m * d) (hm : 0 < m) (hc : ∀ j u, news[j]? = some u → w.cell? (ad.add j) = some u) (h1 : ∀ u ∈ news, u.oneCell' = true) (hlen : n + m ≤ 1000000) (hbase : base ≤ w.heap.size)
    (h : ∀ A' c' w', w'.ownsRow base T d (.slice A' (n + m) c') (n + m) (vs ++ news) → w.grownBy w' v.ownBlock → (∀ g, (Value.slice A' (n + m) c').ownBlock = some g → v.ownBlock = some g ∨ w.heap.size ≤ g) → wpList Tryz.prog ops Q rest (a.put o.dst (.slice A' (n + m) c')) w') :
    wpList Tryz.prog ops Q (o :: rest) a w := by
  have hE' := hE
  obtain ⟨ht, i0, z, hi, hz0, hz1, hz2, hzs, hd⟩ := hE
  obtain ⟨v', w', hrun, r1, r2, _⟩ := run_append_own (P := Tryz.prog) w base ST o.type T i0 z d i0.bytes ht hi hz0 hz1 rfl hzs hd v n vs hown ad m c news hl hc h1 (by unfold maxLen; omega) (Nat.le_trans (Nat.mul_le_mul hlen hz2) (by decide)) hbase
  have r4 := append_whereG hE' o.type hown hl hm hc h1 hlen hrun
  obtain ⟨A', c', rfl⟩ := own_slice r1
  refine wpList_plain hgd fun K hK => ?_
  unfold Oper.wp
  simp only [execOp, ho, resolve, invoke, builtin, Sem.run_bind, Sem.run_pure, Result.andThen_ok, List.map_toArray, List.map_cons, List.map_nil, hs, hx, hrun]
  exact hK _ _ (h A' c' w' r1 r2 r4)
/-- A box of the call's own that holds a system. -/
def BoxO (W : World) (lo pb : Nat) (vs : List Value) : Prop := W.ownsRow lo 32 1 (.slice (some ⟨pb, 0, none⟩) 4 4) 4 vs
theorem BoxO.new (w : World) (a b c d : Value) : BoxO (w.alloc (.cells #[a, b, c, d] 32)) w.heap.size w.heap.size [a, b, c, d] :=
  World.ownsRow_lit (base := w.heap.size) (e := 32) (size := 1) w #[a, b, c, d] 4 (Nat.le_refl _) (by unfold maxLen; omega) rfl
theorem BoxO.cells {W : World} {lo pb : Nat} {a b c d : Value} (h : BoxO W lo pb [a, b, c, d]) : W.cell? ⟨pb, 0, none⟩ = some a ∧ W.cell? ⟨pb, 1, none⟩ = some b ∧ W.cell? ⟨pb, 2, none⟩ = some c ∧ W.cell? ⟨pb, 3, none⟩ = some d ∧ W.frozen? ⟨pb, 2, none⟩ = false ∧ W.frozen? ⟨pb, 3, none⟩ = false ∧ pb < W.heap.size := by
  have h' : W.ownsRow lo 32 1 (.slice (some ⟨pb, 0, none⟩) 4 4) 4 [a, b, c, d] := h
  exact ⟨by rw [h'.cellAt 0 (by omega)]; rfl, by rw [h'.cellAt 1 (by omega)]; rfl, by rw [h'.cellAt 2 (by omega)]; rfl, by rw [h'.cellAt 3 (by omega)]; rfl, h'.frozenAt 2, h'.frozenAt 3, (h'.lt pb rfl).2⟩
theorem BoxO.below {W W' : World} {lo pb : Nat} {vs : List Value} (h : BoxO W lo pb vs) (hb : Below W.heap.size W W') : BoxO W' lo pb vs := own_below' h hb
theorem BoxO.kept {W W' : World} {lo pb : Nat} {vs : List Value} {row : Option Nat} (h : BoxO W lo pb vs) (hg : W.grownBy W' row) (hr : row ≠ some pb) : BoxO W' lo pb vs := World.ownsRow.kept h hg (.inr (by simp only [Value.ownBlock]; exact fun e => hr e.symm))
theorem BoxO.put2 {W : World} {lo pb : Nat} {a b c d : Value} (h : BoxO W lo pb [a, b, c, d]) (v : Value) : BoxO (W.setCell ⟨pb, 2, none⟩ v) lo pb [a, b, v, d] ∧ W.grownBy (W.setCell ⟨pb, 2, none⟩ v) (some pb) := World.ownsRow.stored h 2 v
theorem BoxO.put3 {W : World} {lo pb : Nat} {a b c d : Value} (h : BoxO W lo pb [a, b, c, d]) (v : Value) : BoxO (W.setCell ⟨pb, 3, none⟩ v) lo pb [a, b, c, v] ∧ W.grownBy (W.setCell ⟨pb, 3, none⟩ v) (some pb) := World.ownsRow.stored h 3 v
/-- A system is handed back in memory of the call's own. -/
def RetLt (y : Lt) (w : World) (e : Ending) (w' : World) : Prop := ∃ cs : List Value, e = .returned (.agg cs.toArray) ∧ ltO.O w' (In w.heap.size w'.heap.size) y cs ∧ Below w.heap.size w w'
theorem flat_ed : Flat edO := fun {_ _ x cs} h => by
  obtain rfl : cs = [Value.int .i64 x.f, Value.int .i64 x.l, Value.int .i64 x.t] := h
  exact ⟨fun _ _ => rfl, fun u hu => by simp at hu; rcases hu with rfl | rfl | rfl <;> rfl⟩
/-- A list of flat elements takes no block but its row's. -/
theorem OL.tight {α : Type} {G : Owd α} {T : TypeId} {w : World} {S : Nat → Prop} {A : Option Addr} {n c : Nat} {xs : List α} (h : OL G T w S A n c xs) (hf : Flat G) : OL G T w (fun b => (Value.slice A n c).ownBlock = some b) A n c xs := by
  obtain ⟨hl, _, vs, E, ho, hR, _, _⟩ := h
  exact ⟨hl, fun g hg => hg, vs, fun _ _ => False, ho, fun j x hx => (hf (G.rd (hR j x hx))).1 _ _, fun _ _ _ h => h.elim, fun _ _ _ _ _ _ h => h.elim⟩
theorem ret_lt {w w' : World} {y : Lt} {A1 A2 : Option Addr} {c1 c2 : Nat} {S1 S2 : Nat → Prop} (h1 : OL txtO 9 w' S1 A1 y.ls.length c1 y.ls) (h2 : OL edO 79 w' S2 A2 y.es.length c2 y.es) (hS1 : ∀ b, S1 b → In w.heap.size w'.heap.size b) (hS2 : ∀ b, S2 b → In w.heap.size w'.heap.size b) (hne : ∀ b, (Value.slice A1 y.ls.length c1).ownBlock = some b → (Value.slice A2 y.es.length c2).ownBlock = some b → False) (hb : Below w.heap.size w w') : RetLt y w (.returned (.agg #[.int .i64 y.st, .int .i64 y.ini, .slice A1 y.ls.length c1, .slice A2 y.es.length c2])) w' := by
  refine ⟨[.int .i64 y.st, .int .i64 y.ini, .slice A1 y.ls.length c1, .slice A2 y.es.length c2], rfl, ⟨A1, c1, A2, c2, fun i b => (i = 0 ∧ (Value.slice A1 y.ls.length c1).ownBlock = some b) ∨ (i = 1 ∧ (Value.slice A2 y.es.length c2).ownBlock = some b), rfl, (h1.tight flat_txt).more (fun b hb => .inl ⟨rfl, hb⟩), (h2.tight flat_ed).more (fun b hb => .inr ⟨rfl, hb⟩), ?_, ?_⟩, hb⟩
  · intro i j b hij hi hj
    rcases hi with ⟨rfl, hi⟩ | ⟨rfl, hi⟩ <;> rcases hj with ⟨rfl, hj⟩ | ⟨rfl, hj⟩
    · exact hij rfl
    · exact hne b hi hj
    · exact hne b hj hi
    · exact hij rfl
  · intro i b hi
    rcases hi with ⟨_, hi⟩ | ⟨_, hi⟩
    · exact hS1 b (h1.top b hi)
    · exact hS2 b (h2.top b hi)
theorem BoxO.new' {w : World} {lo q : Nat} (hq : w.heap.size = q) (hlo : lo ≤ q) (a b c d : Value) : BoxO (w.alloc (.cells #[a, b, c, d] 32)) lo q [a, b, c, d] := by
  subst hq
  exact World.ownsRow_lit (base := lo) (e := 32) (size := 1) w #[a, b, c, d] 4 hlo (by unfold maxLen; omega) rfl
/-- A box with a row of edges that grows. -/
structure KS (lo q : Nat) (a b l : Value) (wr : World) (A : Option Addr) (n c : Nat) (es : List Ed) : Prop where
  box : BoxO wr lo q [a, b, l, .slice A n c]
  row : wr.ownsRow lo 79 3 (.slice A n c) n (edCs es)
  ne : (Value.slice A n c).ownBlock ≠ some q
theorem KS.below {lo q : Nat} {a b l : Value} {wr wr' : World} {A : Option Addr} {n c : Nat} {es : List Ed} (h : KS lo q a b l wr A n c es) (hb : Below wr.heap.size wr wr') : KS lo q a b l wr' A n c es :=
  ⟨h.box.below hb, own_below' h.row hb, h.ne⟩
theorem KS.put {lo q : Nat} {a b l : Value} {wr wr' : World} {A A' : Option Addr} {n c n' c' : Nat} {es es' : List Ed} (h : KS lo q a b l wr A n c es) (hr : wr'.ownsRow lo 79 3 (.slice A' n' c') n' (edCs es')) (hg : wr.grownBy wr' (Value.slice A n c).ownBlock) (hw : ∀ g, (Value.slice A' n' c').ownBlock = some g → (Value.slice A n c).ownBlock = some g ∨ wr.heap.size ≤ g) : KS lo q a b l (wr'.setCell ⟨q, 3, none⟩ (.slice A' n' c')) A' n' c' es' := by
  have hq := h.box.cells.2.2.2.2.2.2
  have hb := (h.box.kept hg h.ne).put3 (.slice A' n' c')
  have hne : (Value.slice A' n' c').ownBlock ≠ some q := fun e => by
    rcases hw q e with h1 | h1
    · exact h.ne h1
    · omega
  exact ⟨hb.1, World.ownsRow.kept hr hb.2 (.inr hne), hne⟩
/-- Another row through such a step. -/
theorem KS.other {lo q : Nat} {a b l : Value} {wr wr' : World} {A : Option Addr} {n c : Nat} {es : List Ed} (h : KS lo q a b l wr A n c es) (hg : wr.grownBy wr' (Value.slice A n c).ownBlock) {lo2 s m : Nat} {T : TypeId} {v v2 : Value} {vs : List Value} (ho : wr.ownsRow lo2 T s v m vs) (h1 : ∀ g, v.ownBlock = some g → (Value.slice A n c).ownBlock = some g → False) (h2 : v.ownBlock ≠ some q) : (wr'.setCell ⟨q, 3, none⟩ v2).ownsRow lo2 T s v m vs := by
  have hb := (h.box.kept hg h.ne).put3 v2
  have hne : v.ownBlock = none ∨ v.ownBlock ≠ (Value.slice A n c).ownBlock := by
    rcases e : v.ownBlock with _ | g
    · exact .inl rfl
    · exact .inr (fun e2 => h1 g e e2.symm)
  exact World.ownsRow.kept (World.ownsRow.kept ho hg hne) hb.2 (.inr h2)
theorem cells_ed (W : World) (e : Ed) (T : TypeId) {q : Nat} (hq : W.heap.size = q) : ∀ j u, (edC e)[j]? = some u → (W.alloc (.cells #[.int .i64 e.f, .int .i64 e.l, .int .i64 e.t] T)).cell? ((⟨q, 0, none⟩ : Addr).add j) = some u := by
  subst hq
  intro j u hj
  match j, hj with
  | 0, hj => injection hj with hj; subst hj; simp [go_sem, Addr.add]
  | 1, hj => injection hj with hj; subst hj; simp [go_sem, Addr.add]
  | 2, hj => injection hj with hj; subst hj; simp [go_sem, Addr.add]
theorem BoxO.fr {W : World} {lo pb : Nat} {a b c d : Value} (h : BoxO W lo pb [a, b, c, d]) : W.frozen? ⟨pb, 0, none⟩ = false ∧ W.frozen? ⟨pb, 1, none⟩ = false := by
  have h' : W.ownsRow lo 32 1 (.slice (some ⟨pb, 0, none⟩) 4 4) 4 [a, b, c, d] := h
  exact ⟨h'.frozenAt 0, h'.frozenAt 1⟩
theorem BoxO.fill {W : World} {lo pb : Nat} {a b c d : Value} (h : BoxO W lo pb [a, b, c, d]) (a' b' c' d' : Value) : BoxO ((((W.setCell ⟨pb, 0, none⟩ a').setCell ⟨pb, 1, none⟩ b').setCell ⟨pb, 2, none⟩ c').setCell ⟨pb, 3, none⟩ d') lo pb [a', b', c', d'] ∧ W.grownBy ((((W.setCell ⟨pb, 0, none⟩ a').setCell ⟨pb, 1, none⟩ b').setCell ⟨pb, 2, none⟩ c').setCell ⟨pb, 3, none⟩ d') (some pb) := by
  have h0 : W.ownsRow lo 32 1 (.slice (some ⟨pb, 0, none⟩) 4 4) 4 [a, b, c, d] := h
  have h1 := World.ownsRow.stored h0 0 a'
  have h2 := World.ownsRow.stored h1.1 1 b'
  have h3 := World.ownsRow.stored h2.1 2 c'
  have h4 := World.ownsRow.stored h3.1 3 d'
  exact ⟨h4.1, grown_trans (grown_trans (grown_trans h1.2 h2.2) h3.2) h4.2⟩
/-- A list, then a system, in memory of the call's own, and a code. -/
def RetRp (y : Lt) (zs : List Int) (code : Int) (w : World) (e : Ending) (w' : World) : Prop := ∃ (cs : List Value) (A : Option Addr) (c mid : Nat), e = .returned (.tuple #[.agg cs.toArray, .slice A zs.length c, .int .i64 code]) ∧ w.heap.size ≤ mid ∧ mid ≤ w'.heap.size ∧ OL intO 2 w' (In w.heap.size mid) A zs.length c zs ∧ ltO.O w' (In mid w'.heap.size) y cs ∧ Below w.heap.size w w'
theorem sameB_grown {W W' : World} {pb : Nat} {S : Nat → Prop} (hg : W.grownBy W' (some pb)) (hS : ¬ S pb) : SameB S W W' := fun b hb hlt => hg.block b hlt (fun e => by injection e with e; subst e; exact hS hb)
theorem ltO_zero {w : World} {S : Nat → Prop} : ltO.O w S ltZ [.int .i64 0, .int .i64 0, .slice none 0 0, .slice none 0 0] :=
  ⟨none, 0, none, 0, fun _ _ => False, rfl, OL.nil, OL.nil, fun _ _ _ _ h => h.elim, fun _ _ h => h.elim⟩
end Go.Proofs.YtbailpfjgjcbdaaGreatDoor
