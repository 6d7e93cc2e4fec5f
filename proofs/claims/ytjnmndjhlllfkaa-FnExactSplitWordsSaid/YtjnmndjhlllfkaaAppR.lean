/- Appends of elements of any type onto a row of the call's own. -/
import Derived.Test.YtjnmndjhlllfkaaProg
import Derived.WalkKit
import Derived.ProofKit
import Derived.OwnWalk
import Derived.WalkSpells
import Derived.Lib.Hide
import Derived.Test.YtjnmndjhlllfkaaOwnR
import Derived.Test.YtjnmndjhlllfkaaRet
namespace Go.Proofs.Ytjnmndjhlllfkaa
open Go.RowKit
/-- What the program says of a type of slices and of their elements. -/
def ElOK (ST T : TypeId) (d : Nat) : Prop := Try.prog.underlying ST = some (.slice T) ∧ ∃ (i0 : TypeInfo) (z : Value), Try.prog.info? T = some i0 ∧ i0.zero = some z ∧ i0.size = d ∧ i0.bytes ≤ 64 ∧ z.cells.size = d ∧ 0 < d
theorem el_ok {ST T : TypeId} {d b : Nat} {z : Value} (ht : Try.prog.underlying ST = some (.slice T)) (hi : (Try.prog.info? T).map (fun i => (i.zero, i.size, i.bytes)) = some (some z, d, b)) (hb : b ≤ 64) (hz : z.cells.size = d) (hd : 0 < d) : ElOK ST T d := by
  obtain ⟨i0, h0, h1, h2, h3⟩ := info_parts hi
  exact ⟨ht, i0, z, h0, h1, h2, by omega, hz, hd⟩
theorem el_str : ElOK 22 9 1 := el_ok Try.underlying22 (show _ = some (some (.string ByteArray.empty), 1, 16) by kernel_rfl) (by decide) rfl (by decide)
theorem run_appR_nil {P : Program} (w : World) (base : Nat) (t ty e : TypeId) (i : TypeInfo) (size : Nat) (ht : P.underlying t = some (.slice e)) (hi : P.info? e = some i) (v : Value) (n c : Nat) (xs : List Value) (hown : w.ownsRow base e size v n xs) :
    (Builtin.append_ #[t, t] ty #[v, .slice none 0 c]).run P w = .ok v w := by
  rcases hown.2 with ⟨rfl, rfl⟩ | ⟨g, cap, cur, rfl, _, _, hnc, _⟩
  · simp [Builtin.append_, run_underlying ht, sizeOf, typeInfo, hi, Builtin.lenOf, Builtin.firstCells]
  · simp [Builtin.append_, run_underlying ht, sizeOf, typeInfo, hi, Builtin.lenOf, Builtin.firstCells, hnc, storeCells]
set_option maxRecDepth 100000 in
/-- An append of elements onto a row of the call's own; the source may be nil. -/
theorem wpList_append_vs {ST T : TypeId} {d : Nat} (hE : ElOK ST T d) {ops : Array Oper} {rest : List Oper} {o : Oper} {a : Act} {Q : Exit → Act → World → Prop} (hgd : o.guard = none) (s x : Operand)
    (ho : o.op = .call { callee := .builtin .append, args := #[s, x], argTypes := #[ST, ST] })
    (w : World) (base : Nat) (v : Value) (n : Nat) (vs : List Value) (hs : a.eval s = v) (hown : w.ownsRow base T d v n vs)
    (S : Nat → Prop) (A : Option Addr) (m c : Nat) (news : List Value) (hx : a.eval x = .slice A m c) (hr : SRow w S A news) (hl : news.length = m * d) (h1 : ∀ u ∈ news, u.oneCell' = true) (hlen : n + m ≤ 8000000) (hbase : base ≤ w.heap.size)
    (h : ∀ A' c' w', w'.ownsRow base T d (.slice A' (n + m) c') (n + m) (vs ++ news) → w.grownBy w' v.ownBlock → wpList Try.prog ops Q rest (a.put o.dst (.slice A' (n + m) c')) w') :
    wpList Try.prog ops Q (o :: rest) a w := by
  obtain ⟨ht, i0, z, hi, hz0, hz1, hz2, hzs, hd⟩ := hE
  rcases A with _ | ad
  · have hnl : news = [] := by
      rcases Nat.eq_zero_or_pos news.length with h0 | h0
      · exact List.eq_nil_of_length_eq_zero h0
      · obtain ⟨b, off, e, _⟩ := hr h0
        cases e
    subst hnl
    have hm : m = 0 := by
      have : m * d = 0 := by simpa using hl.symm
      rcases Nat.mul_eq_zero.1 this with h | h
      · exact h
      · omega
    subst hm
    rw [List.append_nil] at h
    obtain ⟨A', c', rfl⟩ := own_slice hown
    have hrun := run_appR_nil (P := Try.prog) w base ST o.type T i0 d ht hi (.slice A' n c') n c vs hown
    have h2 := h A' c' w (by simpa using hown) (World.grownBy.refl _ _)
    refine wpList_plain hgd fun K hK => ?_
    unfold Oper.wp
    simp only [execOp, ho, resolve, invoke, builtin, Sem.run_bind, Sem.run_pure, Result.andThen_ok, List.map_toArray, List.map_cons, List.map_nil, hs, hx, hrun]
    exact hK _ _ (by simpa using h2)
  · refine wpList_append_own w hgd s x ST ho base T i0 z d i0.bytes ht hi hz0 hz1 rfl hzs hd v n vs hs hown ad m c news hx hl ?_ h1 (by unfold maxLen; omega) ?_ hbase ?_
    · intro j u hj
      have hp : 0 < news.length := by have := (List.getElem?_eq_some_iff.1 hj).1; omega
      obtain ⟨b, off, e, _, hc⟩ := hr hp
      injection e with e
      subst e
      rw [addLit]
      exact hc j u hj
    · exact Nat.le_trans (Nat.mul_le_mul hlen hz2) (by decide)
    · intro v' w' ho' hg _
      obtain ⟨A', c', rfl⟩ := own_slice ho'
      exact h A' c' w' ho' hg
/-- A kind of record whose cells say all, whatever the world. -/
def Flat {α : Type} (G : Owd α) : Prop := ∀ {w S x cs}, G.F.R w S x cs → (∀ w' S', G.O w' S' x cs) ∧ ∀ u ∈ cs, u.oneCell' = true
theorem flat_int : Flat intO := fun {_ _ x cs} h => by
  obtain rfl : cs = [Value.int .i64 x] := h
  exact ⟨fun _ _ => rfl, fun u hu => by simp at hu; subst hu; rfl⟩
theorem flat_txt : Flat txtO := fun {_ _ x cs} h => by
  obtain ⟨rfl, hz⟩ : cs = [Value.string x] ∧ x.size ≤ maxLen := h
  exact ⟨fun _ _ => ⟨rfl, hz⟩, fun u hu => by simp at hu; subst hu; rfl⟩
theorem flat_tm : Flat tmO := fun {_ _ x cs} h => by
  obtain rfl : cs = [Value.int .i64 x.k, Value.int .i64 x.v] := h
  exact ⟨fun _ _ => rfl, fun u hu => by simp at hu; rcases hu with rfl | rfl <;> rfl⟩
theorem flat_mt : Flat mtO := fun {_ _ x cs} h => by
  obtain ⟨rfl, hz⟩ : cs = [Value.string x.l, Value.string x.r, Value.string x.s] ∧ x.l.size ≤ maxLen ∧ x.r.size ≤ maxLen ∧ x.s.size ≤ maxLen := h
  exact ⟨fun _ _ => ⟨rfl, hz⟩, fun u hu => by simp at hu; rcases hu with rfl | rfl | rfl <;> rfl⟩
/-- The cells of a list of flat records. -/
theorem LRow.flat {α : Type} {G : Owd α} (hf : Flat G) {w : World} {S : Nat → Prop} {A : Option Addr} {xs : List α} (h : LRow G.F w S A xs) :
    ∃ vs, SRow w S A vs ∧ vs.length = xs.length * G.F.width ∧ (∀ u ∈ vs, u.oneCell' = true) ∧ ∀ (w' : World) (lo n c : Nat) (T : TypeId) (A' : Option Addr), xs.length = n → w'.ownsRow lo T G.F.width (.slice A' n c) n vs → OL G T w' (In lo w'.heap.size) A' n c xs := by
  obtain ⟨vs, h1, h2, h3⟩ := h
  refine ⟨vs, h1, h2, fun u hu => ?_, fun w' lo n c T A' hl ho => ⟨hl, fun g hg => ho.lt g hg, vs, fun _ _ => False, own_low ho (Nat.zero_le _), fun j x hx => (hf (h3 j x hx)).1 _ _, fun _ _ _ h => h.elim, fun _ _ _ _ _ _ h => h.elim⟩⟩
  obtain ⟨i, hi⟩ := List.getElem?_of_mem hu
  have hil := (List.getElem?_eq_some_iff.1 hi).1
  have hw := G.F.pos
  have hk : i / G.F.width < xs.length := Nat.div_lt_of_lt_mul (by rw [Nat.mul_comm, ← h2]; exact hil)
  have e : i / G.F.width * G.F.width + i % G.F.width = i := Nat.div_add_mod' i G.F.width
  refine (hf (h3 _ _ (List.getElem?_eq_getElem hk))).2 u (List.mem_of_getElem? (i := i % G.F.width) ?_)
  rw [List.getElem?_take, if_pos (Nat.mod_lt _ hw), List.getElem?_drop, e]
  exact hi
/-- A copy of a list of the call's own. -/
def CopyL {α : Type} (G : Owd α) (T : TypeId) (xs : List α) (w : World) (e : Ending) (w' : World) : Prop := ∃ A c, e = .returned (.slice A xs.length c) ∧ OL G T w' (In w.heap.size w'.heap.size) A xs.length c xs ∧ Below w.heap.size w w'
/- COPIES -/
end Go.Proofs.Ytjnmndjhlllfkaa
