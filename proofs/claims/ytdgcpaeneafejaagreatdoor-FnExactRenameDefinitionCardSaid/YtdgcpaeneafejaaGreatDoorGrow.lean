/- Lists of records that grow by append, their memory their own. -/
import Derived.Maps.AppendAt
import Derived.Deep.RegionLaw
import Derived.Test.YtdgcpaeneafejaaGreatDoorAppR
namespace Go.Proofs.YtdgcpaeneafejaaGreatDoor
open Go.RowKit
/-- The value v is a slice of the call's own, from block lo on, that reads as xs, its elements apart from one another and from its row. -/
def GrowO {α : Type} (G : Owd α) (T : TypeId) (w : World) (lo : Nat) (v : Value) (n : Nat) (xs : List α) : Prop :=
  xs.length = n ∧ ∃ (vs : List Value) (E : Nat → Nat → Prop), w.ownsRow lo T G.F.width v n vs ∧ (∀ j x, xs[j]? = some x → G.O w (E j) x ((vs.drop (j * G.F.width)).take G.F.width)) ∧
    (∀ j b, j < n → E j b → lo ≤ b ∧ b < w.heap.size ∧ v.ownBlock ≠ some b) ∧ ∀ i j b, i < n → j < n → i ≠ j → E i b → ¬ E j b
theorem GrowO.made {α : Type} (G : Owd α) (T : TypeId) (w : World) (lo : Nat) (h : lo ≤ w.heap.size) : GrowO G T (w.alloc (.cells #[] T)) lo (.slice (some ⟨w.heap.size, 0, none⟩) 0 0) 0 [] :=
  ⟨rfl, [], fun _ _ => False, World.ownsRow_made w #[] 0 h (Nat.zero_le _) (by simp), fun j x h => by simp at h, fun j b h => by omega, fun i j b h => by omega⟩
theorem GrowO.nil {α : Type} (G : Owd α) (T : TypeId) (w : World) (lo : Nat) : GrowO G T w lo (.slice none 0 0) 0 [] :=
  ⟨rfl, [], fun _ _ => False, World.ownsRow_nil _ _ _ _, fun j x h => by simp at h, fun j b h => by omega, fun i j b h => by omega⟩
theorem GrowO.nb {α : Type} {G : Owd α} {T : TypeId} {w w' : World} {lo : Nat} {v : Value} {n : Nat} {xs : List α} (h : GrowO G T w lo v n xs) (hb : Below w.heap.size w w') : GrowO G T w' lo v n xs := by
  obtain ⟨hl, vs, E, h1, h2, h3, h4⟩ := h
  exact ⟨hl, vs, E, own_below' h1 hb, fun j x hx => G.keep (h2 j x hx) (SameB.of_below hb), fun j b hj hE => by have := h3 j b hj hE; exact ⟨this.1, Nat.lt_of_lt_of_le this.2.1 hb.size, this.2.2⟩, h4⟩
theorem GrowO.ol {α : Type} {G : Owd α} {T : TypeId} {w : World} {lo : Nat} {A : Option Addr} {n c : Nat} {xs : List α} (h : GrowO G T w lo (.slice A n c) n xs) : OL G T w (In lo w.heap.size) A n c xs := by
  obtain ⟨hl, vs, E, h1, h2, h3, h4⟩ := h
  exact ⟨hl, fun g hg => h1.lt g hg, vs, E, own_low h1 (Nat.zero_le _), h2, fun j b hj hE => by have := h3 j b hj hE; exact ⟨⟨this.1, this.2.1⟩, this.2.2⟩, h4⟩
theorem GrowO.form {α : Type} {G : Owd α} {T : TypeId} {w : World} {lo : Nat} {v : Value} {n : Nat} {xs : List α} (h : GrowO G T w lo v n xs) : ∃ A c, v = .slice A n c := by
  obtain ⟨_, vs, E, h1, _⟩ := h
  exact own_slice h1
set_option maxRecDepth 100000 in
/-- An append of one record that lies in a new block: its run. -/
theorem run_append_new {α : Type} {G : Owd α} {ST T : TypeId} (hE : ElOK ST T G.F.width) (ty : TypeId)
    (w1 w2 : World) (lo : Nat) (v : Value) (n : Nat) (xs : List α) (x0 : α) (cs : List Value) (hG : GrowO G T w1 lo v n xs)
    (hb : Below w1.heap.size w1 w2) (hO : G.O w2 (In w1.heap.size w2.heap.size) x0 cs) (h1 : ∀ u ∈ cs, u.oneCell' = true) (hn : n + 1 ≤ 2000000) (hlo : lo ≤ w1.heap.size) :
    ∃ A' c' w', (Builtin.append_ #[ST, ST] ty #[v, .slice (some ⟨w2.heap.size, 0, none⟩) 1 1]).run Tryz.prog (w2.alloc (.cells cs.toArray T)) = .ok (.slice A' (n + 1) c') w' ∧ GrowO G T w' lo (.slice A' (n + 1) c') (n + 1) (xs ++ [x0]) ∧ Below lo w2 w' ∧ w2.heap.size ≤ w'.heap.size ∧ ∀ b o, b < w1.heap.size → v.ownBlock ≠ some b → w'.cell? ⟨b, o, none⟩ = w2.cell? ⟨b, o, none⟩ := by
  obtain ⟨ht, i0, z, hi, hz0, hz1, hz2, hzs, hd⟩ := hE
  have hcl := G.F.len (G.rd hO)
  have hsz := hb.size
  obtain ⟨hl, vs, E, g1, g2, g3, g4⟩ := hG
  have hba : Below w2.heap.size w2 (w2.alloc (.cells cs.toArray T)) := (Below.refl _ _).alloc (Nat.le_refl _) _
  have g1' := own_below' (own_below' g1 hb) hba
  obtain ⟨v', w', hrun, ho', hg, _, hat⟩ := run_append_own_at (P := Tryz.prog) (w2.alloc (.cells cs.toArray T)) lo ST ty T i0 z G.F.width i0.bytes ht hi hz0 hz1 rfl hzs hd v n vs g1' ⟨w2.heap.size, 0, none⟩ 1 1 cs (by rw [hcl, Nat.one_mul]) (fun j u hj => by
    rw [addLit, Nat.zero_add, cell_of_row _ _ j _ _ (0, 0) (heap_alloc_new w2 _)]
    simpa using hj) h1 (by unfold maxLen; omega) (Nat.le_trans (Nat.mul_le_mul hn hz2) (by decide)) (by simp; omega)
  obtain ⟨A', c', rfl⟩ := own_slice ho'
  have hvb : ∀ b, v.ownBlock = some b → b < w1.heap.size := fun b e => (g1.lt b e).2
  have hvl := g1.1
  have hs' := hg.size
  simp at hs'
  have hsame : ∀ S : Nat → Prop, (∀ b, S b → b < w2.heap.size ∧ v.ownBlock ≠ some b) → SameB S w2 w' := fun S hS b hb2 hlt => by
    rw [hg.block b (by simp; omega) (fun e => (hS b hb2).2 e.symm)]
    exact hba.block b hlt
  have hnew : ∀ b, b < w2.heap.size → v.ownBlock ≠ some b → (Value.slice A' (n + 1) c').ownBlock ≠ some b := fun b hlt hne e => by
    rcases hat with e2 | e2
    · exact hne (e2.symm.trans e)
    · rw [e2] at e
      simp at e
      omega
  refine ⟨A', c', w', hrun, ⟨by simp [hl], vs ++ cs, fun j => if j = n then In w1.heap.size w2.heap.size else E j, ho', fun j y hy => ?_, fun j b hj hE => ?_, fun i j b hi' hj hne hE hE2 => ?_⟩, ?_, by omega, fun b o hlt hne => ?_⟩
  · by_cases e : j = n
    · subst e
      rw [List.getElem?_append_right (by omega), hl, Nat.sub_self] at hy
      obtain rfl : x0 = y := by simpa using hy
      rw [← hvl, List.drop_left, List.take_of_length_le (by omega)]
      simp only [if_true]
      exact G.keep hO (hsame _ fun b hb2 => ⟨hb2.2, fun e => by have := hvb b e; have := hb2.1; omega⟩)
    · have hj : j < n := by have := (List.getElem?_eq_some_iff.1 hy).1; simp [hl] at this; omega
      rw [List.getElem?_append_left (by omega)] at hy
      have hle : (j + 1) * G.F.width ≤ n * G.F.width := Nat.mul_le_mul_right _ hj
      rw [Nat.succ_mul] at hle
      rw [List.drop_append_of_le_length (by omega), List.take_append_of_le_length (by rw [List.length_drop]; omega)]
      simp only [if_neg e]
      exact G.keep (G.keep (g2 j y hy) (SameB.of_below hb)) (hsame _ fun b hb2 => by have := g3 j b hj hb2; exact ⟨by omega, this.2.2⟩)
  · by_cases e : j = n
    · simp only [if_pos e] at hE
      exact ⟨by have := hE.1; omega, by have := hE.2; omega, hnew b hE.2 fun e => by have := hvb b e; have := hE.1; omega⟩
    · simp only [if_neg e] at hE
      have := g3 j b (by omega) hE
      exact ⟨this.1, by omega, hnew b (by omega) this.2.2⟩
  · by_cases ei : i = n
    · simp only [if_pos ei] at hE
      by_cases ej : j = n
      · omega
      · simp only [if_neg ej] at hE2
        have := g3 j b (by omega) hE2
        have := hE.1
        omega
    · simp only [if_neg ei] at hE
      by_cases ej : j = n
      · simp only [if_pos ej] at hE2
        have := g3 i b (by omega) hE
        have := hE2.1
        omega
      · simp only [if_neg ej] at hE2
        exact g4 i j b (by omega) (by omega) hne hE hE2
  · exact (hba.mono (by omega)).grown hg (by simp; omega) fun g e => (g1.lt g e).1
  · have hb2 := hg.block b (by simp; omega) (fun e => hne e.symm)
    have e1 : w'.cell? ⟨b, o, none⟩ = (w2.alloc (.cells cs.toArray T)).cell? ⟨b, o, none⟩ := World.cell?_of_block hb2
    rw [e1]
    exact hba.cell (p := ⟨b, o, none⟩) (by show b < w2.heap.size; omega)
/-- An append of one record that lies in a new block. -/
theorem wpList_append_new {α : Type} {G : Owd α} {ST T : TypeId} (hE : ElOK ST T G.F.width) {ops : Array Oper} {rest : List Oper} {o : Oper} {a : Act} {Q : Exit → Act → World → Prop} (hgd : o.guard = none) (s x : Operand)
    (ho : o.op = .call { callee := .builtin .append, args := #[s, x], argTypes := #[ST, ST] })
    (w1 w2 : World) (lo : Nat) (v : Value) (n : Nat) (xs : List α) (x0 : α) (cs : List Value) (hs : a.eval s = v) (hG : GrowO G T w1 lo v n xs) (hx : a.eval x = .slice (some ⟨w2.heap.size, 0, none⟩) 1 1)
    (hb : Below w1.heap.size w1 w2) (hO : G.O w2 (In w1.heap.size w2.heap.size) x0 cs) (h1 : ∀ u ∈ cs, u.oneCell' = true) (hn : n + 1 ≤ 2000000) (hlo : lo ≤ w1.heap.size)
    (h : ∀ A' c' w', GrowO G T w' lo (.slice A' (n + 1) c') (n + 1) (xs ++ [x0]) → Below lo w2 w' → w2.heap.size ≤ w'.heap.size → (∀ b o, b < w1.heap.size → v.ownBlock ≠ some b → w'.cell? ⟨b, o, none⟩ = w2.cell? ⟨b, o, none⟩) → wpList Tryz.prog ops Q rest (a.put o.dst (.slice A' (n + 1) c')) w') :
    wpList Tryz.prog ops Q (o :: rest) a (w2.alloc (.cells cs.toArray T)) := by
  obtain ⟨A', c', w', hrun, r1, r2, r3, r4⟩ := run_append_new hE o.type w1 w2 lo v n xs x0 cs hG hb hO h1 hn hlo
  refine wpList_plain hgd fun K hK => ?_
  unfold Oper.wp execOp
  simp only [ho, resolve, invoke, builtin, Sem.run_bind, Sem.run_pure, Result.andThen_ok, List.map_toArray, List.map_cons, List.map_nil, hs, hx, hrun]
  exact hK _ _ (h A' c' w' r1 r2 r3 r4)
/-- The same as one step of a region that draws its order. -/
theorem step_append_new {α : Type} {G : Owd α} {ST T : TypeId} (hE : ElOK ST T G.F.width) {ops : Array Oper} {o : Oper} {a : Act} {K : Act → World → Prop} {Q : Exit → Act → World → Prop} {E : Prop} (hgd : o.guard = none) (s x : Operand)
    (ho : o.op = .call { callee := .builtin .append, args := #[s, x], argTypes := #[ST, ST] })
    (w1 w2 : World) (lo : Nat) (v : Value) (n : Nat) (xs : List α) (x0 : α) (cs : List Value) (hs : a.eval s = v) (hG : GrowO G T w1 lo v n xs) (hx : a.eval x = .slice (some ⟨w2.heap.size, 0, none⟩) 1 1)
    (hb : Below w1.heap.size w1 w2) (hO : G.O w2 (In w1.heap.size w2.heap.size) x0 cs) (h1 : ∀ u ∈ cs, u.oneCell' = true) (hn : n + 1 ≤ 2000000) (hlo : lo ≤ w1.heap.size)
    (h : ∀ A' c' w', GrowO G T w' lo (.slice A' (n + 1) c') (n + 1) (xs ++ [x0]) → Below lo w2 w' → w2.heap.size ≤ w'.heap.size → (∀ b o, b < w1.heap.size → v.ownBlock ≠ some b → w'.cell? ⟨b, o, none⟩ = w2.cell? ⟨b, o, none⟩) → K (a.put o.dst (.slice A' (n + 1) c')) w') :
    if Region.wanted o (yielded ops a.tmps) = true then Oper.wp Tryz.prog o a (w2.alloc (.cells cs.toArray T)) K Q else E := by
  have hw : Region.wanted o (yielded ops a.tmps) = true := by simp [Region.wanted, hgd]
  rw [if_pos hw]
  obtain ⟨A', c', w', hrun, r1, r2, r3, r4⟩ := run_append_new hE o.type w1 w2 lo v n xs x0 cs hG hb hO h1 hn hlo
  unfold Oper.wp
  simp [execOp, ho, resolve, invoke, builtin, hs, hx, hrun, Result.andThen]
  exact h A' c' w' r1 r2 r3 r4
end Go.Proofs.YtdgcpaeneafejaaGreatDoor
