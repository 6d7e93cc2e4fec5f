/- Postfix forms: the program's closure lays one term behind those that it has met. -/
import Derived.Test.YtfoopgnnhgdfaaaProg
import Derived.WalkKit
import Derived.ProofKit
import Derived.OwnWalk
import Derived.OneCell
import Derived.Outline
import Derived.Lib.Hide
import Derived.Test.YtfoopgnnhgdfaaaMem
import Derived.Test.YtfoopgnnhgdfaaaOwn
import Derived.Test.YtfoopgnnhgdfaaaTmM
import Derived.Test.YtfoopgnnhgdfaaaTmW
import Derived.Test.YtfoopgnnhgdfaaaRet
import Derived.Test.YtfoopgnnhgdfaaaApp
import Derived.Test.YtfoopgnnhgdfaaaBuildT
import Derived.Test.YtfoopgnnhgdfaaaConc
import Derived.Test.YtfoopgnnhgdfaaaJoin
import Derived.Test.YtfoopgnnhgdfaaaEvN
import Derived.Test.YtfoopgnnhgdfaaaEvI
namespace Go.Proofs.Ytfoopgnnhgdfaaa
open Go.RowKit
/-- Whatever lies in none of the blocks S is as it was. -/
structure Fr (w w' : World) (S : Nat → Prop) : Prop where
  os : w'.os = w.os
  tape : w'.tape = w.tape
  output : w'.output = w.output
  size : w.heap.size ≤ w'.heap.size
  block : ∀ k, k < w.heap.size → ¬ S k → w'.heap[k]? = w.heap[k]?
theorem Fr.refl (w : World) (S : Nat → Prop) : Fr w w S := ⟨rfl, rfl, rfl, Nat.le_refl _, fun _ _ _ => rfl⟩
theorem Fr.trans {w w1 w2 : World} {S S' : Nat → Prop} (h : Fr w w1 S) (h2 : Fr w1 w2 S') (hs : ∀ k, k < w.heap.size → S' k → S k) : Fr w w2 S :=
  ⟨h2.os.trans h.os, h2.tape.trans h.tape, h2.output.trans h.output, Nat.le_trans h.size h2.size, fun k hk hn => (h2.block k (Nat.lt_of_lt_of_le hk h.size) (fun e => hn (hs k hk e))).trans (h.block k hk hn)⟩
theorem Fr.alloc {w w1 : World} {S : Nat → Prop} (h : Fr w w1 S) (o : Obj) : Fr w (w1.alloc o) S :=
  ⟨h.os, h.tape, h.output, Nat.le_trans h.size (by simp), fun i hi hn => (Below.heap_alloc _ o i (Nat.lt_of_lt_of_le hi h.size)).trans (h.block i hi hn)⟩
theorem Fr.set {w w1 : World} {S : Nat → Prop} (h : Fr w w1 S) (p : Addr) (u : Value) (hp : S p.block ∨ w.heap.size ≤ p.block) : Fr w (w1.setCell p u) S :=
  ⟨h.os, h.tape, h.output, by simpa [World.setCell] using h.size, fun i hi hn => (Below.heap_setCell _ _ _ _ (by
    intro e
    rcases hp with hp | hp
    · exact hn (e ▸ hp)
    · omega)).trans (h.block i hi hn)⟩
theorem Fr.grown {w w1 w2 : World} {S : Nat → Prop} {row : Option Nat} (h : Fr w w1 S) (hg : w1.grownBy w2 row) (hr : ∀ g, row = some g → S g ∨ w.heap.size ≤ g) : Fr w w2 S :=
  h.trans (S' := fun k => some k = row) ⟨hg.os, hg.tape, hg.output, hg.size, fun k hk hn => hg.block k hk hn⟩ (fun k hk e => by
    rcases hr k e.symm with h1 | h1
    · exact h1
    · omega)
theorem Fr.below {w w' : World} {S : Nat → Prop} {B : Nat} (h : Fr w w' S) (hB : B ≤ w.heap.size) (hS : ∀ k, k < B → ¬ S k) : Below B w w' :=
  ⟨h.os, h.tape, h.output, h.size, fun k hk => h.block k (Nat.lt_of_lt_of_le hk hB) (hS k hk)⟩
theorem Fr.of_below {w w' : World} {S : Nat → Prop} (h : Below w.heap.size w w') : Fr w w' S := ⟨h.os, h.tape, h.output, h.size, fun k hk _ => h.block k hk⟩
/-- The terms met so far, in the variable of block P; they lie in block G, which has room for cap of them. -/
def PostAt (w : World) (P G cap : Nat) (acc : List Tm) : Prop :=
  w.heap[P]? = some (.cells #[.slice (some ⟨G, 0, none⟩) acc.length cap] 24 (0, 0)) ∧ w.ownsRow G 77 2 (.slice (some ⟨G, 0, none⟩) acc.length cap) acc.length (tvs acc)
theorem PostAt.keep {w w' : World} {P G cap : Nat} {acc : List Tm} {S : Nat → Prop} (h : PostAt w P G cap acc) (hf : Fr w w' S) (hP : ¬ S P) (hG : ¬ S G) : PostAt w' P G cap acc := by
  obtain ⟨h1, h2⟩ := h
  refine ⟨(hf.block P (lt_of_block h1) hP).trans h1, ?_⟩
  refine ⟨h2.1, ?_⟩
  rcases h2.2 with ⟨e, _⟩ | ⟨g, cp, cur, e, hb, hh, rest⟩
  · cases e
  · injection e with e1 e2 e3
    injection e1 with e1
    injection e1 with e1
    subst e1 e3
    exact .inr ⟨G, cap, cur, rfl, hb, (hf.block G (Array.getElem?_eq_some_iff.1 hh).1 hG).trans hh, rest⟩
theorem unit_under : Try.prog.underlying 109 = some (.struct #[]) := by kernel_rfl
theorem info_unit : (Try.prog.info? 109).map (fun i => (i.zero, i.size, i.bytes)) = some (some (.agg #[]), 0, 0) := by kernel_rfl
theorem PostAt.more {w w1 w2 : World} {P G cap : Nat} {acc : List Tm} {t : Tm} (h : PostAt w P G cap acc) (hPG : P ≠ G) (h1 : w1.heap[P]? = w.heap[P]?) (ho : w2.ownsRow G 77 2 (.slice (some ⟨G, 0, none⟩) (acc.length + 1) cap) (acc.length + 1) (tvs (acc ++ [t]))) (hg : w1.grownBy w2 (some G)) (hs : P < w1.heap.size) :
    PostAt (w2.setCell ⟨P, 0, none⟩ (.slice (some ⟨G, 0, none⟩) (acc.length + 1) cap)) P G cap (acc ++ [t]) := by
  obtain ⟨h2, h3⟩ := h
  have h4 : w2.heap[P]? = some (.cells #[.slice (some ⟨G, 0, none⟩) acc.length cap] 24 (0, 0)) := (hg.block P hs (by intro e; injection e with e; exact hPG e)).trans (h1.trans h2)
  have hl : (acc ++ [t]).length = acc.length + 1 := by simp
  refine ⟨?_, ?_⟩
  · rw [hl]; exact one_setCell h4
  · rw [hl]
    refine ho.kept (row := some P) ⟨rfl, rfl, rfl, by simp [World.setCell], fun i _ hne => Below.heap_setCell _ _ _ _ (by show i ≠ P; exact fun e => hne (by rw [e]))⟩ (.inr ?_)
    intro e
    injection e with e
    exact hPG e.symm
theorem post_cells {w : World} {P G cap : Nat} {acc : List Tm} (h : PostAt w P G cap acc) : w.cell? ⟨P, 0, none⟩ = some (.slice (some ⟨G, 0, none⟩) acc.length cap) ∧ w.frozen? ⟨P, 0, none⟩ = false := ⟨cell_of_one h.1, free_of_one h.1⟩
set_option maxRecDepth 100000 in
theorem wpList_append_fit_tms {ops : Array Oper} {rest : List Oper} {o : Oper} {a : Act} {Q : Exit → Act → World → Prop} (hgd : o.guard = none) (s x : Operand)
    (ho : o.op = .call { callee := .builtin .append, args := #[s, x], argTypes := #[24, 24] })
    (w : World) (G B q cap : Nat) (es : List Tm) (hs : a.eval s = .slice (some ⟨G, 0, none⟩) q cap) (hown : w.ownsRow G 77 2 (.slice (some ⟨G, 0, none⟩) q cap) q (tvs es))
    (b c : Nat) (t : Tm) (hx : a.eval x = .slice (some ⟨b, 0, none⟩) 1 c) (hr : TRow w B (some ⟨b, 0, none⟩) [t]) (hroom : q + 1 ≤ cap)
    (h : ∀ w', w'.ownsRow G 77 2 (.slice (some ⟨G, 0, none⟩) (q + 1) cap) (q + 1) (tvs (es ++ [t])) → w.grownBy w' (some G) → wpList Try.prog ops Q rest (a.put o.dst (.slice (some ⟨G, 0, none⟩) (q + 1) cap)) w') :
    wpList Try.prog ops Q (o :: rest) a w := by
  obtain ⟨i0, hi, hz0, hz1, hz2⟩ := info_parts info_tma
  refine wpList_append_fits w hgd s x 24 ho G 77 i0 2 Try.underlying24 hi hz1 G q cap (tvs es) hs hown ⟨b, 0, none⟩ 1 c (tvs [t]) hx rfl ?_ (fun u hu => tvs_one hu) hroom ?_
  · intro j u hj
    have hp : 0 < (tvs [t]).length := by have := (List.getElem?_eq_some_iff.1 hj).1; omega
    obtain ⟨b', off, e, _, hc⟩ := hr hp
    injection e with e
    injection e with e1 e2
    subst e1 e2
    rw [addLit]
    exact hc j u hj
  · intro w' ho' hg
    exact h w' (by rw [tvs_append]; exact ho') hg
theorem trow_three (w : World) (o1 o2 : Obj) (k v : Int) (T : TypeId) : TRow (((w.alloc o1).alloc o2).alloc (.cells #[.int .i64 k, .int .i64 v] T)) (w.heap.size + 1 + 1 + 1) (some ⟨w.heap.size + 1 + 1, 0, none⟩) [⟨k, v⟩] := by
  have h := trow_one ((w.alloc o1).alloc o2) ⟨k, v⟩ T
  have e : ((w.alloc o1).alloc o2).heap.size = w.heap.size + 1 + 1 := by simp
  rw [e] at h
  exact h
set_option maxRecDepth 100000 in
set_option maxHeartbeats 2000000 in
theorem clos_any (t : Tm) (O : Option Addr) (no co : Nat) (P G cap : Nat) (acc : List Tm) (w : World) (h : PostAt w P G cap acc) (hPG : P ≠ G) (hcap : acc.length + 1 ≤ cap) :
    Calls Try.prog 106 #[.agg #[.int .i64 t.k, .int .i64 t.v], .slice O no co, ptr P] w fun e w' => e = .returned (.agg #[]) ∧ PostAt w' P G cap (acc ++ [t]) ∧ Fr w w' (fun k => k = P ∨ k = G) := by
  obtain ⟨k, v⟩ := t
  have hP := lt_of_block h.1
  obtain ⟨c1, f1⟩ := post_cells h
  have HH := Lib.hid h
  obtain ⟨q, hq⟩ : ∃ q, q = acc.length := ⟨_, rfl⟩
  have HQ := Lib.hid hq
  have HOW := Lib.hid (show ∀ w1, Below w.heap.size w w1 → w1.ownsRow G 77 2 (.slice (some ⟨G, 0, none⟩) q cap) q (tvs acc) from fun w1 hb => by rw [hq]; exact own_below' h.2 hb)
  rw [← hq] at c1 hcap
  have HFIN := Lib.hid (show ∀ (w1 w2 : World), Below w.heap.size w w1 → w2.ownsRow G 77 2 (.slice (some ⟨G, 0, none⟩) (q + 1) cap) (q + 1) (tvs (acc ++ [⟨k, v⟩])) → w1.grownBy w2 (some G) → w2.cell? ⟨P, 0, none⟩ = some (.slice (some ⟨G, 0, none⟩) q cap) ∧ w2.frozen? ⟨P, 0, none⟩ = false ∧ PostAt (w2.setCell ⟨P, 0, none⟩ (.slice (some ⟨G, 0, none⟩) (q + 1) cap)) P G cap (acc ++ [⟨k, v⟩]) ∧ Fr w (w2.setCell ⟨P, 0, none⟩ (.slice (some ⟨G, 0, none⟩) (q + 1) cap)) (fun k => k = P ∨ k = G) ∧ ∀ (i : Nat) (o : Obj), w.heap.size ≤ i → w1.heap[i]? = some o → (w2.setCell ⟨P, 0, none⟩ (.slice (some ⟨G, 0, none⟩) (q + 1) cap)).heap[i]? = some o from fun w1 w2 hb ho hg => by
    have e1 : w1.heap[P]? = w.heap[P]? := hb.block P hP
    have e2 : w2.heap[P]? = some (.cells #[.slice (some ⟨G, 0, none⟩) q cap] 24 (0, 0)) := (hg.block P (Nat.lt_of_lt_of_le hP hb.size) (by intro e; injection e with e; exact hPG e)).trans (e1.trans (by rw [hq]; exact h.1))
    have hG : G < w.heap.size := (h.2.lt G rfl).2
    refine ⟨cell_of_one e2, free_of_one e2, ?_, ?_, fun i o hi hio => (Below.heap_setCell _ _ _ _ (by show i ≠ P; omega)).trans ((hg.block i (Array.getElem?_eq_some_iff.1 hio).1 (by intro e; injection e with e; omega)).trans hio)⟩
    · have := h.more (t := ⟨k, v⟩) hPG e1 (by rw [← hq]; exact ho) hg (Nat.lt_of_lt_of_le hP hb.size)
      rwa [← hq] at this
    · exact ((Fr.of_below hb).grown hg (fun g e => by injection e with e; exact .inl (.inr e.symm))).set _ _ (.inl (.inl rfl)))
  clear h hq
  go_enter Try.func106, Try.ntmps106
  go_wp2_with (at_builtin; (refine wpList_append_fit_tms rfl _ _ rfl _ G _ q cap acc rfl (by exact HOW.out _ (below_three _ _ _ _)) _ 1 ⟨k, v⟩ rfl (by exact trow_three w _ _ k v _) hcap ?_); intro w4 ho4 hg4; obtain ⟨c4, f4, hP4, hF4, hU4⟩ := HFIN.out _ w4 (below_three _ _ _ _) ho4 hg4; have HU4 := Lib.hid (hU4 _ _ (Nat.le_succ _) (three_blocks w _ _ _).2.1); have HP4 := Lib.hid hP4; have HF4 := Lib.hid hF4; clear ho4 hg4 hP4 hF4 hU4)

  refine bodyPost_ret (results_cell_row rfl _ _ (w.heap.size + 1) 109 #[] (0, 0) _ rfl HU4.out unit_under rfl (by kernel_rfl)) rfl ?_
  exact ⟨rfl, HP4.out, HF4.out⟩
end Go.Proofs.Ytfoopgnnhgdfaaa
