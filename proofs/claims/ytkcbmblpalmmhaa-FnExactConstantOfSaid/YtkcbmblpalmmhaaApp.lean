/- Appends of terms onto a row of the call's own, and copies of lists of terms. -/
import Derived.Test.YtkcbmblpalmmhaaProg
import Derived.WalkKit
import Derived.ProofKit
import Derived.OwnWalk
import Derived.WalkSpells
import Derived.Outline
import Derived.Lib.Hide
import Derived.Test.YtkcbmblpalmmhaaMem
import Derived.Test.YtkcbmblpalmmhaaOwn
import Derived.Test.YtkcbmblpalmmhaaTmM
import Derived.Test.YtkcbmblpalmmhaaTmW
import Derived.Test.YtkcbmblpalmmhaaRet
namespace Go.Proofs.Ytkcbmblpalmmhaa
open Go.RowKit
theorem info_tma : (Try.prog.info? 68).map (fun i => (i.zero, i.size, i.bytes)) = some (some (.agg #[.int .i64 0, .int .i64 0]), 2, 16) := by kernel_rfl
theorem tvs_one {es : List Tm} {v : Value} (h : v ∈ tvs es) : v.oneCell' = true := by
  obtain ⟨t, _, ht⟩ := List.mem_flatMap.1 h
  simp only [tv, List.mem_cons, List.not_mem_nil, or_false] at ht
  rcases ht with rfl | rfl <;> rfl
theorem run_app_nil {P : Program} (w : World) (base : Nat) (t ty e : TypeId) (i : TypeInfo) (size : Nat) (ht : P.underlying t = some (.slice e)) (hi : P.info? e = some i) (v : Value) (n c : Nat) (xs : List Value) (hown : w.ownsRow base e size v n xs) :
    (Builtin.append_ #[t, t] ty #[v, .slice none 0 c]).run P w = .ok v w := by
  rcases hown.2 with ⟨rfl, rfl⟩ | ⟨g, cap, cur, rfl, _, _, hnc, _⟩
  · simp [Builtin.append_, run_underlying ht, sizeOf, typeInfo, hi, Builtin.lenOf, Builtin.firstCells]
  · simp [Builtin.append_, run_underlying ht, sizeOf, typeInfo, hi, Builtin.lenOf, Builtin.firstCells, hnc, storeCells]
set_option maxRecDepth 100000 in
/-- An append of terms onto a row of the call's own; the source may be nil. -/
theorem wpList_append_tms {ops : Array Oper} {rest : List Oper} {o : Oper} {a : Act} {Q : Exit → Act → World → Prop} (hgd : o.guard = none) (s x : Operand)
    (ho : o.op = .call { callee := .builtin .append, args := #[s, x], argTypes := #[24, 24] })
    (w : World) (base B : Nat) (v : Value) (n : Nat) (es : List Tm) (hs : a.eval s = v) (hown : w.ownsRow base 68 2 v n (tvs es))
    (A : Option Addr) (m c : Nat) (news : List Tm) (hx : a.eval x = .slice A m c) (hr : TRow w B A news) (hl : news.length = m) (hlen : n + m ≤ 8000000) (hbase : base ≤ w.heap.size)
    (h : ∀ A' c' w', w'.ownsRow base 68 2 (.slice A' (n + m) c') (n + m) (tvs (es ++ news)) → w.grownBy w' v.ownBlock → wpList Try.prog ops Q rest (a.put o.dst (.slice A' (n + m) c')) w') :
    wpList Try.prog ops Q (o :: rest) a w := by
  obtain ⟨i0, hi, hz0, hz1, hz2⟩ := info_parts info_tma
  rcases A with _ | ad
  · have hm : m = 0 := by
      rcases Nat.eq_zero_or_pos m with h0 | h0
      · exact h0
      · obtain ⟨b, off, e, _⟩ := hr (by rw [tvs_length]; omega)
        cases e
    subst hm
    obtain rfl : news = [] := List.eq_nil_of_length_eq_zero hl
    rw [List.append_nil] at h
    obtain ⟨A', c', rfl⟩ := own_slice hown
    have hrun := run_app_nil (P := Try.prog) w base 24 o.type 68 i0 2 Try.underlying24 hi (.slice A' n c') n c (tvs es) hown
    have h2 := h A' c' w (by simpa using hown) (World.grownBy.refl _ _)
    refine wpList_plain hgd fun K hK => ?_
    unfold Oper.wp
    simp only [execOp, ho, resolve, invoke, builtin, Sem.run_bind, Sem.run_pure, Result.andThen_ok, List.map_toArray, List.map_cons, List.map_nil, hs, hx, hrun]
    exact hK _ _ (by simpa using h2)
  · refine wpList_append_own w hgd s x 24 ho base 68 i0 (.agg #[.int .i64 0, .int .i64 0]) 2 16 Try.underlying24 hi hz0 hz1 hz2 rfl (by decide) v n (tvs es) hs hown ad m c (tvs news) hx (by rw [tvs_length, hl]) ?_ (fun u hu => tvs_one hu) (by unfold maxLen; omega) (by omega) hbase ?_
    · intro j u hj
      have hp : 0 < (tvs news).length := by have := (List.getElem?_eq_some_iff.1 hj).1; omega
      obtain ⟨b, off, e, _, hc⟩ := hr hp
      injection e with e
      subst e
      rw [addLit]
      exact hc j u hj
    · intro v' w' ho' hg _
      obtain ⟨A', c', rfl⟩ := own_slice ho'
      exact h A' c' w' (by rw [tvs_append]; exact ho') hg
theorem trow_one (w : World) (t : Tm) (T : TypeId) : TRow (w.alloc (.cells #[.int .i64 t.k, .int .i64 t.v] T)) (w.heap.size + 1) (some ⟨w.heap.size, 0, none⟩) [t] := by
  intro _
  refine ⟨w.heap.size, 0, rfl, by omega, fun i v hv => ?_⟩
  rw [Nat.zero_add, cell_of_row _ _ i _ _ (0, 0) (heap_alloc_new w _)]
  rw [← hv]
  simp [tvs, tv]
theorem own_made (w : World) : (w.alloc (.cells #[] 68)).ownsRow w.heap.size 68 2 (.slice (some ⟨w.heap.size, 0, none⟩) 0 0) 0 (tvs []) :=
  World.ownsRow_made (e := 68) (size := 2) w #[] 0 (Nat.le_refl _) (Nat.zero_le _) rfl
theorem l03Own_any (A : Option Addr) (n c : Nat) (es : List Tm) (w : World) (B : Nat) (h : TRow w B A es) (hB : B ≤ w.heap.size) (l : es.length = n) (m : n ≤ 2000000) :
    Calls Try.prog 77 #[.slice A n c] w fun e w' => RetT1 w es e w' := by
  have HO := Lib.hid (own_made w)
  have HR := Lib.hid (h.below ((Below.refl B w).alloc hB (.cells #[] 68)))
  have L := Lib.hid l
  clear l h
  go_enter Try.func77, Try.ntmps77
  go_wp2_with (at_builtin; refine wpList_append_tms rfl _ _ rfl _ w.heap.size B (.slice (some ⟨w.heap.size, 0, none⟩) 0 0) 0 [] rfl (by exact HO.out) A n c es rfl (by exact HR.out) L.out (by omega) (by simp) ?_; intro A' c' w' ho hg; have HO2 := Lib.hid ho; have HG := Lib.hid hg; clear ho hg)
  go_ret
  exact ⟨A', _, c', rfl, by simpa using HO2.out, ((Below.refl _ _).alloc (Nat.le_refl _) _).grown HG.out (by simp) (fun g e => by cases e; exact Nat.le_refl _)⟩
end Go.Proofs.Ytkcbmblpalmmhaa
