/- An operation put together out of its first term and its operands: a region that draws its order. -/
import Derived.Test.YtkcbmblpalmmhaaProg
import Derived.WalkKit
import Derived.ProofKit
import Derived.OwnWalk
import Derived.Outline
import Derived.Deep.RegionLaw
import Derived.Lib.Hide
import Derived.Test.YtkcbmblpalmmhaaMem
import Derived.Test.YtkcbmblpalmmhaaOwn
import Derived.Test.YtkcbmblpalmmhaaTmM
import Derived.Test.YtkcbmblpalmmhaaTmW
import Derived.Test.YtkcbmblpalmmhaaRet
import Derived.Test.YtkcbmblpalmmhaaApp
import Derived.Test.YtkcbmblpalmmhaaBuildT
import Derived.Test.YtkcbmblpalmmhaaConc
namespace Go.Proofs.Ytkcbmblpalmmhaa
open Go.RowKit
set_option maxRecDepth 100000 in
/-- An append of terms onto a row of the call's own, as a step of a region that draws its order. -/
theorem step_append_tms {ops : Array Oper} {o : Oper} {a : Act} {K : Act → World → Prop} {Q : Exit → Act → World → Prop} {E : Prop} (hgd : o.guard = none) (s x : Operand)
    (ho : o.op = .call { callee := .builtin .append, args := #[s, x], argTypes := #[24, 24] })
    (w : World) (base B : Nat) (v : Value) (n : Nat) (es : List Tm) (hs : a.eval s = v) (hown : w.ownsRow base 68 2 v n (tvs es))
    (A : Option Addr) (m c : Nat) (news : List Tm) (hx : a.eval x = .slice A m c) (hr : TRow w B A news) (hl : news.length = m) (hlen : n + m ≤ 8000000) (hbase : base ≤ w.heap.size)
    (h : ∀ A' c' w', w'.ownsRow base 68 2 (.slice A' (n + m) c') (n + m) (tvs (es ++ news)) → w.grownBy w' v.ownBlock → K (a.put o.dst (.slice A' (n + m) c')) w') :
    if Region.wanted o (yielded ops a.tmps) = true then Oper.wp Try.prog o a w K Q else E := by
  have hw : Region.wanted o (yielded ops a.tmps) = true := by simp [Region.wanted, hgd]
  rw [if_pos hw]
  obtain ⟨i0, hi, hz0, hz1, hz2⟩ := info_parts info_tma
  rcases A with _ | ad
  · have hm : m = 0 := by
      rcases Nat.eq_zero_or_pos m with h0 | h0
      · exact h0
      · obtain ⟨b, off, e, _⟩ := hr (by rw [tvs_length]; omega)
        cases e
    subst hm
    obtain rfl : news = [] := List.eq_nil_of_length_eq_zero hl
    rw [List.append_nil] at h
    obtain ⟨A', c', rfl⟩ := own_slice hown
    have hrun := run_app_nil (P := Try.prog) w base 24 o.type 68 i0 2 Try.underlying24 hi (.slice A' n c') n c (tvs es) hown
    have h2 := h A' c' w (by simpa using hown) (World.grownBy.refl _ _)
    unfold Oper.wp
    simp only [execOp, ho, resolve, invoke, builtin, Sem.run_bind, Sem.run_pure, Result.andThen_ok, List.map_toArray, List.map_cons, List.map_nil, hs, hx, hrun]
    exact h2
  · refine wp_append_own w s x 24 ho base 68 i0 (.agg #[.int .i64 0, .int .i64 0]) 2 16 Try.underlying24 hi hz0 hz1 hz2 rfl (by decide) v n (tvs es) hs hown ad m c (tvs news) hx (by rw [tvs_length, hl]) ?_ (fun u hu => tvs_one hu) (by unfold maxLen; omega) (by omega) hbase ?_
    · intro j u hj
      have hp : 0 < (tvs news).length := by have := (List.getElem?_eq_some_iff.1 hj).1; omega
      obtain ⟨b, off, e, _, hc⟩ := hr hp
      injection e with e
      subst e
      rw [addLit]
      exact hc j u hj
    · intro v' w' ho' hg _
      obtain ⟨A', c', rfl⟩ := own_slice ho'
      exact h A' c' w' (by rw [tvs_append]; exact ho') hg
theorem own_lenJ {w : World} {base : Nat} {T : TypeId} {n : Nat} {v : Value} {es : List Tm} (h : w.ownsRow base T 2 v n (tvs es)) : es.length = n := by
  have := h.1
  rw [tvs_length] at this
  omega
theorem own_single (w : World) (t : Tm) (lo : Nat) (h : lo ≤ w.heap.size) : (w.alloc (.cells #[.int .i64 t.k, .int .i64 t.v] 68)).ownsRow lo 68 2 (.slice (some ⟨w.heap.size, 0, none⟩) 1 1) 1 (tvs [t]) :=
  ⟨by rw [tvs_length]; rfl, .inr ⟨w.heap.size, 1, _, rfl, h, heap_alloc_new w _, Nat.le_refl _, by unfold maxLen; omega, rfl, rfl⟩⟩
theorem own_singleA (w : World) (o : Obj) (t : Tm) : ((w.alloc o).alloc (.cells #[.int .i64 t.k, .int .i64 t.v] 68)).drew.ownsRow w.heap.size 68 2 (.slice (some ⟨w.heap.size + 1, 0, none⟩) 1 1) 1 (tvs [t]) := by
  have h := own_drawn (own_single (w.alloc o) t w.heap.size (by simp)) (Drawn.refl _).drew
  rw [show (w.alloc o).heap.size = w.heap.size + 1 by simp] at h
  exact h
theorem belowA (w : World) (o1 o2 : Obj) : Below w.heap.size w ((w.alloc o1).alloc o2).drew := (((Below.refl _ _).alloc (Nat.le_refl _) _).alloc (by simp) _).drew
theorem belowB (w : World) (o1 : Obj) : Below w.heap.size w (w.alloc o1).drew := ((Below.refl _ _).alloc (Nat.le_refl _) _).drew
theorem boxed_kept (w : World) (t : Tm) {w2 : World} (hb : Below (w.alloc (.cells #[.int .i64 t.k, .int .i64 t.v] 68)).drew.heap.size (w.alloc (.cells #[.int .i64 t.k, .int .i64 t.v] 68)).drew w2) : w2.cell? ⟨w.heap.size, 0, none⟩ = some (.int .i64 t.k) ∧ w2.cell? ⟨w.heap.size, 1, none⟩ = some (.int .i64 t.v) := by
  have h := (hb.block w.heap.size (by simp)).trans (show (w.alloc (.cells #[.int .i64 t.k, .int .i64 t.v] 68)).drew.heap[w.heap.size]? = some (.cells #[.int .i64 t.k, .int .i64 t.v] 68 (0, 0)) from heap_alloc_new w _)
  exact ⟨cell_of_row _ _ 0 _ _ (0, 0) h, cell_of_row _ _ 1 _ _ (0, 0) h⟩
theorem joined_end {w w1 w2 w3 : World} {t : Tm} {es : List Tm} {g n2 c3 : Nat} {A3 : Option Addr} (h1 : Below w.heap.size w w1) (h2 : Below w1.heap.size w1 w2) (hg : w.heap.size ≤ g) (ho : w3.ownsRow w.heap.size 68 2 (.slice A3 (1 + n2) c3) (1 + n2) (tvs ([t] ++ es))) (h3 : w2.grownBy w3 (Value.slice (some ⟨g, 0, none⟩) 1 1).ownBlock) :
    RetT1 w (t :: es) (.returned (.slice A3 (1 + n2) c3)) w3 := by
  have h12 := h1.trans (h2.mono h1.size)
  exact ⟨A3, 1 + n2, c3, rfl, ho, h12.grown h3 h12.size (fun g' e => by cases e; exact hg)⟩
set_option maxRecDepth 100000 in
set_option maxHeartbeats 4000000 in
theorem joined_any (t : Tm) (O : Option Addr) (no co : Nat) (oss : List (List Tm)) (w : World) (B : Nat) (h : TTRow w B O oss) (hB : B ≤ w.heap.size) (l : oss.length = no) (m : no ≤ 2000000) (ht : oss.flatten.length ≤ 100000) :
    Calls Try.prog 89 #[.agg #[.int .i64 t.k, .int .i64 t.v], .slice O no co] w fun e w' => RetT1 w (t :: oss.flatten) e w' := by
  have CC := Lib.hid (fun (w1 : World) (hb : Below w.heap.size w w1) => concat_any O no co oss w1 B (h.below (hb.mono hB)) (Nat.le_trans hB hb.size) l m ht)
  clear h l
  go_enter Try.func89, Try.ntmps89
  go_wp2
  go_region_law (first
    | (go_simp; go_at_call 94; refine (CC.out _ (belowA w _ _)).mono ?_; rintro e w2 ⟨A2, n2, c2, rfl, ho2, hb2⟩; have HL := Lib.hid (own_lenJ ho2); have HR := Lib.hid (show TRow w2 w2.heap.size A2 oss.flatten from Row.of_own2 ho2); have HB2 := Lib.hid hb2; have HO := Lib.hid (own_below' (own_singleA w _ t) hb2); have HLN := Lib.hid (show 1 + n2 ≤ 8000000 by have h1 := HL.out; omega); have HBS := Lib.hid (Nat.le_trans (belowA w _ _).size HB2.out.size); clear ho2 hb2)
    | (go_simp; go_at_call 94; refine (CC.out _ (belowB w _)).mono ?_; rintro e w2 ⟨A2, n2, c2, rfl, ho2, hb2⟩; have HL := Lib.hid (own_lenJ ho2); have HR := Lib.hid (show TRow w2 w2.heap.size A2 oss.flatten from Row.of_own2 ho2); have HB2 := Lib.hid hb2; have HLN := Lib.hid (show 1 + n2 ≤ 8000000 by have h1 := HL.out; omega); have HBS := Lib.hid (Nat.le_trans (belowB w _).size HB2.out.size); have HOB := Lib.hid (own_single w2 t w.heap.size HBS.out); have HRB := Lib.hid (HR.out.below ((Below.refl _ _).alloc (Nat.le_refl _) (.cells #[.int .i64 t.k, .int .i64 t.v] 68))); have HBSB := Lib.hid (show w.heap.size ≤ (w2.alloc (.cells #[.int .i64 t.k, .int .i64 t.v] 68)).heap.size from Nat.le_trans HBS.out (by simp)); have HB2B := Lib.hid (HB2.out.alloc HB2.out.size (.cells #[.int .i64 t.k, .int .i64 t.v] 68)); obtain ⟨hq1, hq2⟩ := boxed_kept w t hb2; clear ho2 hb2)
    | (refine step_append_tms rfl (.tmp 6) (.tmp 8) rfl _ w.heap.size _ (.slice (some ⟨w.heap.size + 1, 0, none⟩) 1 1) 1 [t] rfl HO.out A2 n2 c2 oss.flatten rfl HR.out HL.out HLN.out HBS.out ?_; intro A3 c3 w3 ho3 hg3; have HF := Lib.hid (joined_end (belowA w _ _) HB2.out (Nat.le_succ _) ho3 hg3); clear ho3 hg3)
    | (refine step_append_tms rfl (.tmp 6) (.tmp 8) rfl _ w.heap.size _ (.slice (some ⟨w2.heap.size, 0, none⟩) 1 1) 1 [t] rfl HOB.out A2 n2 c2 oss.flatten rfl HRB.out HL.out HLN.out HBSB.out ?_; intro A3 c3 w3 ho3 hg3; have HF := Lib.hid (joined_end (belowB w _) HB2B.out HBS.out ho3 hg3); clear ho3 hg3))
  all_goals
    go_wp2
    go_ret
    exact HF.out
end Go.Proofs.Ytkcbmblpalmmhaa
