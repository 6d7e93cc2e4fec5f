/- Evaluating an expression: the program's answer is that of the plain function. -/
import Derived.Test.YtfoopgnnhgdfaaaProg
import Derived.WalkKit
import Derived.ProofKit
import Derived.OwnWalk
import Derived.OneCell
import Derived.Outline
import Derived.Lib.Hide
import Derived.Laws.EntriesVeiled
import Derived.Test.YtfoopgnnhgdfaaaMem
import Derived.Test.YtfoopgnnhgdfaaaTmM
import Derived.Test.YtfoopgnnhgdfaaaTmW
import Derived.Test.YtfoopgnnhgdfaaaTmI
import Derived.Test.YtfoopgnnhgdfaaaOpr
import Derived.Test.YtfoopgnnhgdfaaaExM
import Derived.Test.YtfoopgnnhgdfaaaEvM
import Derived.Test.YtfoopgnnhgdfaaaEvA
import Derived.Test.YtfoopgnnhgdfaaaEvN
namespace Go.Proofs.Ytfoopgnnhgdfaaa
open Go.RowKit
theorem ev_all (R N C B0 : Nat) (V : Option Addr) (nv cv : Nat) (vals : List Int) (hRB : B0 ≤ R) (hNR : N ≠ R) (hCR : C ≠ R) (lv : vals.length = nv) (mv : nv ≤ 29) (hd : dataB vals = true) : ∀ (x : Ex), x.ok (nv : Int) → EvOK R N C B0 V nv cv vals x := by
  intro x
  induction x with
  | leaf t => exact fun ho => evStep R N C B0 V nv cv vals hRB hNR hCR lv mv hd _ ho (fun y hy => by simp [Ex.kids] at hy)
  | one t a iha => exact fun ho => evStep R N C B0 V nv cv vals hRB hNR hCR lv mv hd _ ho (fun y hy => by simp [Ex.kids] at hy; subst hy; exact iha ho.2.2)
  | two t a b iha ihb =>
    exact fun ho => evStep R N C B0 V nv cv vals hRB hNR hCR lv mv hd _ ho (fun y hy => by
      simp [Ex.kids] at hy
      rcases hy with rfl | rfl
      · exact iha ho.2.2.1
      · exact ihb ho.2.2.2)
/-- The three variables that the walk lays, and what they hold. -/
theorem three_blocks (w : World) (o1 o2 o3 : Obj) : (((w.alloc o1).alloc o2).alloc o3).heap[w.heap.size]? = some o1 ∧ (((w.alloc o1).alloc o2).alloc o3).heap[w.heap.size + 1]? = some o2 ∧ (((w.alloc o1).alloc o2).alloc o3).heap[w.heap.size + 2]? = some o3 := by
  have s1 : (w.alloc o1).heap.size = w.heap.size + 1 := by simp
  have s2 : ((w.alloc o1).alloc o2).heap.size = w.heap.size + 2 := by simp
  refine ⟨?_, ?_, ?_⟩
  · rw [Below.heap_alloc _ _ _ (by omega), Below.heap_alloc _ _ _ (by omega)]; exact heap_alloc_new w o1
  · rw [Below.heap_alloc _ _ _ (by omega), ← s1]; exact heap_alloc_new _ o2
  · rw [← s2]; exact heap_alloc_new _ o3
theorem below_three (w : World) (o1 o2 o3 : Obj) : Below w.heap.size w (((w.alloc o1).alloc o2).alloc o3) := (((Below.refl _ _).alloc (Nat.le_refl _) _).alloc (by simp) _).alloc (by simp; omega) _
set_option maxRecDepth 100000 in
set_option maxHeartbeats 2000000 in
theorem bottomI_any (A : Option Addr) (n c : Nat) (es : List Tm) (V : Option Addr) (nv cv : Nat) (vals : List Int) (x : Ex) (w : World) (h : TRow w w.heap.size A es) (l : es.length = n) (hn : n ≤ 60) (hc : n ≤ c) (hv : IRow w w.heap.size V vals) (lv : vals.length = nv) (mv : nv ≤ 29) (hd : dataB vals = true) (hx : x.flat = es) (ho : x.ok (nv : Int)) :
    Calls Try.prog 94 #[.slice A n c, .func (.func 95) #[.slice V nv cv] #[]] w fun e w' => e = .returned (.int .i64 (evX vals x)) ∧ Below w.heap.size w w' := by
  have EV := Lib.hid (ev_all (w.heap.size + 1) (w.heap.size + 2) w.heap.size w.heap.size V nv cv vals (by omega) (by omega) (by omega) lv mv hd x ho)
  have L := Lib.hid l
  have HX := Lib.hid hx
  have HH := Lib.hid h
  have HV := Lib.hid hv
  clear l hx h hv lv hd ho
  go_enter Try.func94, Try.ntmps94
  go_wp2_with fail
  refine (EV.out [] _ ?_ ?_ ?_ ?_ ?_).mono ?_
  · exact ⟨A, n, c, (three_blocks w _ _ _).2.1, hc, hn, by rw [List.append_nil, HX.out]; exact L.out, by rw [List.append_nil, HX.out]; exact HH.out.below (below_three w _ _ _)⟩
  · exact (three_blocks w _ _ _).2.2
  · exact (three_blocks w _ _ _).1
  · exact HV.out.below (below_three w _ _ _)
  · exact (below_three w _ _ _).size
  · rintro e w' ⟨rfl, _, hg⟩
    have HG := Lib.hid ((below_three w _ _ _).trans (below_of_grown hg (Nat.le_succ _) (below_three w _ _ _).size))
    clear hg
    go_wp2
    go_ret
    exact ⟨rfl, HG.out⟩
set_option maxRecDepth 100000 in
theorem valueOf_any (A : Option Addr) (n c : Nat) (es : List Tm) (V : Option Addr) (nv cv : Nat) (vals : List Int) (x : Ex) (w : World) (h : TRow w w.heap.size A es) (l : es.length = n) (hn : n ≤ 60) (hc : n ≤ c) (hv : IRow w w.heap.size V vals) (lv : vals.length = nv) (mv : nv ≤ 29) (hd : dataB vals = true) (hx : x.flat = es) (ho : x.ok (nv : Int)) :
    Calls Try.prog 61 #[.slice V nv cv, .slice A n c] w fun e w' => e = .returned (.int .i64 (evX vals x)) ∧ Below w.heap.size w w' := by
  have C := Lib.hid (bottomI_any A n c es V nv cv vals x w h l hn hc hv lv mv hd hx ho)
  clear l hx h hv lv hd ho
  go_enter Try.func61, Try.ntmps61
  go_wp2_with (go_at_call 94; refine (C.out).mono ?_; rintro e w' ⟨rfl, hb⟩)
  go_ret
  exact ⟨rfl, hb⟩
theorem not_vt {v : Int} {es : List Tm} (h0 : 0 ≤ v) : vtB v 60 es = (decide (v ≤ 29) && exB v 60 es) := by
  by_cases h : v ≤ 29
  · rw [vtB_yes (by omega), decide_eq_true h]; rfl
  · rw [vtB_no (by omega), decide_eq_false h]; rfl
set_option maxRecDepth 100000 in
set_option maxHeartbeats 2000000 in
theorem implEval_any (A : Option Addr) (n c : Nat) (es : List Tm) (V : Option Addr) (nv cv : Nat) (vals : List Int) (w : World) (T1 : TypeId) (lo1 hi1 : Nat) (h : OwnV w lo1 hi1 T1 2 A n c (tvs es)) (hB : hi1 ≤ w.heap.size) (l : es.length = n) (m : n ≤ 2000000) (T2 : TypeId) (lo2 hi2 : Nat) (h2 : OwnV w lo2 hi2 T2 1 V nv cv (vals.map (Value.int .i64))) (hB2 : hi2 ≤ w.heap.size) (l2 : vals.length = nv) (m2 : nv ≤ 2000000) :
    Calls Try.prog 18 #[.slice A n c, .slice V nv cv] w fun e w' => e = .returned (.tuple #[.int .i64 (evalR es vals).1, .int .i64 (evalR es vals).2]) ∧ Below w.heap.size w w' := by
  have hcap := own_cap h.own
  have hrow := h.trow.more hB
  have hrow2 : IRow w w.heap.size V vals := Row.more h2.row hB2
  clear h h2 hB hB2
  have CC := Lib.hid (containsF_any V nv cv vals w w.heap.size hrow2 l2 m2)
  rcases hd : dataB vals with _ | _
  · have H := Lib.hid (evalR_no (es := es) (vals := vals) (by rintro ⟨_, e, _⟩; rw [hd] at e; cases e))
    have HD := Lib.hid hd
    clear hd l l2
    go_enter Try.func18, Try.ntmps18
    go_wp2_with (go_at_call 59; refine (CC.out).mono ?_; rw [HD.out]; rintro e w' ⟨rfl, rfl⟩)
    go_ret2
    exact ⟨by rw [H.out]; rfl, Below.refl _ _⟩
  · have HD := Lib.hid hd
    have CV := Lib.hid (implValid_any A n c es (nv : Int) 60 w w.heap.size hrow (Nat.le_refl _) l m)
    rcases hx : vtB (nv : Int) 60 es with _ | _
    · have H := Lib.hid (evalR_no (es := es) (vals := vals) (by
        rintro ⟨e1, _, e3⟩
        rw [l2] at e1 e3
        rw [not_vt (by omega), e3, decide_eq_true (by omega)] at hx
        cases hx))
      have HX := Lib.hid hx
      clear hx hd l l2
      go_enter Try.func18, Try.ntmps18
      go_wp2_with (first
        | (go_at_call 59; refine (CC.out).mono ?_; rw [HD.out]; rintro e w' ⟨rfl, rfl⟩)
        | (go_at_call 26; refine (CV.out).mono ?_; rw [HX.out]; rintro e w' ⟨rfl, hb⟩))
      go_ret2
      exact ⟨by rw [H.out]; rfl, hb⟩
    · have HX := Lib.hid hx
      rw [not_vt (by omega), Bool.and_eq_true, decide_eq_true_iff] at hx
      have h29 : nv ≤ 29 := by omega
      have H := Lib.hid (evalR_yes (es := es) (vals := vals) (by omega) hd (by rw [l2]; exact hx.2))
      obtain ⟨hflat, hok⟩ := treeOf_okV hx.2 (by omega)
      have hn60 := (exB_scan hx.2).2
      have CE := Lib.hid (fun (w1 : World) (hb : Below w.heap.size w w1) => valueOf_any A n c es V nv cv vals (treeOf es) w1 ((hrow.below hb).more hb.size) l (by omega) hcap (Row.more (hrow2.below hb) hb.size) l2 h29 hd hflat hok)
      clear hx hd l l2 hflat hok hn60
      go_enter Try.func18, Try.ntmps18
      go_wp2_with (first
        | (go_at_call 59; refine (CC.out).mono ?_; rw [HD.out]; rintro e w' ⟨rfl, rfl⟩)
        | (go_at_call 26; refine (CV.out).mono ?_; rw [HX.out]; rintro e w1 ⟨rfl, hb⟩; have CE1 := Lib.hid (CE.out w1 hb); have HB1 := Lib.hid hb; clear hb)
        | (go_at_call 61; refine (CE1.out).mono ?_; rintro e w2 ⟨rfl, hb2⟩))
      go_ret2
      exact ⟨by rw [H.out]; rfl, HB1.out.trans (hb2.mono HB1.out.size)⟩
end Go.Proofs.Ytfoopgnnhgdfaaa
