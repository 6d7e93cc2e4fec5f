/- The model's source of numbers: what is drawn for labels and lists. -/
import Derived.Test.YtbgmhndmldekbaaDoorSrcL
import Derived.Test.YtbgmhndmldekbaaDoorFlM
namespace Go.Proofs.YtbgmhndmldekbaaDoor
open Go.RowKit
set_option linter.unusedVariables false
theorem own_sliceL {w : World} {base : Nat} {T : TypeId} {s : Nat} {v : Value} {n : Nat} {xs : List Value} (h : w.ownsRow base T s v n xs) : ∃ A c, v = .slice A n c := by
  rcases h.2 with ⟨rfl, rfl⟩ | ⟨g, cap, _, rfl, _⟩
  · exact ⟨none, 0, rfl⟩
  · exact ⟨some ⟨g, 0, none⟩, cap, rfl⟩
theorem own_keptL {w w' : World} {lo j n : Nat} {T : TypeId} {s : Nat} {v : Value} {vs : List Value} (h : w.ownsRow lo T s v n vs) (hg : w.grownBy w' (some j)) (hj : j < lo) : w'.ownsRow lo T s v n vs := by
  refine h.kept hg ?_
  rcases e : v.ownBlock with _ | b
  · exact .inl rfl
  · have := (h.lt b e).1
    exact .inr (by intro e2; injection e2 with e2; omega)
/-- A number laid behind a row of the call's own. -/
theorem wpList_append_iL {ops : Array Oper} {rest : List Oper} {o : Oper} {a : Act} {Q : Exit → Act → World → Prop} (hgd : o.guard = none) (s x : Operand)
    (ho : o.op = .call { callee := .builtin .append, args := #[s, x], argTypes := #[24, 24] })
    (w : World) (base : Nat) (v : Value) (n : Nat) (xs : List Int) (hs : a.eval s = v) (hown : w.ownsRow base 2 1 v n (xs.map (Value.int .i64)))
    (b c : Nat) (u : Int) (hx : a.eval x = .slice (some ⟨b, 0, none⟩) 1 c) (hc : w.cell? ⟨b, 0, none⟩ = some (.int .i64 u)) (hlen : n + 1 ≤ 8000000) (hbase : base ≤ w.heap.size)
    (h : ∀ A' c' w', w'.ownsRow base 2 1 (.slice A' (n + 1) c') (n + 1) ((xs ++ [u]).map (Value.int .i64)) → w.grownBy w' v.ownBlock → wpList Tryd.prog ops Q rest (a.put o.dst (.slice A' (n + 1) c')) w') :
    wpList Tryd.prog ops Q (o :: rest) a w := by
  obtain ⟨i0, hi, hz0, hz1, hz2⟩ := info_parts (show (Tryd.prog.info? 2).map (fun i => (i.zero, i.size, i.bytes)) = some (some (.int .i64 0), 1, 8) by kernel_rfl)
  refine wpList_append_own w hgd s x 24 ho base 2 i0 (.int .i64 0) 1 8 Tryd.underlying24 hi hz0 hz1 hz2 rfl (by decide) v n (xs.map (Value.int .i64)) hs hown ⟨b, 0, none⟩ 1 c [.int .i64 u] hx rfl ?_ ?_ (by unfold maxLen; omega) (by omega) hbase ?_
  · intro j y hj
    match j, hj with
    | 0, hj => simp at hj; subst hj; simpa [Addr.add] using hc
  · intro y hy; simp at hy; subst hy; rfl
  · intro v' w' ho' hg _
    obtain ⟨A', c', rfl⟩ := own_sliceL ho'
    exact h A' c' w' (by simpa using ho') hg
/-- One of some texts. -/
theorem text_any (lo sb : Nat) (A : Option Addr) (n c k : Nat) (xs : List Int) (w : World) (B : Nat) (h : Src w lo sb A n c k) (hx : BySrc w B A xs) (hB : B ≤ lo) (l : xs.length = n) (m : n ≤ 1048576) (hk : k ≤ 1000000) (hb : ∀ u ∈ xs, 0 ≤ u ∧ u ≤ 255)
    (A2 : Option Addr) (n2 c2 : Nat) (ys : List ByteArray) (B2 : Nat) (h2 : Row w B2 A2 (ys.map Value.string)) (hB2 : B2 ≤ w.heap.size) (hsb : ∀ b o, A2 = some ⟨b, o, none⟩ → b ≠ sb) (l2 : ys.length = n2) (h3 : 1 ≤ n2) (h4 : n2 ≤ 200) :
    Calls Tryd.prog 14 #[.pointer (some ⟨sb, 0, none⟩), .slice A2 n2 c2] w fun e w' => ∃ (k' : Nat) (v : ByteArray), k' ≤ k + 1 ∧ v ∈ ys ∧ e = .returned (.string v) ∧ Src w' lo sb A n c k' ∧ w.grownBy w' (some sb) := by
  have C := Lib.hid (pick_any n2 lo sb A n c k xs w B h hx hB l m hk hb h3 h4)
  have L2 := Lib.hid l2
  clear h l hb l2
  go_enter Tryd.func14, Tryd.ntmps14
  go_wp2_with fail
  refine (C.out).mono ?_; rintro e w1 ⟨k', hk', x, hx1, rfl, hs, hg⟩
  have hlt : x < ys.length := by rw [L2.out]; exact hx1
  obtain ⟨b, o, e, hb, hc⟩ := Row.at_ h2 (k := x) (by rw [List.length_map]; exact hlt)
  subst e
  rw [List.getElem_map] at hc
  obtain ⟨u, hu⟩ : ∃ u, u = ys[x]'hlt := ⟨_, rfl⟩
  have HM := Lib.hid (show u ∈ ys by rw [hu]; exact List.getElem_mem _)
  rw [← hu] at hc
  have hc1 := hg.cell hc (by intro e; injection e with e; exact hsb b o rfl e)
  have hb1 : b < w1.heap.size := by have := hg.size; omega
  have HS := Lib.hid hs
  have HG := Lib.hid hg
  clear hs hg hu hlt
  go_wp2
  go_ret
  exact ⟨k', u, hk', HM.out, rfl, HS.out, HG.out⟩
end Go.Proofs.YtbgmhndmldekbaaDoor
