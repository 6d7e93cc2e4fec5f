/- slices.AppendSeq onto a list of the call's own: numbers out of an iterator that reads memory. -/
import Derived.Test.YtbailpfjgjcbdaaGreatDoorGoK
namespace Go.Proofs.YtbailpfjgjcbdaaGreatDoor
open Go.RowKit Go.Shelf
set_option linter.unusedVariables false
attribute [local go_sem] Oper.semAt_some
/-- Where an append's row lies: where it lay, or in new memory. -/
theorem append_where {w w' : World} {base n c m : Nat} {v v' : Value} {xs news : List Value} {a : Addr} (ty : TypeId) (hown : w.ownsRow base 2 1 v n xs) (hl : news.length = m * 1) (hm : 0 < m) (hnews : ∀ j u, news[j]? = some u → w.cell? (a.add j) = some u) (h1 : ∀ u ∈ news, u.oneCell' = true) (hb : n + m ≤ 8000000)
    (hrun : (Builtin.append_ #[26, 26] ty #[v, .slice (some a) m c]).run Tryz.prog w = .ok v' w') : ∀ g, v'.ownBlock = some g → v.ownBlock = some g ∨ w.heap.size ≤ g := by
  obtain ⟨i0, hi, hz0, hz1, hz2⟩ := info_parts infoI
  have hxl := hown.1
  rcases hown.2 with ⟨rfl, rfl⟩ | ⟨g, cap, cur, rfl, hbg, hg, hnc, hcm, hcs, htake⟩
  · have hr := run_append_nil (P := Tryz.prog) w 26 ty 2 i0 (.int .i64 0) Tryz.underlying26 hi hz0 a m c news (by rw [hz1]; exact hl) hnews hm (by omega) (by rw [hz2]; omega)
    rw [hr] at hrun
    injection hrun with e1 e2
    subst e1
    intro g hg
    right
    simp [Value.ownBlock] at hg
    omega
  · by_cases hroom : n + m ≤ cap
    · have hr := run_append_room (P := Tryz.prog) w 26 ty 2 i0 Tryz.underlying26 hi g n cap cur hg a m c news (by rw [hz1]; exact hl) hnews h1 hroom (by rw [hz1, hl, hcs]; omega)
      rw [hr] at hrun
      injection hrun with e1 e2
      subst e1
      intro g' hg'
      left
      simpa [Value.ownBlock] using hg'
    · have holds : ∀ j u, xs[j]? = some u → w.cell? ((⟨g, 0, none⟩ : Addr).add j) = some u := hown.cells (g := g) rfl
      have hr := run_append_grow (P := Tryz.prog) w 26 ty 2 i0 (.int .i64 0) Tryz.underlying26 hi hz0 ⟨g, 0, none⟩ n cap xs (by rw [hz1]; exact hxl) holds a m c news (by rw [hz1]; exact hl) hnews (by omega) (by omega) (growslice_fits (by omega) (by rw [hz2]; omega))
      rw [hr] at hrun
      injection hrun with e1 e2
      subst e1
      intro g' hg'
      right
      simp [Value.ownBlock] at hg'
      omega
theorem wpListIn_append_put {F : Fence} {n : Nat} (w : World) {ops : Array Oper} {rest : List Oper} {o : Oper} {a : Act} {Q : Exit → Act → World → Prop} (hg : o.guard = none) (s x : Operand)
    (hop : o.op = Op.call { callee := Callee.builtin Builtin.append, args := #[s, x], argTypes := #[26, 26] })
    (base : Nat) (v : Value) (k : Nat) (xs : List Value) (hs : a.eval s = v) (hown : w.ownsRow base 2 1 v k xs) (ad : Addr) (m c : Nat) (news : List Value) (hx : a.eval x = .slice (some ad) m c) (hn : news.length = m * 1) (hm : 0 < m)
    (hc : ∀ j u, news[j]? = some u → w.cell? (ad.add j) = some u) (h1c : ∀ u ∈ news, u.oneCell' = true) (b1 : k + m ≤ 8000000) (b3 : base ≤ w.heap.size)
    (hK : ∀ v' w', w'.ownsRow base 2 1 v' (k + m) (xs ++ news) → w.grownBy w' v.ownBlock → (∀ g, v'.ownBlock = some g → v.ownBlock = some g ∨ w.heap.size ≤ g) → wpListIn F n Tryz.prog ops Q rest (a.put o.dst v') w') :
    wpListIn F n Tryz.prog ops Q (o :: rest) a w := by
  obtain ⟨i0, hi, hz0, hz1, hz2⟩ := info_parts infoI
  refine wpListIn_plain hg fun K hK' => ?_
  obtain ⟨v', w', hrun, r1, r2, _⟩ := run_append_own (P := Tryz.prog) w base 26 o.type 2 i0 (.int .i64 0) 1 8 Tryz.underlying26 hi hz0 hz1 hz2 rfl (by decide) v k xs hown ad m c news hn hc h1c (by unfold maxLen; omega) (by omega) b3
  have r4 := append_where o.type hown hn hm hc h1c b1 hrun
  unfold Oper.wpIn
  refine ⟨by simp [Oper.about, hop, resolve, Target.leads, Sem.run_pure], ?_⟩
  rw [Oper.semAt_plain F _ _ (by rw [hop]; intro c hc'; cases hc')]
  simp [execOp, hop, resolve, invoke, builtin, hs, hx, hrun, Result.andThen]
  exact hK' _ _ (hK v' w' r1 r2 r4)
theorem ownFrom_KR {β : Type} {B : Nat} {R : Nat → Prop} {w₀ : World} (hR : ∀ k, R k → k < w₀.heap.size) (hB : ∀ k, R k → k < B) : OwnFrom B (fun (_ : β) W => KR R w₀ W) :=
  fun _ _ _ _ hs hg hr => hs.trans (KR.grown hg (fun k hk => Nat.lt_of_lt_of_le (hR k hk) hs.size) (fun g e h => by
    have h1 := (hr g e).1
    have h2 := hB g h
    omega))
set_option maxRecDepth 100000 in
set_option maxHeartbeats 2000000 in
theorem appendSeqR_any (n : Nat) (hn : 3 ≤ n) (g : Nat) (lb : Array Value) (eg : ∀ args w, (callFunc g args).run Tryz.prog w = .ok (.enter g args) w) (zs : List Int) (N : Nat) (hN : N ≤ 1000000) (lo k0 c0 : Nat) (A0 : Option Addr) (pre0 : List Int) (R : Nat → Prop) (w : World) (hR : ∀ k, R k → k < w.heap.size) (hlo : lo ≤ w.heap.size) (hrow0 : w.ownsRow lo 2 1 (.slice A0 k0 c0) k0 (pre0.map (Value.int .i64))) (hk0 : k0 ≤ 1000000) (hv0 : ∀ g, (Value.slice A0 k0 c0).ownBlock = some g → ¬ R g)
    (hseq : SeqStopsK Fence.wide (n - 1) Tryz.prog g lb (fun x : Int => #[Value.int .i64 x]) (KR R) (fun ys => ys = zs) (fun _ => True) N w) :
    CallsIn Fence.wide n Tryz.prog 79 #[.slice A0 k0 c0, .func (.func g) #[] lb] w fun e W' => ∃ v, e = .returned v ∧ W'.ownsRow lo 2 1 v (k0 + zs.length) ((pre0 ++ zs).map (Value.int .i64)) ∧ KR R w W' := by
  have h1 : 1 ≤ n := by omega
  have h2 : 1 ≤ n - 1 - 1 := by omega
  refine callsIn_of_wp_marks Tryz.func79 rfl trivial ?_ rfl
  simp only [Tryz.ntmps79, List.size_toArray, List.length_cons, List.length_nil, Nat.reduceAdd, Nat.reduceSub, Array.replicate_succ, Array.replicate_zero, List.push_toArray, List.append_toArray, List.nil_append, List.cons_append]
  gi_wp2
  have bO := Boxed.new w 26 (.slice A0 k0 c0)
  have hB0 : Below w.heap.size w (w.alloc (.cells #[.slice A0 k0 c0] 26)) := (Below.refl _ w).alloc (Nat.le_refl _) _
  refine wpIn_rangeFunc_ownF rfl h1 (gf := g) (lb := lb) rfl trivial eg hseq (fun h k => h.trans k) (fun W l o o' hl h _ _ => KR.grown (grownBy_putObj' W l o') (fun k hk => by have := hR k hk; have := (Array.getElem?_eq_some_iff.1 h).1; simp at hl; omega) (fun j e hj => by cases e; have := hR l hj; simp at hl; omega)) hB0 (fun _ => rfl)
    (fun pre W => (∃ v, Boxed W w.heap.size 26 v ∧ W.ownsRow lo 2 1 v (k0 + pre.length) ((pre0 ++ pre).map (Value.int .i64)) ∧ (∀ j, v.ownBlock = some j → ¬ R j)) ∧ KR R w W)
    (fun _ _ _ => False)
    (OwnFrom.and (Own.from (holdsRow_own lo w.heap.size 26 2 1 (fun pre => k0 + pre.length) (fun pre : List Int => (pre0 ++ pre).map (Value.int .i64)) (fun _ v => ∀ j, v.ownBlock = some j → ¬ R j)) _) (ownFrom_KR hR (fun k hk => by have := hR k hk; simp; omega)))
    (fun _ _ _ _ _ hs _ _ => hs)
    ⟨⟨_, bO, by simpa using hrow0.alloc _, hv0⟩, KR.of_below hB0 hR⟩
    (fun x => { tmps := #[.slice A0 k0 c0, .func (.func g) #[] lb, .pointer (some ⟨w.heap.size, 0, none⟩), undef, .slice none 0 0, .int .i64 x, .func (.func g) #[] lb, .int .i64 x, undef, undef, undef, undef, undef], defers := [] }) ?assign ?body ?done ?stop
  case assign =>
    intro l x W K hK
    gi_wp2
    exact hK
  case body =>
    rintro l pre x W ⟨⟨v, hv, hrow, hG⟩, hB⟩ hlt
    have hc := hv.cell
    have hsz := hB.size
    gi_wp2_with (gi_at_builtin; refine wpListIn_append_put _ rfl _ _ rfl lo _ _ _ rfl (hrow.alloc _) ⟨W.heap.size, 0, none⟩ 1 1 [.int .i64 x] rfl rfl (by decide) (cell_one_new _ _ _) (by simp [Value.oneCell']) (by omega) (by simp; omega) ?_; intro v' w1 hown' hgrow hwh; obtain ⟨g', cap', rfl⟩ := ownsRow_succ hown'; obtain ⟨hv1, hv2, hr2, hk2, hb2⟩ := hv.appended (by decide) hrow (Nat.le_trans hlo hsz) hlo hown' hgrow; have hc1 := hv1.cell; have hf1 := hv1.frozen)
    have hRW : ∀ k, R k → k < W.heap.size := fun k hk => Nat.lt_of_lt_of_le (hR k hk) hsz
    have hKR : KR R W (w1.setCell ⟨w.heap.size, 0, none⟩ (.slice (some ⟨g', 0, none⟩) (k0 + pre.length + 1) cap')) :=
      ((KR.of_below ((Below.refl W.heap.size W).alloc (Nat.le_refl _) _) hRW).trans (KR.grown hgrow (fun k hk => by have := hRW k hk; simp; omega) hG)).trans (KR.grown (grownBy_setCell' w1 w.heap.size _) (fun k hk => by have h1 := hRW k hk; have h2 := hgrow.size; simp at h2; omega) (fun j e hj => by cases e; have := hR _ hj; omega))
    refine ⟨hk2, hKR, ⟨_, hv2, ?_, ?_⟩, hB.trans hKR⟩
    · have h := hr2
      rw [show k0 + (pre ++ [x]).length = k0 + pre.length + 1 by simp; omega, show (pre0 ++ (pre ++ [x])).map (Value.int .i64) = (pre0 ++ pre).map (Value.int .i64) ++ [.int .i64 x] by simp]
      exact h
    · intro j hj hRj
      rcases hwh j hj with h | h
      · exact hG j h hRj
      · have := hRW j hRj
        simp at h
        omega
  case done =>
    rintro D ys W hD rfl ⟨⟨v, hv, hrow, _⟩, hB⟩ hK
    have hc := hv.cell
    gi_wp2
    refine ⟨by simp, .inl ⟨_, _, rfl, run_takeDeferred hK, ?_⟩⟩
    exact ⟨_, results_tmp rfl _ _ _, v, rfl, ownsRow_putObj hrow _ hK rfl, hB.trans (KR.grown (grownBy_putObj' W D _) (fun k hk => by have := hR k hk; have := hB.size; omega) (fun j e hj => by cases e; have := hR D hj; simp at hD; omega))⟩
  case stop =>
    rintro D c pre W _ _ h _
    exact h.elim
theorem appendSeqC_any (g : Nat) (lb : Array Value) (eg : ∀ args w, (callFunc g args).run Tryz.prog w = .ok (.enter g args) w) (zs : List Int) (N : Nat) (hN : N ≤ 1000000) (lo k0 c0 : Nat) (A0 : Option Addr) (pre0 : List Int) (R : Nat → Prop) (w : World) (hR : ∀ k, R k → k < w.heap.size) (hlo : lo ≤ w.heap.size) (hrow0 : w.ownsRow lo 2 1 (.slice A0 k0 c0) k0 (pre0.map (Value.int .i64))) (hk0 : k0 ≤ 1000000) (hv0 : ∀ g, (Value.slice A0 k0 c0).ownBlock = some g → ¬ R g)
    (hseq : SeqStopsK Fence.wide 3 Tryz.prog g lb (fun x : Int => #[Value.int .i64 x]) (KR R) (fun ys => ys = zs) (fun _ => True) N w) :
    Calls Tryz.prog 79 #[.slice A0 k0 c0, .func (.func g) #[] lb] w fun e W' => ∃ v, e = .returned v ∧ W'.ownsRow lo 2 1 v (k0 + zs.length) ((pre0 ++ zs).map (Value.int .i64)) ∧ KR R w W' :=
  (callsIn_wide (n := 4)).1 (appendSeqR_any 4 (by omega) g lb eg zs N hN lo k0 c0 A0 pre0 R w hR hlo hrow0 hk0 hv0 hseq)
end Go.Proofs.YtbailpfjgjcbdaaGreatDoor
