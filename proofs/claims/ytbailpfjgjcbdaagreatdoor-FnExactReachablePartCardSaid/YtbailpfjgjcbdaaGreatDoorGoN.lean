/- The goals of edges with a label of any number, as an iterator; what the body of a round keeps is the caller's to say. -/
import Derived.Test.YtbailpfjgjcbdaaGreatDoorGoK
import Derived.Test.YtbailpfjgjcbdaaGreatDoorOu
import Derived.Test.YtbailpfjgjcbdaaGreatDoorSuM
namespace Go.Proofs.YtbailpfjgjcbdaaGreatDoor
open Go.RowKit Go.Shelf
set_option linter.unusedVariables false
set_option linter.unusedSimpArgs false
attribute [local go_sem] Oper.semAt_some
theorem abN_step {J : List Int → World → Prop} {B : Nat} {W W' : World} {s : List Int} (hJ : AbidesFrom B J) (h : J s W) (hg : W.grownBy W' none) : J s W' := hJ s W W' none h hg (fun r e => by cases e)
theorem grN_drewN (n : Nat) (W W' : World) (h : W.grownBy W' none) : W.grownBy (W'.drewN n) none := ⟨h.os, h.tape, h.output, h.size, h.block⟩
theorem grN_alloc (W : World) (o : Obj) : W.grownBy (W.alloc o).drew none := by
  have h := World.grownBy_alloc W o none
  exact ⟨h.os, h.tape, h.output, h.size, h.block⟩
set_option maxRecDepth 100000 in
set_option maxHeartbeats 4000000 in
theorem goals1N_in (n : Nat) (hn : 1 ≤ n) (nl : Int) (x : Lt) (k : Int) (u : ByteArray) (l q n₀ : Nat) (A1 A2 : Option Addr) (c1 c2 : Nat) (S : Nat → Prop) (Kp : World → World → Prop) (hK : KpOK Kp n₀ q S) (J Jx : List Int → World → Prop)
    (hY : ∀ pre y W, J pre W → pre.length < 301 → YieldAt Fence.wide (n - 1) Tryz.prog l #[Value.int .i64 y] W fun e W' =>
      (e = .returned (.bool true) ∧ J (pre ++ [y]) W' ∧ Kp W W') ∨ (e = .returned (.bool false) ∧ Jx (pre ++ [y]) W'))
    (W : World) (hJ : AbidesFrom W.heap.size J) (hn₀ : n₀ ≤ W.heap.size) (y2 : W.cell? ⟨q, 2, none⟩ = some (.slice A1 x.ls.length c1)) (y3 : W.cell? ⟨q, 3, none⟩ = some (.slice A2 x.es.length c2)) (yk : W.cell? ⟨q + 1, 0, none⟩ = some (.int .i64 k)) (yu : W.cell? ⟨q + 2, 0, none⟩ = some (.string u))
    (r1 : LRow txtR W S A1 x.ls) (r2 : LRow edR W S A2 x.es) (tv : ltB x = true) (hlf : ∀ (s : ByteArray) (i : Int), 0 ≤ i → x.ls[i.toNat]? = some s → eqB s u = (i == nl)) (h0 : J [] W) :
    CallsIn Fence.wide n Tryz.prog 90 #[.func (.yield l) #[] #[], .pointer (some ⟨q, 0, none⟩), .pointer (some ⟨q + 1, 0, none⟩), .pointer (some ⟨q + 2, 0, none⟩)] W fun e W' => (∃ v, e = .returned v) ∧
      ((∃ ys, ys = sucE x k nl ∧ J ys W') ∨ (∃ pre, True ∧ Jx pre W')) := by
  have hmx : Tryz.prog.follows .mixedOrders = true := by kernel_rfl
  obtain ⟨_, _, _, hm, _, hin⟩ := ltB_parts tv
  have HIN := Lib.hid (fun (e : Ed) (he : e ∈ x.es) => inE_iff.1 (List.all_eq_true.1 hin e he))
  have HLF := Lib.hid hlf
  have Y := Lib.hid (fun (W' : World) (hW : Kp W W') => (⟨(World.cell?_of_block (a := ⟨q, 2, none⟩) (hK.same hW _ (.inr (.inl rfl)))).trans y2, (World.cell?_of_block (a := ⟨q, 3, none⟩) (hK.same hW _ (.inr (.inl rfl)))).trans y3, (World.cell?_of_block (a := ⟨q + 1, 0, none⟩) (hK.same hW _ (.inr (.inr (.inl rfl))))).trans yk, (World.cell?_of_block (a := ⟨q + 2, 0, none⟩) (hK.same hW _ (.inr (.inr (.inr rfl))))).trans yu⟩ : W'.cell? ⟨q, 2, none⟩ = some (.slice A1 x.ls.length c1) ∧ W'.cell? ⟨q, 3, none⟩ = some (.slice A2 x.es.length c2) ∧ W'.cell? ⟨q + 1, 0, none⟩ = some (.int .i64 k) ∧ W'.cell? ⟨q + 2, 0, none⟩ = some (.string u)))
  have R1 := Lib.hid r1
  have R2 := Lib.hid r2
  have HSO := Lib.hid (fun (W' : World) (hW : Kp W W') => ((fun b _ hb => World.cell?_of_block (hK.same hW b (.inl hb))) : SameOn S W W'))
  have HSZ := Lib.hid (fun (W' : World) (hW : Kp W W') => hK.size hW)
  have HKT := Lib.hid (fun (A B C : World) (h : Kp A B) (h2 : Kp B C) => hK.trans h h2)
  have HKD := Lib.hid (fun (A : World) (h : Kp W A) (ob : Obj) => hK.trans (hK.trans h (hK.alloc A ob (Nat.le_trans hn₀ (hK.size h)))) (hK.drew _))
  have HKQ := Lib.hid (fun (A : World) (h : Kp W A) (ob : Obj) (nq : Nat) => hK.trans (hK.trans h (hK.alloc A ob (Nat.le_trans hn₀ (hK.size h)))) (hK.drewN _ nq))
  have HK0 := Lib.hid (hK.refl W)
  clear hin tv r1 r2 y2 yk yu hlf hK
  refine callsIn_of_wp Tryz.func90 rfl trivial ?_ rfl
  simp only [Tryz.ntmps90, List.size_toArray, List.length_cons, List.length_nil, Nat.reduceAdd, Nat.reduceSub, Array.replicate_succ, Array.replicate_zero, List.push_toArray, List.append_toArray, List.nil_append, List.cons_append]
  gi_wp2
  gi_loopw [10] (fun i wr => ∃ j : Nat, j ≤ x.es.length ∧ i = .int .i64 (j : Int) ∧ Hid (J (sucT x k nl j) wr) ∧ Hid (Kp W wr)) (fun i _ => x.es.length - (intOf i).toNat)
  case atStart => exact ⟨0, Nat.zero_le _, rfl, Lib.hid h0, HK0⟩
  case round =>
    obtain ⟨j, hj, rfl, HJ, HB⟩ := hrel
    have hsz : n₀ ≤ wr.heap.size := Nat.le_trans hn₀ (HSZ.out _ HB.out)
    obtain ⟨z2, z3, zk, zu⟩ := Y.out _ HB.out
    by_cases hlt : j < x.es.length
    · obtain ⟨b, o, cs, v, rfl, hb, hR, hv, hc⟩ := (R2.out.keep (HSO.out _ HB.out)).at_ (k := j) hlt
      have hR : cs = [Value.int .i64 v.f, Value.int .i64 v.l, Value.int .i64 v.t] := hR
      subst hR
      have HV := Lib.hid (HIN.out v (List.mem_of_getElem? hv.out))
      obtain ⟨L, hL⟩ : ∃ L : Nat, v.l = (L : Int) := ⟨v.l.toNat, by have := HV.out.2.1; omega⟩
      have hLl : L < x.ls.length := by have := HV.out.2.1; omega
      obtain ⟨b1, o1, cs1, s, rfl, hb1, hR1, hs1, hc1⟩ := (R1.out.keep (HSO.out _ HB.out)).at_ (k := L) hLl
      obtain ⟨rfl, _⟩ := hR1
      have g0 : wr.cell? ⟨b1, o1 + L, none⟩ = some (.string s) := by have h := hc1 0 _ rfl; simpa [txtR] using h
      have f0 : wr.cell? ⟨b, o + j * 3, none⟩ = some (.int .i64 v.f) := hc 0 _ rfl
      have f1 : wr.cell? ⟨b, o + j * 3 + 1, none⟩ = some (.int .i64 (L : Int)) := by rw [← hL]; exact hc 1 _ rfl
      have f2 : wr.cell? ⟨b, o + j * 3 + 2, none⟩ = some (.int .i64 v.t) := hc 2 _ rfl
      have lb := World.block_lt_of_cell? wr _ f0
      have lb1 := World.block_lt_of_cell? wr _ g0
      have lq2 := World.block_lt_of_cell? wr _ z2
      have lqk := World.block_lt_of_cell? wr _ zk
      have lqu := World.block_lt_of_cell? wr _ zu
      clear hc hc1
      have HLB := Lib.hid (show eqB s u = (v.l == nl) from HLF.out s v.l (by omega) (by rw [hL, Int.toNat_natCast]; exact hs1.out))
      have HJ2 := Lib.hid (fun ob : Obj => abN_step (J := J) (W' := (wr.alloc ob).drew) (fun s A B row h1 h2 h3 => hJ s A B row h1 h2 (fun r e => by have := h3 r e; exact ⟨Nat.le_trans (HSZ.out _ HB.out) this.1, this.2⟩)) HJ.out (grN_alloc wr ob) : ∀ ob : Obj, J (sucT x k nl j) (wr.alloc ob).drew)
      have HB2 := Lib.hid (fun ob : Obj => HKD.out _ HB.out ob)
      have HJQ := Lib.hid (fun (ob : Obj) (nq : Nat) => abN_step (J := J) (W' := (wr.alloc ob).drewN nq) (fun s A B row h1 h2 h3 => hJ s A B row h1 h2 (fun r e => by have := h3 r e; exact ⟨Nat.le_trans (HSZ.out _ HB.out) this.1, this.2⟩)) HJ.out (grN_drewN nq wr _ (World.grownBy_alloc wr ob none)) : ∀ (ob : Obj) (nq : Nat), J (sucT x k nl j) ((wr.alloc ob).drewN nq))
      have HBQ := Lib.hid (fun (ob : Obj) (nq : Nat) => HKQ.out _ HB.out ob nq)
      have HLN := Lib.hid (show (sucT x k nl j).length < 301 by have := sucT_len x k nl j; omega)
      clear hL
      rcases te : (v.f == k) with _ | _
      · have HT := Lib.hid (sucT_no (n := nl) hv.out (show sucP k _ v = false by unfold sucP; rw [te]; rfl))
        gi_wp2
        refine wpIn_region_quiet_lit rfl (by kernel_rfl) (by kernel_rfl) ?_
        repeat (gi_big_quiet_step (fail))
        refine BigFrame.wpQuietIn_skip (fun _ _ _ _ => trivial) rfl ?_; (try simp only [Act.put, List.setIfInBounds_toArray, List.set_cons_zero, List.set_cons_succ])
        repeat (gi_big_quiet_step (fail))
        refine wpQuietIn_nil ?_
        intro _ hw'
        obtain ⟨nq, hw''⟩ := hw'
        subst hw''
        gi_wp2
        go_roundw
        case rel => exact ⟨j + 1, by omega, by go_num, Lib.hid (by rw [HT.out]; exact HJQ.out _ _), Lib.hid (HBQ.out _ _)⟩
        case measure => simp [intOf]; omega
      · rcases tl : eqB s u with _ | _
        · have HT := Lib.hid (sucT_no (n := nl) hv.out (show sucP k _ v = false by unfold sucP; rw [te, ← HLB.out, tl]; rfl))
          have hq : (s.toList == u.toList) = false := tl
          clear tl
          gi_wp2
          refine wpIn_region_quiet_lit rfl (by kernel_rfl) (by kernel_rfl) ?_
          repeat (gi_big_quiet_step (fail))
          refine BigFrame.wpQuietIn_skip (fun _ _ _ _ => trivial) rfl ?_; (try simp only [Act.put, List.setIfInBounds_toArray, List.set_cons_zero, List.set_cons_succ])
          repeat (gi_big_quiet_step (fail))
          refine wpQuietIn_nil ?_
          intro _ hw'
          obtain ⟨nq, hw''⟩ := hw'
          subst hw''
          gi_wp2
          go_roundw
          case rel => exact ⟨j + 1, by omega, by go_num, Lib.hid (by rw [HT.out]; exact HJQ.out _ _), Lib.hid (HBQ.out _ _)⟩
          case measure => simp [intOf]; omega
        · have HT := Lib.hid (sucT_yes (n := nl) hv.out (show sucP k _ v = true by unfold sucP; rw [te, ← HLB.out, tl]; rfl))
          have hq : (s.toList == u.toList) = true := tl
          clear tl
          obtain ⟨fn, tmps, assign, body, hy, hRd⟩ := YieldAt.mono (R' := fun e W' => ∃ r, e = .returned (.bool r) ∧ Hid ((r = true ∧ J (sucT x k nl (j + 1)) W' ∧ Kp W W') ∨ (r = false ∧ Jx (sucT x k nl (j + 1)) W'))) (hY _ v.t _ (HJ2.out (.cells #[.int .i64 v.f, .int .i64 (L : Int), .int .i64 v.t] 79)) HLN.out) (by
            rintro e W3 (⟨rfl, hJ3, hk3⟩ | ⟨rfl, hJx3⟩)
            · exact ⟨true, rfl, Lib.hid (.inl ⟨rfl, by rw [HT.out]; exact hJ3, HKT.out _ _ _ (HB2.out _) hk3⟩)⟩
            · exact ⟨false, rfl, Lib.hid (.inr ⟨rfl, by rw [HT.out]; exact hJx3⟩)⟩)
          clear hY
          gi_wp2
          gi_region_with_o (refine hRd.mono ?_; clear hRd; rintro e W3 ⟨r, rfl, hEnd⟩)
          all_goals
            rcases hEnd.out with ⟨rfl, hJ3, hb3⟩ | ⟨rfl, hx⟩
            · gi_wp2
              go_roundw
              case rel => exact ⟨j + 1, by omega, by go_num, Lib.hid hJ3, Lib.hid hb3⟩
              case measure => simp [intOf]; omega
            · gi_wp2
              refine bodyPost_ret (results_none rfl _ _ _) rfl ?_
              first | exact ⟨⟨_, rfl⟩, .inr ⟨_, hx⟩⟩ | exact ⟨⟨_, rfl⟩, .inr ⟨_, trivial, hx⟩⟩
    · have HE := Lib.hid (sucT_all (k := k) (n := nl) (show x.es.length ≤ j by omega))
      gi_wp2
      go_end0
      exact ⟨⟨_, rfl⟩, .inl ⟨_, HE.out, HJ.out⟩⟩
set_option maxRecDepth 100000 in
set_option maxHeartbeats 2000000 in
theorem goalsN_any (x : Lt) (k : Int) (u : ByteArray) (A1 A2 : Option Addr) (c1 c2 : Nat) (w : World) :
    Calls Tryz.prog 65 #[ltCells x A1 A2 c1 c2, .int .i64 k, .string u] w fun e w' => e = .returned (.func (.func 90) #[] #[.pointer (some ⟨w.heap.size, 0, none⟩), .pointer (some ⟨w.heap.size + 1, 0, none⟩), .pointer (some ⟨w.heap.size + 2, 0, none⟩)]) ∧
      w'.heap.size = w.heap.size + 3 ∧ Below w.heap.size w w' ∧ w'.cell? ⟨w.heap.size, 2, none⟩ = some (.slice A1 x.ls.length c1) ∧ w'.cell? ⟨w.heap.size, 3, none⟩ = some (.slice A2 x.es.length c2) ∧ w'.cell? ⟨w.heap.size + 1, 0, none⟩ = some (.int .i64 k) ∧ w'.cell? ⟨w.heap.size + 2, 0, none⟩ = some (.string u) := by
  have HB := Lib.hid (fun o1 o2 o3 : Obj => (((Below.refl w.heap.size w).alloc (Nat.le_refl _) o1).alloc (by simp) o2).alloc (by simp; omega) o3)
  go_enter Tryz.func65, Tryz.ntmps65
  go_wp2
  go_ret
  exact ⟨rfl, by simp, HB.out _ _ _, by simp [go_sem], by simp [go_sem], by simp [go_sem], by simp [go_sem]⟩
theorem goalsN_stops (nl : Int) (x : Lt) (k : Int) (u : ByteArray) (q : Nat) (A1 A2 : Option Addr) (c1 c2 : Nat) (w : World) (S : Nat → Prop) (Kp : World → World → Prop) (n₀ : Nat) (hK : KpOK Kp n₀ q S) (hn₀ : n₀ ≤ w.heap.size) (hqw : q + 2 < w.heap.size) (y2 : w.cell? ⟨q, 2, none⟩ = some (.slice A1 x.ls.length c1)) (y3 : w.cell? ⟨q, 3, none⟩ = some (.slice A2 x.es.length c2)) (yk : w.cell? ⟨q + 1, 0, none⟩ = some (.int .i64 k)) (yu : w.cell? ⟨q + 2, 0, none⟩ = some (.string u))
    (r1 : LRow txtR w S A1 x.ls) (r2 : LRow edR w S A2 x.es) (hS : ∀ b, S b → b < w.heap.size) (tv : ltB x = true) (hlf : ∀ (s : ByteArray) (i : Int), 0 ≤ i → x.ls[i.toNat]? = some s → eqB s u = (i == nl)) :
    SeqStopsK Fence.wide 3 Tryz.prog 90 #[.pointer (some ⟨q, 0, none⟩), .pointer (some ⟨q + 1, 0, none⟩), .pointer (some ⟨q + 2, 0, none⟩)] (fun y : Int => #[Value.int .i64 y]) Kp (fun ys => ys = sucE x k nl) (fun _ => True) 301 w :=
  fun l J Jx W hW hJ _ hY h0 => goals1N_in 3 (by omega) nl x k u l q n₀ A1 A2 c1 c2 S Kp hK J Jx hY W hJ (Nat.le_trans hn₀ hW.size) ((hW.cell (p := ⟨q, 2, none⟩) (by show q < _; omega)).trans y2) ((hW.cell (p := ⟨q, 3, none⟩) (by show q < _; omega)).trans y3) ((hW.cell (p := ⟨q + 1, 0, none⟩) (by show q + 1 < _; omega)).trans yk) ((hW.cell (p := ⟨q + 2, 0, none⟩) (by show q + 2 < _; omega)).trans yu)
    (r1.keep (SameOn.of_below hW hS)) (r2.keep (SameOn.of_below hW hS)) tv hlf h0
end Go.Proofs.YtbailpfjgjcbdaaGreatDoor
