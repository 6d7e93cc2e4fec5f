/- Successors by a label: the program. -/
import Derived.Test.YthbnfjedjijacaaGreatDoorApS
import Derived.Test.YthbnfjedjijacaaGreatDoorOu
import Derived.Test.YthbnfjedjijacaaGreatDoorSuS
namespace Go.Proofs.YthbnfjedjijacaaGreatDoor
open Go.RowKit Go.Shelf
set_option linter.unusedVariables false
set_option linter.unusedSimpArgs false
set_option maxRecDepth 100000 in
set_option maxHeartbeats 4000000 in
theorem idxStr_any (A : Option Addr) (n c : Nat) (ls : List ByteArray) (u : ByteArray) (w : World) (S : Nat → Prop) (h : LRow txtR w S A ls) (l : ls.length = n) (m : n ≤ 1048576) (hS : ∀ b, S b → b < w.heap.size) :
    Calls Tryz.prog 81 #[.slice A n c, .string u] w fun e w' => e = .returned (.int .i64 (fndI ls u)) ∧ Below w.heap.size w w' := by
  have HR := Lib.hid h
  have HS := Lib.hid hS
  have L := Lib.hid l
  clear h hS l
  go_enter Tryz.func81, Tryz.ntmps81
  go_wp2
  go_loopw [8] (fun i wr => ∃ j : Nat, j ≤ n ∧ i = .int .i64 (j : Int) ∧ Hid (Below w.heap.size w wr) ∧ Hid ((ls.take j).all (fun s => !(eqB s u)) = true)) (fun i _ => n - (intOf i).toNat)
  case atStart => exact ⟨0, Nat.zero_le _, rfl, Lib.hid (Below.refl _ _), Lib.hid rfl⟩
  case round =>
    obtain ⟨j, hj, rfl, HB, HE⟩ := hrel
    by_cases hlt : j < n
    · obtain ⟨b, o, cs, s, rfl, hb, hR, hs, hc⟩ := (HR.out.keep (SameOn.of_below HB.out HS.out)).at_ (k := j) (by rw [L.out]; exact hlt)
      obtain ⟨rfl, _⟩ := hR
      have f0 : wr.cell? ⟨b, o + j, none⟩ = some (.string s) := by have h := hc 0 _ rfl; simpa [txtR] using h
      have lb := World.block_lt_of_cell? wr _ f0
      clear hc
      rcases te : eqB s u with _ | _
      · have HN := Lib.hid (all_take_next (p := fun s => !(eqB s u)) HE.out hs.out (by rw [te]; rfl))
        have hq : (u.toList == s.toList) = false := by rw [Bool.eq_false_iff]; intro e; unfold eqB at te; rw [beq_iff_eq] at e; rw [e] at te; simp at te
        clear te
        go_wp2
        go_roundw
        case rel => exact ⟨j + 1, by omega, by go_num, HB, HN⟩
        case measure => simp [intOf]; omega
      · have HF := Lib.hid (show fndI ls u = (j : Int) by rw [fndI_yes (hasU_hit hs.out te), fndN_hit HE.out hs.out te])
        have hq : (u.toList == s.toList) = true := by unfold eqB at te; rw [beq_iff_eq] at te ⊢; exact te.symm
        clear te
        go_wp2
        go_ret
        exact ⟨by rw [HF.out]; rfl, HB.out⟩
    · have HF := Lib.hid (show fndI ls u = -1 from fndI_no (hasU_none (by
        have ht := HE.out
        rwa [List.take_of_length_le (by rw [L.out]; omega)] at ht)))
      go_wp2
      go_ret
      exact ⟨by rw [HF.out]; rfl, HB.out⟩
theorem fndI_ge (ls : List ByteArray) (u : ByteArray) : (decide (fndI ls u ≥ 0)) = hasU ls u := by
  rcases h : hasU ls u with _ | _
  · rw [fndI_no h]; decide
  · rw [fndI_yes h]; exact decide_eq_true (by omega)
set_option maxRecDepth 100000 in
theorem conStr_any (A : Option Addr) (n c : Nat) (ls : List ByteArray) (u : ByteArray) (w : World) (S : Nat → Prop) (h : LRow txtR w S A ls) (l : ls.length = n) (m : n ≤ 1048576) (hS : ∀ b, S b → b < w.heap.size) :
    Calls Tryz.prog 54 #[.slice A n c, .string u] w fun e w' => e = .returned (.bool (hasU ls u)) ∧ Below w.heap.size w w' := by
  have C := Lib.hid (idxStr_any A n c ls u w S h l m hS)
  have HD := Lib.hid (fndI_ge ls u)
  clear h l m hS
  obtain ⟨r, hr⟩ : ∃ r, fndI ls u = r := ⟨_, rfl⟩
  rw [hr] at C HD
  clear hr
  go_enter Tryz.func54, Tryz.ntmps54
  go_wp2_with (go_at_call 81; refine (C.out).mono ?_; rintro e w' ⟨rfl, hb⟩; have HB := Lib.hid hb; clear hb)
  go_ret
  exact ⟨by rw [← HD.out]; rfl, HB.out⟩
attribute [local go_sem] Oper.semAt_some
theorem ab_step {J : List Int → World → Prop} {B : Nat} {W W' : World} {s : List Int} (hJ : AbidesFrom B J) (h : J s W) (hg : W.grownBy W' none) : J s W' := hJ s W W' none h hg (fun r e => by cases e)
theorem gr_drewN (n : Nat) (W W' : World) (h : W.grownBy W' none) : W.grownBy (W'.drewN n) none := ⟨h.os, h.tape, h.output, h.size, h.block⟩
theorem gr_alloc (W : World) (o : Obj) : W.grownBy (W.alloc o).drew none := by
  have h := World.grownBy_alloc W o none
  exact ⟨h.os, h.tape, h.output, h.size, h.block⟩
set_option maxRecDepth 100000 in
set_option maxHeartbeats 4000000 in
theorem goals1_in (n : Nat) (hn : 1 ≤ n) (x : Lt) (k : Int) (u : ByteArray) (l q n₀ : Nat) (A1 A2 : Option Addr) (c1 c2 : Nat) (S : Nat → Prop) (J Jx : List Int → World → Prop)
    (hY : ∀ pre y W, J pre W → pre.length < 301 → YieldAt Fence.wide (n - 1) Tryz.prog l #[Value.int .i64 y] W fun e W' =>
      (e = .returned (.bool true) ∧ J (pre ++ [y]) W' ∧ Below n₀ W W') ∨ (e = .returned (.bool false) ∧ Jx (pre ++ [y]) W'))
    (W : World) (hJ : AbidesFrom W.heap.size J) (hn₀ : n₀ ≤ W.heap.size) (hq : q + 2 < n₀) (y2 : W.cell? ⟨q, 2, none⟩ = some (.slice A1 x.ls.length c1)) (y3 : W.cell? ⟨q, 3, none⟩ = some (.slice A2 x.es.length c2)) (yk : W.cell? ⟨q + 1, 0, none⟩ = some (.int .i64 k)) (yu : W.cell? ⟨q + 2, 0, none⟩ = some (.string u))
    (r1 : LRow txtR W S A1 x.ls) (r2 : LRow edR W S A2 x.es) (hS : ∀ b, S b → b < n₀) (tv : ltB x = true) (tu : hasU x.ls u = true) (h0 : J [] W) :
    CallsIn Fence.wide n Tryz.prog 83 #[.func (.yield l) #[] #[], .pointer (some ⟨q, 0, none⟩), .pointer (some ⟨q + 1, 0, none⟩), .pointer (some ⟨q + 2, 0, none⟩)] W fun e W' => (∃ v, e = .returned v) ∧
      ((∃ ys, ys = sucE x k (fndN x.ls u) ∧ J ys W') ∨ (∃ pre, True ∧ Jx pre W')) := by
  have hmx : Tryz.prog.follows .mixedOrders = true := by kernel_rfl
  obtain ⟨_, _, _, hm, _, hin⟩ := ltB_parts tv
  have HIN := Lib.hid (fun (e : Ed) (he : e ∈ x.es) => inE_iff.1 (List.all_eq_true.1 hin e he))
  have HLF := Lib.hid (fun (s : ByteArray) (i : Int) (h0 : 0 ≤ i) (hs : x.ls[i.toNat]? = some s) => lab_fnd tv tu h0 hs)
  have Y := Lib.hid (fun (W' : World) (hW : Below n₀ W W') => (⟨(hW.cell (p := ⟨q, 2, none⟩) (by show q < n₀; omega)).trans y2, (hW.cell (p := ⟨q, 3, none⟩) (by show q < n₀; omega)).trans y3, (hW.cell (p := ⟨q + 1, 0, none⟩) (by show q + 1 < n₀; omega)).trans yk, (hW.cell (p := ⟨q + 2, 0, none⟩) (by show q + 2 < n₀; omega)).trans yu⟩ : W'.cell? ⟨q, 2, none⟩ = some (.slice A1 x.ls.length c1) ∧ W'.cell? ⟨q, 3, none⟩ = some (.slice A2 x.es.length c2) ∧ W'.cell? ⟨q + 1, 0, none⟩ = some (.int .i64 k) ∧ W'.cell? ⟨q + 2, 0, none⟩ = some (.string u)))
  have R1 := Lib.hid r1
  have R2 := Lib.hid r2
  have HS := Lib.hid hS
  clear hin tv r1 r2 hS y2 yk yu tu
  refine callsIn_of_wp Tryz.func83 rfl trivial ?_ rfl
  simp only [Tryz.ntmps83, List.size_toArray, List.length_cons, List.length_nil, Nat.reduceAdd, Nat.reduceSub, Array.replicate_succ, Array.replicate_zero, List.push_toArray, List.append_toArray, List.nil_append, List.cons_append]
  gi_wp2
  gi_loopw [10] (fun i wr => ∃ j : Nat, j ≤ x.es.length ∧ i = .int .i64 (j : Int) ∧ Hid (J (sucT x k (fndN x.ls u) j) wr) ∧ Hid (Below n₀ W wr)) (fun i _ => x.es.length - (intOf i).toNat)
  case atStart => exact ⟨0, Nat.zero_le _, rfl, Lib.hid h0, Lib.hid (Below.refl _ _)⟩
  case round =>
    obtain ⟨j, hj, rfl, HJ, HB⟩ := hrel
    have hsz : n₀ ≤ wr.heap.size := Nat.le_trans hn₀ HB.out.size
    obtain ⟨z2, z3, zk, zu⟩ := Y.out _ HB.out
    by_cases hlt : j < x.es.length
    · obtain ⟨b, o, cs, v, rfl, hb, hR, hv, hc⟩ := (R2.out.keep (SameOn.of_below HB.out HS.out)).at_ (k := j) hlt
      have hR : cs = [Value.int .i64 v.f, Value.int .i64 v.l, Value.int .i64 v.t] := hR
      subst hR
      have HV := Lib.hid (HIN.out v (List.mem_of_getElem? hv.out))
      obtain ⟨L, hL⟩ : ∃ L : Nat, v.l = (L : Int) := ⟨v.l.toNat, by have := HV.out.2.1; omega⟩
      have hLl : L < x.ls.length := by have := HV.out.2.1; omega
      obtain ⟨b1, o1, cs1, s, rfl, hb1, hR1, hs1, hc1⟩ := (R1.out.keep (SameOn.of_below HB.out HS.out)).at_ (k := L) hLl
      obtain ⟨rfl, _⟩ := hR1
      have g0 : wr.cell? ⟨b1, o1 + L, none⟩ = some (.string s) := by have h := hc1 0 _ rfl; simpa [txtR] using h
      have f0 : wr.cell? ⟨b, o + j * 3, none⟩ = some (.int .i64 v.f) := hc 0 _ rfl
      have f1 : wr.cell? ⟨b, o + j * 3 + 1, none⟩ = some (.int .i64 (L : Int)) := by rw [← hL]; exact hc 1 _ rfl
      have f2 : wr.cell? ⟨b, o + j * 3 + 2, none⟩ = some (.int .i64 v.t) := hc 2 _ rfl
      have lb := World.block_lt_of_cell? wr _ f0
      have lb1 := World.block_lt_of_cell? wr _ g0
      have lq2 := World.block_lt_of_cell? wr _ z2
      have lqk := World.block_lt_of_cell? wr _ zk
      have lqu := World.block_lt_of_cell? wr _ zu
      clear hc hc1
      have HLB := Lib.hid (show eqB s u = (v.l == ((fndN x.ls u : Nat) : Int)) from HLF.out s v.l (by omega) (by rw [hL, Int.toNat_natCast]; exact hs1.out))
      have HJ2 := Lib.hid (fun ob : Obj => ab_step (J := J) (W' := (wr.alloc ob).drew) (fun s A B row h1 h2 h3 => hJ s A B row h1 h2 (fun r e => by have := h3 r e; exact ⟨Nat.le_trans HB.out.size this.1, this.2⟩)) HJ.out (gr_alloc wr ob) : ∀ ob : Obj, J (sucT x k (fndN x.ls u) j) (wr.alloc ob).drew)
      have HB2 := Lib.hid (fun ob : Obj => (HB.out.alloc hsz ob).drew)
      have HJQ := Lib.hid (fun (ob : Obj) (nq : Nat) => ab_step (J := J) (W' := (wr.alloc ob).drewN nq) (fun s A B row h1 h2 h3 => hJ s A B row h1 h2 (fun r e => by have := h3 r e; exact ⟨Nat.le_trans HB.out.size this.1, this.2⟩)) HJ.out (gr_drewN nq wr _ (World.grownBy_alloc wr ob none)) : ∀ (ob : Obj) (nq : Nat), J (sucT x k (fndN x.ls u) j) ((wr.alloc ob).drewN nq))
      have HBQ := Lib.hid (fun (ob : Obj) (nq : Nat) => (HB.out.alloc hsz ob).trans (below_drewN _ _ nq))
      have HLN := Lib.hid (show (sucT x k (fndN x.ls u) j).length < 301 by have := sucT_len x k ((fndN x.ls u : Nat) : Int) j; omega)
      clear hL
      rcases te : (v.f == k) with _ | _
      · have HT := Lib.hid (sucT_no (n := ((fndN x.ls u : Nat) : Int)) hv.out (show sucP k _ v = false by unfold sucP; rw [te]; rfl))
        gi_wp2
        refine wpIn_region_quiet_lit rfl (by kernel_rfl) (by kernel_rfl) ?_
        repeat (gi_big_quiet_step (fail))
        refine BigFrame.wpQuietIn_skip (fun _ _ _ _ => trivial) rfl ?_; (try simp only [Act.put, List.setIfInBounds_toArray, List.set_cons_zero, List.set_cons_succ])
        repeat (gi_big_quiet_step (fail))
        refine wpQuietIn_nil ?_
        intro _ hw'
        obtain ⟨nq, hw''⟩ := hw'
        subst hw''
        gi_wp2
        go_roundw
        case rel => exact ⟨j + 1, by omega, by go_num, Lib.hid (by rw [HT.out]; exact HJQ.out _ _), Lib.hid (HBQ.out _ _)⟩
        case measure => simp [intOf]; omega
      · rcases tl : eqB s u with _ | _
        · have HT := Lib.hid (sucT_no (n := ((fndN x.ls u : Nat) : Int)) hv.out (show sucP k _ v = false by unfold sucP; rw [te, ← HLB.out, tl]; rfl))
          have hq : (s.toList == u.toList) = false := tl
          clear tl
          gi_wp2
          refine wpIn_region_quiet_lit rfl (by kernel_rfl) (by kernel_rfl) ?_
          repeat (gi_big_quiet_step (fail))
          refine BigFrame.wpQuietIn_skip (fun _ _ _ _ => trivial) rfl ?_; (try simp only [Act.put, List.setIfInBounds_toArray, List.set_cons_zero, List.set_cons_succ])
          repeat (gi_big_quiet_step (fail))
          refine wpQuietIn_nil ?_
          intro _ hw'
          obtain ⟨nq, hw''⟩ := hw'
          subst hw''
          gi_wp2
          go_roundw
          case rel => exact ⟨j + 1, by omega, by go_num, Lib.hid (by rw [HT.out]; exact HJQ.out _ _), Lib.hid (HBQ.out _ _)⟩
          case measure => simp [intOf]; omega
        · have HT := Lib.hid (sucT_yes (n := ((fndN x.ls u : Nat) : Int)) hv.out (show sucP k _ v = true by unfold sucP; rw [te, ← HLB.out, tl]; rfl))
          have hq : (s.toList == u.toList) = true := tl
          clear tl
          obtain ⟨fn, tmps, assign, body, hy, hRd⟩ := YieldAt.mono (R' := fun e W' => ∃ r, e = .returned (.bool r) ∧ Hid ((r = true ∧ J (sucT x k (fndN x.ls u) (j + 1)) W' ∧ Below n₀ W W') ∨ (r = false ∧ Jx (sucT x k (fndN x.ls u) (j + 1)) W'))) (hY _ v.t _ (HJ2.out (.cells #[.int .i64 v.f, .int .i64 (L : Int), .int .i64 v.t] 66)) HLN.out) (by
            rintro e W3 (⟨rfl, hJ3, hk3⟩ | ⟨rfl, hJx3⟩)
            · exact ⟨true, rfl, Lib.hid (.inl ⟨rfl, by rw [HT.out]; exact hJ3, (HB2.out _).trans hk3⟩)⟩
            · exact ⟨false, rfl, Lib.hid (.inr ⟨rfl, by rw [HT.out]; exact hJx3⟩)⟩)
          clear hY
          gi_wp2
          gi_region_with_o (refine hRd.mono ?_; clear hRd; rintro e W3 ⟨r, rfl, hEnd⟩)
          all_goals
            rcases hEnd.out with ⟨rfl, hJ3, hb3⟩ | ⟨rfl, hx⟩
            · gi_wp2
              go_roundw
              case rel => exact ⟨j + 1, by omega, by go_num, Lib.hid hJ3, Lib.hid hb3⟩
              case measure => simp [intOf]; omega
            · gi_wp2
              refine bodyPost_ret (results_none rfl _ _ _) rfl ?_
              first | exact ⟨⟨_, rfl⟩, .inr ⟨_, hx⟩⟩ | exact ⟨⟨_, rfl⟩, .inr ⟨_, trivial, hx⟩⟩
    · have HE := Lib.hid (sucT_all (k := k) (n := ((fndN x.ls u : Nat) : Int)) (show x.es.length ≤ j by omega))
      gi_wp2
      go_end0
      exact ⟨⟨_, rfl⟩, .inl ⟨_, HE.out, HJ.out⟩⟩
set_option maxRecDepth 100000 in
set_option maxHeartbeats 2000000 in
theorem goals_any (x : Lt) (k : Int) (u : ByteArray) (A1 A2 : Option Addr) (c1 c2 : Nat) (w : World) :
    Calls Tryz.prog 56 #[ltCells x A1 A2 c1 c2, .int .i64 k, .string u] w fun e w' => e = .returned (.func (.func 83) #[] #[.pointer (some ⟨w.heap.size, 0, none⟩), .pointer (some ⟨w.heap.size + 1, 0, none⟩), .pointer (some ⟨w.heap.size + 2, 0, none⟩)]) ∧
      w'.heap.size = w.heap.size + 3 ∧ Below w.heap.size w w' ∧ w'.cell? ⟨w.heap.size, 2, none⟩ = some (.slice A1 x.ls.length c1) ∧ w'.cell? ⟨w.heap.size, 3, none⟩ = some (.slice A2 x.es.length c2) ∧ w'.cell? ⟨w.heap.size + 1, 0, none⟩ = some (.int .i64 k) ∧ w'.cell? ⟨w.heap.size + 2, 0, none⟩ = some (.string u) := by
  have HB := Lib.hid (fun o1 o2 o3 : Obj => (((Below.refl w.heap.size w).alloc (Nat.le_refl _) o1).alloc (by simp) o2).alloc (by simp; omega) o3)
  go_enter Tryz.func56, Tryz.ntmps56
  go_wp2
  go_ret
  exact ⟨rfl, by simp, HB.out _ _ _, by simp [go_sem], by simp [go_sem], by simp [go_sem], by simp [go_sem]⟩
theorem goals_stops (x : Lt) (k : Int) (u : ByteArray) (q : Nat) (A1 A2 : Option Addr) (c1 c2 : Nat) (w : World) (S : Nat → Prop) (hq : q + 3 = w.heap.size) (y2 : w.cell? ⟨q, 2, none⟩ = some (.slice A1 x.ls.length c1)) (y3 : w.cell? ⟨q, 3, none⟩ = some (.slice A2 x.es.length c2)) (yk : w.cell? ⟨q + 1, 0, none⟩ = some (.int .i64 k)) (yu : w.cell? ⟨q + 2, 0, none⟩ = some (.string u))
    (r1 : LRow txtR w S A1 x.ls) (r2 : LRow edR w S A2 x.es) (hS : ∀ b, S b → b < w.heap.size) (tv : ltB x = true) (tu : hasU x.ls u = true) :
    SeqStopsK Fence.wide 3 Tryz.prog 83 #[.pointer (some ⟨q, 0, none⟩), .pointer (some ⟨q + 1, 0, none⟩), .pointer (some ⟨q + 2, 0, none⟩)] (fun y : Int => #[Value.int .i64 y]) (Below w.heap.size) (fun ys => ys = sucE x k (fndN x.ls u)) (fun _ => True) 301 w :=
  fun l J Jx W hW hJ _ hY h0 => goals1_in 3 (by omega) x k u l q w.heap.size A1 A2 c1 c2 S J Jx hY W hJ hW.size (by omega) ((hW.cell (p := ⟨q, 2, none⟩) (by show q < _; omega)).trans y2) ((hW.cell (p := ⟨q, 3, none⟩) (by show q < _; omega)).trans y3) ((hW.cell (p := ⟨q + 1, 0, none⟩) (by show q + 1 < _; omega)).trans yk) ((hW.cell (p := ⟨q + 2, 0, none⟩) (by show q + 2 < _; omega)).trans yu)
    (r1.keep (SameOn.of_below hW hS)) (r2.keep (SameOn.of_below hW hS)) hS tv tu h0
set_option maxRecDepth 100000 in
set_option maxHeartbeats 2000000 in
theorem implSuc_any {x : Lt} {cs : List Value} {k : Int} {u : ByteArray} {w : World} {S : Nat → Prop} (h : ltR.R w S x cs) (hS : ∀ b, S b → b < w.heap.size) (ok : okLt x) (ht : TxtTabs w) :
    Calls Tryz.prog 21 #[.agg cs.toArray, .int .i64 k, .string u] w fun e w' => ∃ A c, e = .returned (.tuple #[.slice A (sucR x k u).length c, .int .i64 (sucC x k u)]) ∧ OL intO 2 w' (In w.heap.size w'.heap.size) A (sucR x k u).length c (sucR x k u) ∧ Below w.heap.size w w' := by
  obtain ⟨A1, c1, A2, c2, rfl, ⟨m1, m3, r1⟩, ⟨m2, m4, r2⟩⟩ := h
  have HB := Lib.hid (fun o : Obj => (Below.refl w.heap.size w).alloc (Nat.le_refl _) o)
  have CF := Lib.hid (fun (W : World) (hW : Below w.heap.size w W) => stateFault_any x k A1 A2 c1 c2 W S (r1.keep (SameOn.of_below hW hS)) (r2.keep (SameOn.of_below hW hS)) (fun b hb => Nat.lt_of_lt_of_le (hS b hb) hW.size) ok (ht.below hW))
  have CC := Lib.hid (fun (W : World) (hW : Below w.heap.size w W) => conStr_any A1 _ c1 x.ls u W S (r1.keep (SameOn.of_below hW hS)) rfl ok.1.1 (fun b hb => Nat.lt_of_lt_of_le (hS b hb) hW.size))
  have CG := Lib.hid (fun (W : World) => goals_any x k u A1 A2 c1 c2 W)
  have CS := Lib.hid (fun (tv : ltB x = true) (tu : hasU x.ls u = true) (q : Nat) (W : World) (hW : Below w.heap.size w W) (hq : q + 3 = W.heap.size) y2 y3 yk yu => collect_any 83 _ (enters_of Tryz.func83 (by kernel_rfl) rfl) _ 301 (by omega) W (goals_stops x k u q A1 A2 c1 c2 W S hq y2 y3 yk yu (r1.keep (SameOn.of_below hW hS)) (r2.keep (SameOn.of_below hW hS)) (fun b hb => Nat.lt_of_lt_of_le (hS b hb) hW.size) tv tu))
  clear r1 r2 hS ok ht
  go_enter Tryz.func21, Tryz.ntmps21
  go_wp2_with fail
  refine (CF.out _ (HB.out _)).mono ?_
  rintro e w2 ⟨rfl, hb2⟩
  have hs2 := hb2.size
  simp at hs2
  obtain ⟨hcc, _⟩ := bcell hb2
  have HB2 := Lib.hid ((HB.out _).trans (hb2.mono (HB.out _).size))
  have y0 : w2.cell? ⟨w.heap.size, 0, none⟩ = some (.int .i64 x.st) := (hcc _ _ (by simp)).trans (by simp [go_sem])
  have y1 : w2.cell? ⟨w.heap.size, 1, none⟩ = some (.int .i64 x.ini) := (hcc _ _ (by simp)).trans (by simp [go_sem])
  have y2 : w2.cell? ⟨w.heap.size, 2, none⟩ = some (.slice A1 x.ls.length c1) := (hcc _ _ (by simp)).trans (by simp [go_sem])
  have y3 : w2.cell? ⟨w.heap.size, 3, none⟩ = some (.slice A2 x.es.length c2) := (hcc _ _ (by simp)).trans (by simp [go_sem])
  have hpb : w.heap.size < w2.heap.size := by omega
  clear hb2 hcc hs2
  by_cases hc : stC x k = 0
  · have hne : (stC x k != 0) = false := by simp [hc]
    have HC := Lib.hid hc
    have C2 := Lib.hid (CC.out w2 HB2.out)
    clear hc
    rcases tu : hasU x.ls u with _ | _
    · have HF := Lib.hid (sucC_no HC.out tu)
      have HG := Lib.hid (sucR_no (x := x) (k := k) (u := u) (by rw [HF.out]; decide))
      rw [tu] at C2
      clear tu CS
      go_wp2_with (go_at_call 54; refine (C2.out).mono ?_; rintro e w3 ⟨rfl, hb3⟩; have HB3 := Lib.hid (HB2.out.trans (hb3.mono HB2.out.size)); clear hb3)
      go_ret2
      exact ⟨none, 0, by rw [HF.out, HG.out]; rfl, by rw [HG.out]; exact OL.nil, HB3.out⟩
    · have HF := Lib.hid (sucC_ok HC.out tu)
      have HG := Lib.hid (sucR_ok HF.out)
      have CS2 := Lib.hid (CS.out (stC_parts HC.out).1 tu)
      rw [tu] at C2
      clear tu CS
      obtain ⟨zs, hzs⟩ : ∃ zs, sucE x k (fndN x.ls u) = zs := ⟨_, rfl⟩
      rw [hzs] at CS2 HG
      clear hzs
      go_wp2_with (first
        | (go_at_call 54; refine (C2.out).mono ?_; rintro e w3 ⟨rfl, hb3⟩; have HB3 := Lib.hid (HB2.out.trans (hb3.mono HB2.out.size)); have z0 := (hb3.cell (p := ⟨w.heap.size, 0, none⟩) hpb).trans y0; have z1 := (hb3.cell (p := ⟨w.heap.size, 1, none⟩) hpb).trans y1; have z2 := (hb3.cell (p := ⟨w.heap.size, 2, none⟩) hpb).trans y2; have z3 := (hb3.cell (p := ⟨w.heap.size, 3, none⟩) hpb).trans y3; have hpb3 := Nat.lt_of_lt_of_le hpb hb3.size; have CG3 := Lib.hid (CG.out w3); clear hb3)
        | (go_at_call 56; refine (CG3.out).mono ?_; rintro e w4 ⟨rfl, hs4, hb4, q2, q3, qk, qu⟩; have HB4 := Lib.hid (HB3.out.trans (hb4.mono HB3.out.size)); have C4 := Lib.hid (CS2.out w3.heap.size w4 HB4.out hs4.symm q2 q3 qk qu); clear hs4 hb4 q2 q3 qk qu)
        | (go_at_call 55; refine (C4.out).mono ?_; rintro e w5 ⟨v, rfl, hrow, hb5⟩; have HB5 := Lib.hid (HB4.out.trans (hb5.mono HB4.out.size)); have HS4 := Lib.hid HB4.out.size; obtain ⟨A, c, rfl⟩ := own_slice hrow; have HO := Lib.hid ((ol_int hrow rfl).more (S' := In w.heap.size w5.heap.size) (fun b hb => ⟨Nat.le_trans HS4.out hb.1, hb.2⟩)); clear hb5 hrow))
      go_ret2
      exact ⟨A, c, by (rw [HG.out, HF.out]; rfl), by rw [HG.out]; exact HO.out, HB5.out⟩
  · have hne : (stC x k != 0) = true := by simp [hc]
    have HF := Lib.hid (sucC_st (u := u) hc)
    have HG := Lib.hid (sucR_no (x := x) (k := k) (u := u) (by rw [HF.out]; exact hc))
    clear hc CS
    go_wp2
    go_ret2
    exact ⟨none, 0, by rw [HF.out, HG.out]; rfl, by rw [HG.out]; exact OL.nil, HB2.out⟩
theorem ok_sucR {x : Lt} {k : Int} {u : ByteArray} (ok : okLt x) : okList okAny (sucR x k u) := ⟨by have h := sucR_len x k u; have := ok.2.1; omega, fun _ _ => trivial⟩
theorem cnt_sucR {x : Lt} {k : Int} {u : ByteArray} (ok : okLt x) : cntL intM (sucR x k u) ≤ 100000000 := by
  have h1 := cnt_int (sucR x k u)
  have h2 := wL_z (sucR x k u)
  have h3 := sucR_len x k u
  have h4 := ok.2.1
  omega
end Go.Proofs.YthbnfjedjijacaaGreatDoor
