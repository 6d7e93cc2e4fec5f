/- Bodies in their places: what the program hands back. -/
import Derived.Test.YthinoagdgbnphaaDoorPxH
import Derived.Laws.EntriesVeiled
namespace Go.Proofs.YthinoagdgbnphaaDoor
open Go.RowKit
/-- 'make([]T, 0, n)': one new block. -/
theorem wpList_make_own1 {P : Program} (w : World) {ops : Array Oper} {rest : List Oper} {o : Oper} {a : Act} {Q : Exit → Act → World → Prop}
    (hg : o.guard = none) (l c : Operand) (t : TypeId) (hop : o.op = Op.makeSlice t l c)
    (base : Nat) (e : TypeId) (i : TypeInfo) (z : Value) (size : Nat) (h1 : P.underlying t = some (.slice e)) (h2 : P.info? e = some i) (h3 : i.zero = some z) (h4 : i.size = size)
    (kl kc : IntKind) (C : Int) (n : Nat) (hl : a.eval l = .int kl 0) (hc : a.eval c = .int kc C) (hC : C = (n : Int)) (b2 : i.bytes * n ≤ 281474976710656) (b3 : n ≤ maxLen) (b4 : base ≤ w.heap.size)
    (hK : ∀ w', w'.ownsRow base e size (.slice (some ⟨w.heap.size, 0, none⟩) 0 n) 0 [] → w.grownBy w' none → w'.heap.size = w.heap.size + 1 → wpList P ops Q rest (a.put o.dst (.slice (some ⟨w.heap.size, 0, none⟩) 0 n)) w') :
    wpList P ops Q (o :: rest) a w := by
  refine wpList_plain hg fun K hK' => ?_
  subst hC h4
  have h63' : (n : Int) ≤ 9223372036854775807 := by
    have h := b3
    simp [maxLen] at h
    omega
  have hb' : (i.bytes : Int) * (n : Int) ≤ 281474976710656 := by
    have h : ((i.bytes * n : Nat) : Int) ≤ 281474976710656 := by omega
    rwa [Int.natCast_mul] at h
  have hr := run_make (P := P) w t e i z h1 h2 h3 kl kc 0 n (Int.le_refl _) (by omega) hb' h63'
  simp only [Int.toNat_zero, Int.toNat_natCast] at hr
  unfold Oper.wp
  simp [execOp, hop, hl, hc, hr, Result.andThen]
  exact hK' _ _ (hK _ (World.ownsRow_made w _ n b4 b3 (size_madeCells _ _)) (World.grownBy_alloc w _ none) (by simp))
/-- The closure's world at its first call. -/
theorem plw_start {w w1 : World} {n c : Nat} {A0 : Option Addr} {body : List Pt} {S : Nat → Prop} (T1 T2 : TypeId) (h1 : w1.heap.size = w.heap.size + 2) (hb : Below w.heap.size w w1) (r2 : w1.cell? ⟨w.heap.size, 2, none⟩ = some (.slice A0 n c)) (hr : LRow ptR w S A0 body) (hS : ∀ b, S b → b < w.heap.size)
    (ho : w1.ownsRow (w.heap.size + 1) 69 7 (.slice (some ⟨w.heap.size + 1, 0, none⟩) 0 n) 0 []) (ht : FormTab w) :
    PlW w.heap.size n c A0 body S 0 [] ((w1.alloc (.cells #[.slice (some ⟨w.heap.size + 1, 0, none⟩) 0 n] T1)).alloc (.cells #[.func (.func 48) #[] #[.pointer (some ⟨w.heap.size + 2, 0, none⟩), .pointer (some ⟨w.heap.size, 0, none⟩), .pointer (some ⟨w.heap.size + 3, 0, none⟩)]] T2)) := by
  have hW : ∀ o1 o2 : Obj, Below w1.heap.size w1 ((w1.alloc o1).alloc o2) := fun o1 o2 => ((Below.refl _ _).alloc (Nat.le_refl _) _).alloc (by simp) _
  have hw : ∀ o1 o2 : Obj, Below w.heap.size w ((w1.alloc o1).alloc o2) := fun o1 o2 => hb.trans ((hW o1 o2).mono hb.size)
  refine ⟨by simp [h1], ((hW _ _).cell (p := ⟨_, _, none⟩) (show w.heap.size < w1.heap.size by omega)).trans r2, hr.keep (SameOn.of_below (hw _ _) hS), own_below' ho (hW _ _), ?_, ?_, ?_, ht.below (hw _ _)⟩
  · rw [World.cell?_alloc_past _ _ _ (by simp [h1]), World.cell?_alloc_at _ _ _ _ h1.symm]; rfl
  · simp [go_sem, h1]
  · rw [World.cell?_alloc_at _ _ _ _ (by simp [h1])]; rfl
set_option maxRecDepth 100000 in
set_option maxHeartbeats 4000000 in
theorem implPlaced_any (d : Df) (A0 : Option Addr) (c : Nat) (w : World) (S : Nat → Prop) (h : LRow ptR w S A0 d.body) (hS : ∀ b, S b → b < w.heap.size) (hsh : shapeB d.body = true) (hp0 : 0 ≤ d.ps) (hp3 : d.ps ≤ 3) (ht : FormTab w) :
    Calls Tryd.prog 32 #[.agg #[.string d.nm, .int .i64 d.ps, .slice A0 d.body.length c]] w fun e w' =>
      ∃ A, e = .returned (.slice A (annOf d).length (annOf d).length) ∧ LRow anR w' (fun b => S b ∨ b = w.heap.size + 1) A (annOf d) ∧ Below w.heap.size w w' ∧ w.heap.size + 1 < w'.heap.size := by
  have hmf : ∀ (fn : Fn) (first cap : Array Value) (w : World), (Instr.makeFunc fn first cap).run Tryd.prog w = .ok (.func fn first cap) w := fun _ _ _ _ => rfl
  obtain ⟨hf, hok, h20⟩ := pxOf_ok hsh
  have hlen : d.body.length = (pxOf d.body).size := by rw [← Px.flat_len, hf]
  have hn : d.body.length ≤ 20 := by omega
  have hal : (annOf d).length = d.body.length := annOf_len hsh
  obtain ⟨t1, _⟩ := ht 0 (by omega)
  have hG : 0 < w.heap.size := World.block_lt_of_cell? w _ t1
  clear t1
  have HRow := Lib.hid h
  have HS := Lib.hid hS
  have HTab := Lib.hid ht
  have HLen := Lib.hid hlen
  have HFl := Lib.hid hf
  have HOk := Lib.hid hok
  have HAl := Lib.hid hal
  obtain ⟨i0, hi, hz0, hzs, hzb⟩ := info_parts info_Pl
  generalize hN : d.body.length = n at *
  have HN := Lib.hid hN
  clear h hS ht hlen hf hok hsh hal hN
  go_enter Tryd.func32, Tryd.ntmps32
  go_wp2_with (at_make; refine wpList_make_own1 _ rfl _ _ _ rfl (w.heap.size + 1) 69 i0 _ 7 Tryd.underlying70 hi hz0 hzs .i64 .i64 _ n rfl rfl rfl (by rw [hzb]; omega) (by unfold maxLen; omega) (by simp) ?_; intro w1 hown1 hg1 hs1; go_loud (have r0 := (hg1.cell_far ⟨w.heap.size, 0, none⟩ (by simp) (by simp)).trans (show _ = some (.string d.nm) by simp [go_sem]); have r1 := (hg1.cell_far ⟨w.heap.size, 1, none⟩ (by simp) (by simp)).trans (show _ = some (.int .i64 d.ps) by simp [go_sem]); have r2 := (hg1.cell_far ⟨w.heap.size, 2, none⟩ (by simp) (by simp)).trans (show _ = some (.slice A0 n c) by simp [go_sem]); have HG1 := Lib.hid hg1; have HO1 := Lib.hid hown1; have HE := Lib.hid (show w1.heap.size = w.heap.size + 2 by simpa using hs1); have lB : w.heap.size < w1.heap.size := (by rw [HE.out]; omega); clear hown1 hg1 hs1))
  go_wp2_with fail
  have hsz1 := HE.out
  have hb1 : Below w.heap.size w w1 := ((Below.refl w.heap.size w).alloc (Nat.le_refl _) _).grown HG1.out (by simp) (by simp)
  have HB1 := Lib.hid hb1
  have HO := Lib.hid (show w1.ownsRow (w.heap.size + 1) 69 7 (.slice (some ⟨w.heap.size + 1, 0, none⟩) 0 n) 0 [] by have := HO1.out; simpa using this)
  have HP := Lib.hid (fun T1 T2 => plw_start (c := c) (S := S) T1 T2 hsz1 hb1 r2 HRow.out HS.out HO.out HTab.out)
  clear hb1
  rw [hsz1]
  refine (place_all (pxOf d.body) _ w.heap.size n c A0 d.body S 0 [] d.ps false [] HOk.out (by rw [List.drop_zero, List.append_nil, HFl.out]) HN.out hn ⟨hp0, by omega⟩ HS.out hG (HP.out _ _)).mono ?_
  rintro e w4 ⟨rfl, ht4, news, hp4, hr4⟩
  have hz : 0 + (pxOf d.body).size = n := by have := HLen.out; omega
  rw [hz] at hp4
  have q2 := hp4.pP
  have HF4 := Lib.hid (show LRow anR w4 (fun b => S b ∨ b = w.heap.size + 1) (some ⟨w.heap.size + 1, 0, none⟩) (annOf d) ∧ Below w.heap.size w w4 ∧ w.heap.size + 1 < w4.heap.size from
    ⟨hr4.lrow hp4.own (fun b hb => .inl hb) (.inr rfl), HB1.out.trans (Below.trans (((Below.refl _ _).alloc (by omega) _).alloc (by simp; omega) _) ((ht4.below (by simp; omega)).mono (by omega))), by have h := World.block_lt_of_cell? w4 _ q2; simp at h; omega⟩)
  have l4 : w.heap.size + 2 < w4.heap.size := World.block_lt_of_cell? w4 _ q2
  have HZ := Lib.hid HAl.out
  clear hp4 hr4 ht4 hz hsz1
  go_wp2
  go_ret
  exact ⟨some ⟨w.heap.size + 1, 0, none⟩, by rw [HZ.out]; rfl, HF4.out⟩
end Go.Proofs.YthinoagdgbnphaaDoor
