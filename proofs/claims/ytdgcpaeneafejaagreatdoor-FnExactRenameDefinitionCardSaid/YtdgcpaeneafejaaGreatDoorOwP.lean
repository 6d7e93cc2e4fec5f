/- Copies of systems as the model makes them. -/
import Derived.BigQuiet
import Derived.Outline
import Derived.Test.YtdgcpaeneafejaaGreatDoorGrow
import Derived.Test.YtdgcpaeneafejaaGreatDoorOwnS
import Derived.Test.YtdgcpaeneafejaaGreatDoorDatI
import Derived.Test.YtdgcpaeneafejaaGreatDoorSysIs
namespace Go.Proofs.YtdgcpaeneafejaaGreatDoor
open Go.RowKit
/-- As GrowO, with all blocks in a set P that holds all blocks to come. -/
def GrowP {α : Type} (G : Owd α) (T : TypeId) (w : World) (P : Nat → Prop) (v : Value) (n : Nat) (xs : List α) : Prop :=
  xs.length = n ∧ ∃ (vs : List Value) (E : Nat → Nat → Prop), w.ownsRow 0 T G.F.width v n vs ∧ (∀ g, v.ownBlock = some g → P g) ∧ (∀ j x, xs[j]? = some x → G.O w (E j) x ((vs.drop (j * G.F.width)).take G.F.width)) ∧
    (∀ j b, j < n → E j b → P b ∧ b < w.heap.size ∧ v.ownBlock ≠ some b) ∧ ∀ i j b, i < n → j < n → i ≠ j → E i b → ¬ E j b
theorem GrowP.made {α : Type} (G : Owd α) (T : TypeId) (w : World) (P : Nat → Prop) (h : P w.heap.size) : GrowP G T (w.alloc (.cells #[] T)) P (.slice (some ⟨w.heap.size, 0, none⟩) 0 0) 0 [] :=
  ⟨rfl, [], fun _ _ => False, World.ownsRow_made w #[] 0 (Nat.zero_le _) (Nat.zero_le _) (by simp), fun g e => by simp [Value.ownBlock] at e; subst e; exact h, fun j x h => by simp at h, fun j b h => by omega, fun i j b h => by omega⟩
theorem GrowP.keep {α : Type} {G : Owd α} {T : TypeId} {w w' : World} {P : Nat → Prop} {v : Value} {n : Nat} {xs : List α} (h : GrowP G T w P v n xs) (hk : SameB P w w') (hs : w.heap.size ≤ w'.heap.size) : GrowP G T w' P v n xs := by
  obtain ⟨hl, vs, E, h1, h0, h2, h3, h4⟩ := h
  exact ⟨hl, vs, E, own_sameB h1 hk h0, h0, fun j x hx => G.keep (h2 j x hx) (hk.more fun b hb => (h3 j b (by rw [← hl]; exact (List.getElem?_eq_some_iff.1 hx).1) hb).1), fun j b hj hE => by have := h3 j b hj hE; exact ⟨this.1, by omega, this.2.2⟩, h4⟩
theorem GrowP.nb {α : Type} {G : Owd α} {T : TypeId} {w w' : World} {P : Nat → Prop} {v : Value} {n : Nat} {xs : List α} (h : GrowP G T w P v n xs) (hb : Below w.heap.size w w') : GrowP G T w' P v n xs := h.keep (SameB.of_below hb) hb.size
theorem GrowP.ol {α : Type} {G : Owd α} {T : TypeId} {w : World} {P : Nat → Prop} {A : Option Addr} {n c : Nat} {xs : List α} (h : GrowP G T w P (.slice A n c) n xs) : OL G T w (fun b => P b ∧ b < w.heap.size) A n c xs := by
  obtain ⟨hl, vs, E, h1, h0, h2, h3, h4⟩ := h
  exact ⟨hl, fun g hg => ⟨h0 g hg, (h1.lt g hg).2⟩, vs, E, h1, h2, fun j b hj hE => by have := h3 j b hj hE; exact ⟨⟨this.1, this.2.1⟩, this.2.2⟩, h4⟩
theorem GrowP.more {α : Type} {G : Owd α} {T : TypeId} {w : World} {P P' : Nat → Prop} {v : Value} {n : Nat} {xs : List α} (h : GrowP G T w P v n xs) (hP : ∀ b, P b → P' b) : GrowP G T w P' v n xs := by
  obtain ⟨hl, vs, E, h1, h0, h2, h3, h4⟩ := h
  exact ⟨hl, vs, E, h1, fun g hg => hP g (h0 g hg), h2, fun j b hj hE => by have := h3 j b hj hE; exact ⟨hP b this.1, this.2⟩, h4⟩
theorem GrowP.form {α : Type} {G : Owd α} {T : TypeId} {w : World} {P : Nat → Prop} {v : Value} {n : Nat} {xs : List α} (h : GrowP G T w P v n xs) : ∃ A c, v = .slice A n c := by
  obtain ⟨_, vs, E, h1, _⟩ := h
  exact own_slice h1
set_option maxRecDepth 100000 in
/-- An append of one record that lies in a new block: its run. -/
theorem run_append_newP {α : Type} {G : Owd α} {ST T : TypeId} (hE : ElOK ST T G.F.width) (ty : TypeId)
    (w1 w2 : World) (P : Nat → Prop) (lo : Nat) (v : Value) (n : Nat) (xs : List α) (x0 : α) (cs : List Value) (hG : GrowP G T w1 P v n xs)
    (hb : Below w1.heap.size w1 w2) (hO : G.O w2 (In w1.heap.size w2.heap.size) x0 cs) (h1 : ∀ u ∈ cs, u.oneCell' = true) (hn : n + 1 ≤ 2000000) (hP : ∀ b, w1.heap.size ≤ b → P b) (hlo : lo ≤ w1.heap.size) (hPl : ∀ b, P b → lo ≤ b) :
    ∃ A' c' w', (Builtin.append_ #[ST, ST] ty #[v, .slice (some ⟨w2.heap.size, 0, none⟩) 1 1]).run Tryz.prog (w2.alloc (.cells cs.toArray T)) = .ok (.slice A' (n + 1) c') w' ∧ GrowP G T w' P (.slice A' (n + 1) c') (n + 1) (xs ++ [x0]) ∧ Below lo w2 w' ∧ w2.heap.size ≤ w'.heap.size ∧ ∀ b, b < w1.heap.size → v.ownBlock ≠ some b → w'.heap[b]? = w2.heap[b]? := by
  obtain ⟨ht, i0, z, hi, hz0, hz1, hz2, hzs, hd⟩ := hE
  have hcl := G.F.len (G.rd hO)
  have hsz := hb.size
  obtain ⟨hl, vs, E, g1, g0, g2, g3, g4⟩ := hG
  have hba : Below w2.heap.size w2 (w2.alloc (.cells cs.toArray T)) := (Below.refl _ _).alloc (Nat.le_refl _) _
  have g1' := own_below' (own_below' g1 hb) hba
  obtain ⟨v', w', hrun, ho', hg, _, hat⟩ := run_append_own_at (P := Tryz.prog) (w2.alloc (.cells cs.toArray T)) 0 ST ty T i0 z G.F.width i0.bytes ht hi hz0 hz1 rfl hzs hd v n vs g1' ⟨w2.heap.size, 0, none⟩ 1 1 cs (by rw [hcl, Nat.one_mul]) (fun j u hj => by
    rw [addLit, Nat.zero_add, cell_of_row _ _ j _ _ (0, 0) (heap_alloc_new w2 _)]
    simpa using hj) h1 (by unfold maxLen; omega) (Nat.le_trans (Nat.mul_le_mul hn hz2) (by decide)) (Nat.zero_le _)
  obtain ⟨A', c', rfl⟩ := own_slice ho'
  have hvb : ∀ b, v.ownBlock = some b → b < w1.heap.size := fun b e => (g1.lt b e).2
  have hvl := g1.1
  have hs' := hg.size
  simp at hs'
  have hsame : ∀ S : Nat → Prop, (∀ b, S b → b < w2.heap.size ∧ v.ownBlock ≠ some b) → SameB S w2 w' := fun S hS b hb2 hlt => by
    rw [hg.block b (by simp; omega) (fun e => (hS b hb2).2 e.symm)]
    exact hba.block b hlt
  have hnew : ∀ b, b < w2.heap.size → v.ownBlock ≠ some b → (Value.slice A' (n + 1) c').ownBlock ≠ some b := fun b hlt hne e => by
    rcases hat with e2 | e2
    · exact hne (e2.symm.trans e)
    · rw [e2] at e
      simp at e
      omega
  refine ⟨A', c', w', hrun, ⟨by simp [hl], vs ++ cs, fun j => if j = n then In w1.heap.size w2.heap.size else E j, ho', fun g hg2 => ?_, fun j y hy => ?_, fun j b hj hE => ?_, fun i j b hi' hj hne hE hE2 => ?_⟩, ?_, by omega, fun b hlt hne => ?_⟩
  · rcases hat with e2 | e2
    · exact g0 g (e2.symm.trans hg2)
    · rw [e2] at hg2
      simp at hg2
      exact hP g (by omega)
  · by_cases e : j = n
    · subst e
      rw [List.getElem?_append_right (by omega), hl, Nat.sub_self] at hy
      obtain rfl : x0 = y := by simpa using hy
      rw [← hvl, List.drop_left, List.take_of_length_le (by omega)]
      simp only [if_true]
      exact G.keep hO (hsame _ fun b hb2 => ⟨hb2.2, fun e => by have := hvb b e; have := hb2.1; omega⟩)
    · have hj : j < n := by have := (List.getElem?_eq_some_iff.1 hy).1; simp [hl] at this; omega
      rw [List.getElem?_append_left (by omega)] at hy
      have hle : (j + 1) * G.F.width ≤ n * G.F.width := Nat.mul_le_mul_right _ hj
      rw [Nat.succ_mul] at hle
      rw [List.drop_append_of_le_length (by omega), List.take_append_of_le_length (by rw [List.length_drop]; omega)]
      simp only [if_neg e]
      exact G.keep (G.keep (g2 j y hy) (SameB.of_below hb)) (hsame _ fun b hb2 => by have := g3 j b hj hb2; exact ⟨by omega, this.2.2⟩)
  · by_cases e : j = n
    · simp only [if_pos e] at hE
      exact ⟨hP b hE.1, by have := hE.2; omega, hnew b hE.2 fun e => by have := hvb b e; have := hE.1; omega⟩
    · simp only [if_neg e] at hE
      have := g3 j b (by omega) hE
      exact ⟨this.1, by omega, hnew b (by omega) this.2.2⟩
  · by_cases ei : i = n
    · simp only [if_pos ei] at hE
      by_cases ej : j = n
      · omega
      · simp only [if_neg ej] at hE2
        have := g3 j b (by omega) hE2
        have := hE.1
        omega
    · simp only [if_neg ei] at hE
      by_cases ej : j = n
      · simp only [if_pos ej] at hE2
        have := g3 i b (by omega) hE
        have := hE2.1
        omega
      · simp only [if_neg ej] at hE2
        exact g4 i j b (by omega) (by omega) hne hE hE2
  · exact (hba.mono (by omega)).grown hg (by simp; omega) fun g e => hPl g (g0 g e)
  · rw [hg.block b (by simp; omega) (fun e => hne e.symm)]
    exact hba.block b (by omega)
theorem wpList_append_newP {α : Type} {G : Owd α} {ST T : TypeId} (hE : ElOK ST T G.F.width) {ops : Array Oper} {rest : List Oper} {o : Oper} {a : Act} {Q : Exit → Act → World → Prop} (hgd : o.guard = none) (s x : Operand)
    (ho : o.op = .call { callee := .builtin .append, args := #[s, x], argTypes := #[ST, ST] })
    (w1 w2 : World) (P : Nat → Prop) (lo : Nat) (v : Value) (n : Nat) (xs : List α) (x0 : α) (cs : List Value) (hs : a.eval s = v) (hG : GrowP G T w1 P v n xs) (B : Nat) (hB : B = w2.heap.size) (hx : a.eval x = .slice (some ⟨B, 0, none⟩) 1 1)
    (hb : Below w1.heap.size w1 w2) (hO : G.O w2 (In w1.heap.size w2.heap.size) x0 cs) (h1 : ∀ u ∈ cs, u.oneCell' = true) (hn : n + 1 ≤ 2000000) (hP : ∀ b, w1.heap.size ≤ b → P b) (hlo : lo ≤ w1.heap.size) (hPl : ∀ b, P b → lo ≤ b)
    (h : ∀ A' c' w', GrowP G T w' P (.slice A' (n + 1) c') (n + 1) (xs ++ [x0]) → Below lo w2 w' → w2.heap.size ≤ w'.heap.size → (∀ b, b < w1.heap.size → v.ownBlock ≠ some b → w'.heap[b]? = w2.heap[b]?) → wpList Tryz.prog ops Q rest (a.put o.dst (.slice A' (n + 1) c')) w') :
    wpList Tryz.prog ops Q (o :: rest) a (w2.alloc (.cells cs.toArray T)) := by
  subst hB
  obtain ⟨A', c', w', hrun, r1, r2, r3, r4⟩ := run_append_newP hE o.type w1 w2 P lo v n xs x0 cs hG hb hO h1 hn hP hlo hPl
  refine wpList_plain hgd fun K hK => ?_
  unfold Oper.wp execOp
  simp only [ho, resolve, invoke, builtin, Sem.run_bind, Sem.run_pure, Result.andThen_ok, List.map_toArray, List.map_cons, List.map_nil, hs, hx, hrun]
  exact hK _ _ (h A' c' w' r1 r2 r3 r4)
set_option maxRecDepth 100000 in
set_option maxHeartbeats 1000000 in
theorem ownAll_any (A : Option Addr) (n c : Nat) (xs : List (List Tm)) (w : World) (S : Nat → Prop) (h : LRow (listR tmR) w S A xs) (hS : ∀ b, S b → b < w.heap.size) (l : xs.length = n) (m : okList (okList okAny) xs) :
    Calls Tryz.prog 122 #[.slice A n c] w (CopyL (listO tmO 186) 182 xs w) := by
  have hml := m.1
  have L := Lib.hid l
  have H2 := Lib.hid h
  have HS := Lib.hid hS
  have M := Lib.hid m.2
  have hn : n ≤ 1048576 := by omega
  have G0 := Lib.hid (GrowO.made (listO tmO 186) 182 w w.heap.size (Nat.le_refl _))
  clear h hS m l
  go_enter Tryz.func122, Tryz.ntmps122
  go_wp2
  go_loopw [3, 4] (fun v i wr => ∃ k : Nat, k ≤ n ∧ i = .int .i64 k ∧ Hid (Below w.heap.size w wr) ∧ Hid (GrowO (listO tmO 186) 182 wr w.heap.size v k (xs.take k))) (fun _ i _ => n - (intOf i).toNat)
  case atStart => exact ⟨0, Nat.zero_le _, rfl, Lib.hid ((Below.refl _ _).alloc (Nat.le_refl _) _), G0⟩
  case round =>
    obtain ⟨k, hk, rfl, HB, HG⟩ := hrel
    obtain ⟨wo, rfl⟩ : ∃ wo : World, wo = wr := ⟨_, rfl⟩
    have hsz := HB.out.size
    obtain ⟨AG, cG, rfl⟩ := HG.out.form
    clear G0
    by_cases hlt : k < n
    · obtain ⟨b, o, cs0, x, rfl, hb, hR, hx, hc⟩ := (H2.out.keep (SameOn.of_below HB.out HS.out)).at_ (k := k) (by rw [L.out]; exact hlt)
      obtain ⟨V, cv, rfl, hlv, hcv, hrv⟩ := hR
      have r0 : wo.cell? ⟨b, o + k, none⟩ = some (.slice V x.length cv) := by have e : wo.cell? ⟨b, o + k * 1 + 0, none⟩ = some (.slice V x.length cv) := hc 0 _ rfl; simpa using e
      have lb : b < wo.heap.size := World.block_lt_of_cell? wo _ r0
      have hxv := (M.out x (List.mem_of_getElem? hx.out)).1
      have CO := Lib.hid (cloneTmS_any V x.length cv x wo S hrv (fun b h => Nat.lt_of_lt_of_le (HS.out b h) hsz) rfl hxv)
      have HN := Lib.hid (take_one _ _ _ hx.out)
      clear hc hrv
      go_wp2_with fail
      refine (CO.out).mono ?_
      rintro e w2 ⟨A3, c3, rfl, hl, b2⟩
      have HO := Lib.hid (show (listO tmO 186).O w2 (In wo.heap.size w2.heap.size) x [.slice A3 x.length c3] from ⟨A3, c3, rfl, hl⟩)
      have B2 := Lib.hid b2
      clear hl b2
      go_wp2_with (at_builtin; refine wpList_append_new el_tms rfl _ _ rfl wo w2 w.heap.size (.slice AG k cG) k (xs.take k) x [.slice A3 x.length c3] rfl (by exact HG.out) rfl B2.out HO.out (fun u hu => by simp at hu; subst hu; rfl) (by omega) hsz ?_; intro A' c' w' hg hb' hs' _; have HG2 := Lib.hid hg; have HB2 := Lib.hid ((HB.out.trans (B2.out.mono hsz)).trans hb'); clear hg hb')
      go_roundw
      case rel => exact ⟨k + 1, by omega, by go_num, HB2, Lib.hid (by rw [HN.out]; exact HG2.out)⟩
      case measure => simp [intOf]; omega
    · obtain rfl : k = n := by omega
      have HF := Lib.hid (show OL (listO tmO 186) 182 wo (In w.heap.size wo.heap.size) AG xs.length cG xs by
        have := HG.out.ol
        rw [List.take_of_length_le (by rw [L.out]; exact Nat.le_refl _)] at this
        rw [L.out]; exact this)
      have HL := Lib.hid (show (.returned (.slice AG k cG) : Ending) = .returned (.slice AG xs.length cG) by rw [L.out])
      go_wp2
      go_ret
      exact ⟨AG, cG, HL.out, HF.out, HB.out⟩
set_option maxRecDepth 100000 in
set_option maxHeartbeats 1000000 in
theorem ownBody_any (A : Option Addr) (n c : Nat) (xs : List Pt) (w : World) (S : Nat → Prop) (h : LRow ptR w S A xs) (hS : ∀ b, S b → b < w.heap.size) (l : xs.length = n) (m : okList okPt xs) :
    Calls Tryz.prog 93 #[.slice A n c] w (CopyL ptO 150 xs w) := by
  have hml := m.1
  have L := Lib.hid l
  have H2 := Lib.hid h
  have HS := Lib.hid hS
  have M := Lib.hid m.2
  have hn : n ≤ 1048576 := by omega
  have G0 := Lib.hid (GrowP.made ptO 150 w (fun b => w.heap.size ≤ b) (Nat.le_refl _))
  clear h hS m l
  go_enter Tryz.func93, Tryz.ntmps93
  go_wp2
  go_loopw [3, 4] (fun v i wr => ∃ k : Nat, k ≤ n ∧ i = .int .i64 k ∧ Hid (Below w.heap.size w wr) ∧ Hid (GrowP ptO 150 wr (fun b => w.heap.size ≤ b) v k (xs.take k))) (fun _ i _ => n - (intOf i).toNat)
  case atStart => exact ⟨0, Nat.zero_le _, rfl, Lib.hid ((Below.refl _ _).alloc (Nat.le_refl _) _), G0⟩
  case round =>
    obtain ⟨k, hk, rfl, HB, HG⟩ := hrel
    obtain ⟨wo, rfl⟩ : ∃ wo : World, wo = wr := ⟨_, rfl⟩
    have hsz := HB.out.size
    obtain ⟨AG, cG, rfl⟩ := HG.out.form
    clear G0
    by_cases hlt : k < n
    · obtain ⟨b, o, cs0, x, rfl, hb, hR, hx, hc⟩ := (H2.out.keep (SameOn.of_below HB.out HS.out)).at_ (k := k) (by rw [L.out]; exact hlt)
      obtain ⟨V, cv, rfl, hz, hlv, hcv, hrv⟩ := hR
      have r0 : wo.cell? ⟨b, o + k * 4, none⟩ = some (.int .i64 x.k) := hc 0 _ rfl
      have r1 : wo.cell? ⟨b, o + k * 4 + 1, none⟩ = some (.int .i64 x.n) := hc 1 _ rfl
      have r2 : wo.cell? ⟨b, o + k * 4 + 2, none⟩ = some (.string x.nm) := hc 2 _ rfl
      have r3 : wo.cell? ⟨b, o + k * 4 + 3, none⟩ = some (.slice V x.args.length cv) := hc 3 _ rfl
      have lb : b < wo.heap.size := World.block_lt_of_cell? wo _ r0
      have hxv := (M.out x (List.mem_of_getElem? hx.out)).2
      have CO := Lib.hid (fun (W : World) (hW : Below wo.heap.size wo W) => ownAll_any V x.args.length cv x.args W S (hrv.keep (SameOn.of_below hW fun b h => Nat.lt_of_lt_of_le (HS.out b h) hsz)) (fun b h => Nat.lt_of_lt_of_le (HS.out b h) (Nat.le_trans hsz hW.size)) rfl hxv)
      have HN := Lib.hid (take_one _ _ _ hx.out)
      have HZ := Lib.hid hz
      have b0 : Below wo.heap.size wo (wo.alloc (.cells #[.int .i64 x.k, .int .i64 x.n, .string x.nm, .slice V x.args.length cv] 150)) := (Below.refl _ _).alloc (Nat.le_refl _) _
      have B0 := Lib.hid b0
      clear hc hrv hz b0
      go_wp2_with fail
      refine (CO.out _ B0.out).mono ?_
      rintro e w2 ⟨A3, c3, rfl, hl, b2⟩
      have y0 : w2.cell? ⟨wo.heap.size, 0, none⟩ = some (.int .i64 x.k) := (b2.cell (p := ⟨wo.heap.size, 0, none⟩) (by simp)).trans (by simp [go_sem])
      have y1 : w2.cell? ⟨wo.heap.size, 1, none⟩ = some (.int .i64 x.n) := (b2.cell (p := ⟨wo.heap.size, 1, none⟩) (by simp)).trans (by simp [go_sem])
      have y2 : w2.cell? ⟨wo.heap.size, 2, none⟩ = some (.string x.nm) := (b2.cell (p := ⟨wo.heap.size, 2, none⟩) (by simp)).trans (by simp [go_sem])
      have y3 : w2.cell? ⟨wo.heap.size, 3, none⟩ = some (.slice V x.args.length cv) := (b2.cell (p := ⟨wo.heap.size, 3, none⟩) (by simp)).trans (by simp [go_sem])
      have yf : w2.frozen? ⟨wo.heap.size, 3, none⟩ = false := (b2.frozen (p := ⟨wo.heap.size, 3, none⟩) (by simp)).trans (by simp [go_sem])
      have hs2 : wo.heap.size < w2.heap.size := World.block_lt_of_cell? w2 _ y0
      have hO : ptO.O (w2.setCell ⟨wo.heap.size, 3, none⟩ (.slice A3 x.args.length c3)) (In wo.heap.size (w2.setCell ⟨wo.heap.size, 3, none⟩ (.slice A3 x.args.length c3)).heap.size) x [.int .i64 x.k, .int .i64 x.n, .string x.nm, .slice A3 x.args.length c3] := by
        refine ⟨A3, c3, rfl, HZ.out, OL.more (OL.keep hl (SameB.setCell (SameB.refl _ _) fun h => ?_)) fun b h => ⟨?_, ?_⟩⟩
        · have := h.1; simp at this; omega
        · have := h.1; simp at this; omega
        · have := h.2; simpa [World.setCell] using this
      have HO := Lib.hid hO
      have B2 := Lib.hid (show Below wo.heap.size wo (w2.setCell ⟨wo.heap.size, 3, none⟩ (.slice A3 x.args.length c3)) from (B0.out.trans (b2.mono B0.out.size)).setCell (Nat.le_refl _) _)
      clear hl b2 hO
      go_wp2_with (at_builtin; refine wpList_append_newP el_pt rfl _ _ rfl wo (w2.setCell ⟨wo.heap.size, 3, none⟩ (.slice A3 x.args.length c3)) (fun b => w.heap.size ≤ b) w.heap.size (.slice AG k cG) k (xs.take k) x [.int .i64 x.k, .int .i64 x.n, .string x.nm, .slice A3 x.args.length c3] rfl (by exact HG.out) w2.heap.size (by simp [World.setCell]) rfl B2.out HO.out (fun u hu => by simp at hu; rcases hu with rfl | rfl | rfl | rfl <;> rfl) (by omega) (fun b h => Nat.le_trans hsz h) hsz (fun b h => h) ?_; intro A' c' w' hg hb' hs' _; have HG2 := Lib.hid hg; have HB2 := Lib.hid ((HB.out.trans (B2.out.mono hsz)).trans hb'); clear hg hb')
      go_roundw
      case rel => exact ⟨k + 1, by omega, by go_num, HB2, Lib.hid (by rw [HN.out]; exact HG2.out)⟩
      case measure => simp [intOf]; omega
    · obtain rfl : k = n := by omega
      have HF := Lib.hid (show OL ptO 150 wo (In w.heap.size wo.heap.size) AG xs.length cG xs by
        have := HG.out.ol
        rw [List.take_of_length_le (by rw [L.out]; exact Nat.le_refl _)] at this
        rw [L.out]; exact this)
      have HL := Lib.hid (show (.returned (.slice AG k cG) : Ending) = .returned (.slice AG xs.length cG) by rw [L.out])
      go_wp2
      go_ret
      exact ⟨AG, cG, HL.out, HF.out, HB.out⟩
end Go.Proofs.YtdgcpaeneafejaaGreatDoor
