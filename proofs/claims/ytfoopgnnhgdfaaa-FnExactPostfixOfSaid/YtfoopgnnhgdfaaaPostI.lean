/- Postfix forms: the program's answer is that of the plain function. -/
import Derived.Test.YtfoopgnnhgdfaaaProg
import Derived.WalkKit
import Derived.ProofKit
import Derived.OwnWalk
import Derived.OneCell
import Derived.Outline
import Derived.Lib.Hide
import Derived.Test.YtfoopgnnhgdfaaaMem
import Derived.Test.YtfoopgnnhgdfaaaOwn
import Derived.Test.YtfoopgnnhgdfaaaTmM
import Derived.Test.YtfoopgnnhgdfaaaTmW
import Derived.Test.YtfoopgnnhgdfaaaTmI
import Derived.Test.YtfoopgnnhgdfaaaRet
import Derived.Test.YtfoopgnnhgdfaaaApp
import Derived.Test.YtfoopgnnhgdfaaaShift
import Derived.Test.YtfoopgnnhgdfaaaExM
import Derived.Test.YtfoopgnnhgdfaaaCut
import Derived.Test.YtfoopgnnhgdfaaaStkM
import Derived.Test.YtfoopgnnhgdfaaaEvN
import Derived.Test.YtfoopgnnhgdfaaaEvI
import Derived.Test.YtfoopgnnhgdfaaaPoA
import Derived.Test.YtfoopgnnhgdfaaaPoN
namespace Go.Proofs.Ytfoopgnnhgdfaaa
open Go.RowKit
theorem below_of_grown0 {w w' : World} (h : w.grownBy w' none) : Below w.heap.size w w' := ⟨h.os, h.tape, h.output, h.size, fun k hk => h.block k hk (by simp)⟩
theorem four_blocks (w : World) (o1 o2 o3 o4 : Obj) : ((((w.alloc o1).alloc o2).alloc o3).alloc o4).heap[w.heap.size]? = some o1 ∧ ((((w.alloc o1).alloc o2).alloc o3).alloc o4).heap[w.heap.size + 1]? = some o2 ∧ ((((w.alloc o1).alloc o2).alloc o3).alloc o4).heap[w.heap.size + 1 + 1]? = some o3 ∧ ((((w.alloc o1).alloc o2).alloc o3).alloc o4).heap[w.heap.size + 1 + 1 + 1]? = some o4 ∧ ((((w.alloc o1).alloc o2).alloc o3).alloc o4).heap.size = w.heap.size + 4 ∧ Below w.heap.size w ((((w.alloc o1).alloc o2).alloc o3).alloc o4) := by
  obtain ⟨h1, h2, h3⟩ := three_blocks w o1 o2 o3
  have s3 : (((w.alloc o1).alloc o2).alloc o3).heap.size = w.heap.size + 3 := by simp
  refine ⟨?_, ?_, ?_, ?_, by simp, (below_three w o1 o2 o3).alloc (by rw [s3]; omega) _⟩
  · rw [Below.heap_alloc _ _ _ (by omega)]; exact h1
  · rw [Below.heap_alloc _ _ _ (by omega)]; exact h2
  · rw [Below.heap_alloc _ _ _ (by omega)]; exact h3
  · have := heap_alloc_new (((w.alloc o1).alloc o2).alloc o3) o4
    rwa [s3] at this
set_option maxRecDepth 100000 in
set_option maxHeartbeats 2000000 in
theorem bottomU_any (A : Option Addr) (n c : Nat) (es : List Tm) (P G cap : Nat) (x : Ex) (w : World) (B0 : Nat) (h : TRow w B0 A es) (hB : B0 ≤ w.heap.size) (l : es.length = n) (hn : n ≤ 60) (hc : n ≤ c) (hx : x.flat = es) (ho : x.ok 29) (hp : PostAt w P G cap []) (hcap : n ≤ cap) (hPG : P ≠ G) (hBP : B0 ≤ P ∧ B0 ≤ G) :
    Calls Try.prog 105 #[.slice A n c, .func (.func 106) #[] #[ptr P]] w fun e w' => e = .returned (.agg #[]) ∧ PostAt w' P G cap (postX x) ∧ Fr w w' (fun k => k = P ∨ k = G) := by
  have hPlt := lt_of_block hp.1
  have hGlt : G < w.heap.size := (hp.2.lt G rfl).2
  have EV := Lib.hid (po_all (w.heap.size + 1 + 1) (w.heap.size + 1 + 1 + 1) w.heap.size B0 P G cap (by omega) (by omega) (by rintro (e | e | e) <;> omega) (by rintro (e | e | e) <;> omega) x ho)
  have L := Lib.hid l
  have HX := Lib.hid hx
  have HH := Lib.hid h
  have HP := Lib.hid hp
  have hxl : x.flat.length = n := by rw [hx]; exact l
  clear l hx h ho hp
  go_enter Try.func105, Try.ntmps105
  go_wp2_with fail
  obtain ⟨q1, q2, q3, q4, q5, q6⟩ := four_blocks w (.cells #[.func (.func 106) #[] #[ptr P]] 112) (.cells #[] 109) (.cells #[.slice A n c] 24) (.cells #[.func (.func 115) #[] #[ptr (w.heap.size + 1 + 1), ptr (w.heap.size + 1 + 1 + 1), ptr w.heap.size]] 118)
  refine (EV.out [] [] _ ?_ ?_ ?_ ?_ ?_ ?_).mono ?_
  · exact ⟨A, n, c, q3, hc, hn, by rw [List.append_nil, HX.out]; exact L.out, by rw [List.append_nil, HX.out]; exact HH.out.below (q6.mono hB)⟩
  · exact q4
  · exact q1
  · exact HP.out.keep (S := fun _ => False) (Fr.of_below q6) (fun e => e) (fun e => e)
  · simp only [List.length_nil]; omega
  · exact Nat.le_trans hB q6.size
  · rintro e w5 ⟨rfl, _, hp5, hf5⟩
    have HF := Lib.hid ((Fr.of_below (S := fun k => k = P ∨ k = G) q6).trans hf5 (fun k hk e => by
      rcases e with e | e | e
      · omega
      · exact .inl e
      · exact .inr e))
    have HP5 := Lib.hid hp5
    have HU := Lib.hid ((hf5.block (w.heap.size + 1) (by rw [q5]; omega) (by rintro (e | e | e) <;> omega)).trans q2)
    clear hp5 hf5 q1 q2 q3 q4 q5 q6
    go_wp2
    refine bodyPost_ret (results_cell_row rfl _ _ (w.heap.size + 1) 109 #[] (0, 0) _ rfl HU.out unit_under rfl (by kernel_rfl)) rfl ?_
    exact ⟨rfl, by simpa using HP5.out, HF.out⟩
theorem post_start {w w3 : World} {n : Nat} (ho : w3.ownsRow w.heap.size 77 2 (.slice (some ⟨w.heap.size, 0, none⟩) 0 n) 0 []) (hg : w.grownBy w3 none) :
    PostAt (w3.alloc (.cells #[.slice (some ⟨w.heap.size, 0, none⟩) 0 n] 24)) w3.heap.size w.heap.size n [] ∧ Below w.heap.size w (w3.alloc (.cells #[.slice (some ⟨w.heap.size, 0, none⟩) 0 n] 24)) ∧ w3.heap.size ≠ w.heap.size ∧ (w.heap.size ≤ w3.heap.size ∧ w.heap.size ≤ w.heap.size) ∧ w.heap.size < w3.heap.size := by
  have h1 : w.heap.size < w3.heap.size := (ho.lt _ rfl).2
  refine ⟨⟨heap_alloc_new w3 _, ho.alloc _⟩, (below_of_grown0 hg).alloc (by omega) _, by omega, ⟨by omega, Nat.le_refl _⟩, h1⟩
set_option maxRecDepth 100000 in
set_option maxHeartbeats 2000000 in
theorem postfixOf_any (A : Option Addr) (n c : Nat) (es : List Tm) (x : Ex) (w : World) (h : TRow w w.heap.size A es) (l : es.length = n) (hn : n ≤ 60) (hc : n ≤ c) (hx : x.flat = es) (ho : x.ok 29) :
    Calls Try.prog 87 #[.slice A n c] w fun e w' => RetT1 w (postX x) e w' := by
  have HC := Lib.hid (fun (w1 : World) (P G : Nat) (hb : Below w.heap.size w w1) (hp : PostAt w1 P G n []) (hPG : P ≠ G) (hBP : w.heap.size ≤ P ∧ w.heap.size ≤ G) => bottomU_any A n c es P G n x w1 w.heap.size (h.below hb) hb.size l hn hc hx ho hp (Nat.le_refl _) hPG hBP)
  obtain ⟨i0, hi, hz0, hz1, hz2⟩ := info_parts info_tma
  clear h l hc hx ho
  go_enter Try.func87, Try.ntmps87
  go_wp2_with (first
    | (at_make; refine wpList_make_own _ rfl _ _ _ rfl w.heap.size 77 i0 (.agg #[.int .i64 0, .int .i64 0]) 2 Try.underlying24 hi hz0 hz1 .i64 .i64 _ n rfl rfl rfl (by rw [hz2]; omega) (by unfold maxLen; omega) (Nat.le_refl _) ?_; intro w3 hown3 hg3; obtain ⟨hp3, hb3, hne3, hbp3, hs3⟩ := post_start hown3 hg3; have CB := Lib.hid (HC.out _ _ _ hb3 hp3 hne3 hbp3); have HB3 := Lib.hid hb3; clear hp3 hb3 hown3 hg3)
    | (go_at_call 105; refine (CB.out).mono ?_; rintro e w5 ⟨rfl, hp5, hf5⟩; have hcp := (post_cells hp5).1; have HP5 := Lib.hid hp5.2; have HB5 := Lib.hid (HB3.out.trans (hf5.below HB3.out.size (fun k hk => by rintro (e | e) <;> omega))); clear hp5 hf5))
  go_ret
  exact ⟨some ⟨w.heap.size, 0, none⟩, _, n, rfl, HP5.out, HB5.out⟩
theorem postR_post {es : List Tm} (h : exB 29 60 es = true) : postR es = (postX (treeOf es), 0) := postR_yes h
set_option maxRecDepth 100000 in
set_option maxHeartbeats 1000000 in
theorem implPost_any (A : Option Addr) (n c : Nat) (es : List Tm) (w : World) (T : TypeId) (lo hi : Nat) (h : OwnV w lo hi T 2 A n c (tvs es)) (hB : hi ≤ w.heap.size) (l : es.length = n) (m : n ≤ 2000000) :
    Calls Try.prog 52 #[.slice A n c] w fun e w' => RetT2 w (postR es) e w' := by
  have hcap := own_cap h.own
  have hrow := h.trow.more hB
  clear h hB
  have C := Lib.hid (isEx_any A n c es w w.heap.size hrow (Nat.le_refl _) l m)
  rcases hv : exB 29 60 es with _ | _
  · have H := Lib.hid (postR_no hv)
    have HV := Lib.hid hv
    clear hv l
    go_enter Try.func52, Try.ntmps52
    go_wp2_with (go_at_call 62; refine (C.out).mono ?_; rw [HV.out]; rintro e w1 ⟨rfl, hb⟩)
    go_ret2
    exact RetT2.nil H.out hb
  · have H := Lib.hid (postR_yes hv)
    have HV := Lib.hid hv
    have hn60 := (exB_scan hv).2
    obtain ⟨hflat, hok⟩ := treeOf_ok hv
    have CB := Lib.hid (fun (w1 : World) (hb1 : Below w.heap.size w w1) => postfixOf_any A n c es (treeOf es) w1 ((hrow.below hb1).more hb1.size) l (by omega) hcap hflat hok)
    clear hv l hflat hok hrow hn60
    go_enter Try.func52, Try.ntmps52
    go_wp2_with (first
      | (go_at_call 62; refine (C.out).mono ?_; rw [HV.out]; rintro e w1 ⟨rfl, hb⟩; have CB1 := Lib.hid (CB.out w1 hb); have HB := Lib.hid hb; clear hb)
      | (go_at_call 87; refine (CB1.out).mono ?_; rintro e w2 ⟨A2, n2, c2, rfl, ho2, hb2⟩; have HO2 := Lib.hid (own_lower ho2 HB.out.size); have HB2 := Lib.hid (HB.out.trans (hb2.mono HB.out.size)); clear ho2 hb2))
    go_ret2
    exact RetT2.mk' H.out HO2.out HB2.out
end Go.Proofs.Ytfoopgnnhgdfaaa
