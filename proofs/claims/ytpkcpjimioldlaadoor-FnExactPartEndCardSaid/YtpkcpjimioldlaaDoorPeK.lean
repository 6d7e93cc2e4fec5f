/- The end and the scope of a part, by the program. -/
import Derived.Test.YtpkcpjimioldlaaDoorPeJ
namespace Go.Proofs.YtpkcpjimioldlaaDoor
open Go.RowKit
set_option maxRecDepth 100000 in
set_option maxHeartbeats 2000000 in
theorem implPartEnd_of (A : Option Addr) (m c : Nat) (kk part : Int) (w : World) (q1 q2 : Int) (CP : Calls Tryd.prog 23 #[.slice A m c, .int .i64 kk, .int .i64 part] w fun e w' => (∃ k n nm E l ce en s cc, en = q1 ∧ e = .returned (.tuple #[.agg #[.int .i64 k, .int .i64 n, .string nm, .slice E l ce, .int .i64 en, .int .i64 s, .bool cc], .int .i64 q2])) ∧ Below w.heap.size w w') :
    Calls Tryd.prog 12 #[.slice A m c, .int .i64 kk, .int .i64 part] w fun e w' => e = .returned (.tuple #[.int .i64 q1, .int .i64 q2]) ∧ Below w.heap.size w w' := by
  have CQ := Lib.hid CP
  clear CP
  go_enter Tryd.func12, Tryd.ntmps12
  go_wp2_with (go_at_call 23; refine CQ.out.mono ?_; rintro e w2 ⟨⟨k, n, nm, E, l, ce, en, s, cc, rfl, rfl⟩, hb⟩; have HB := Lib.hid hb; have hsz := hb.size; clear hb)
  go_ret2
  exact ⟨rfl, (by repeat (first | (with_reducible exact HB.out) | with_reducible refine Below.setCell ?_ (by first | omega | (simp <;> omega)) _ | with_reducible refine Below.alloc ?_ (by first | omega | (simp <;> omega)) _))⟩
theorem implPartEnd_any (A : Option Addr) (c : Nat) (ls : List Df) (k part : Int) (w : World) (S : Nat → Prop) (h : LRow dfR w S A ls) (hS : ∀ b, S b → b < w.heap.size) (hok : okList okDf ls) (ht : FormTab w) :
    Calls Tryd.prog 12 #[.slice A ls.length c, .int .i64 k, .int .i64 part] w fun e w' => e = .returned (.tuple #[.int .i64 (peR ls k part).1, .int .i64 (peR ls k part).2]) ∧ Below w.heap.size w w' := by
  refine implPartEnd_of A _ c k part w _ _ ?_
  have K := fun (W : World) (hW : Below w.heap.size w W) => h.keep (SameOn.of_below hW hS)
  have KS := fun (W : World) (hW : Below w.heap.size w W) b (hb : S b) => Nat.lt_of_lt_of_le (hS b hb) hW.size
  rcases tv : vdB ls with _ | _
  · have e := peR_bad (ls := ls) (k := k) (part := part) (askC_inv tv) (by omega)
    rw [e]
    exact (placedAt_code A c ls k part 1 w (by omega) fun W hW => defAt_inv A c ls k W S (K W hW) (KS W hW) hok (ht.below hW) tv).mono fun e w' ⟨he, hb⟩ => ⟨⟨0, 0, ⟨#[]⟩, none, 0, 0, 0, 0, false, rfl, he⟩, hb⟩
  rcases tk : idxB k ls.length with _ | _
  · have e := peR_bad (ls := ls) (k := k) (part := part) (askC_k tv tk) (by omega)
    rw [e]
    exact (placedAt_code A c ls k part 2 w (by omega) fun W hW => defAt_k A c ls k W S (K W hW) (KS W hW) hok (ht.below hW) tv tk).mono fun e w' ⟨he, hb⟩ => ⟨⟨0, 0, ⟨#[]⟩, none, 0, 0, 0, 0, false, rfl, he⟩, hb⟩
  obtain ⟨j, rfl, hj⟩ := idxB_yes tk
  obtain ⟨d, hd⟩ : ∃ d, ls[j]? = some d := ⟨_, List.getElem?_eq_getElem hj⟩
  obtain ⟨hl4, hp0, hp3, hsh⟩ := vdB_parts tv hd
  have h20 := (pxOf_ok hsh).2.2
  rw [← Px.flat_len, (pxOf_ok hsh).1] at h20
  have CD0 : ∀ W : World, Below w.heap.size w W → Calls Tryd.prog 39 #[.slice A ls.length c, .int .i64 j] W fun e w' => ∃ B cb, e = .returned (.tuple #[.agg #[.string d.nm, .int .i64 d.ps, .slice B d.body.length cb], .int .i64 0]) ∧ LRow ptR w' S B d.body ∧ Below W.heap.size W w' := fun W hW =>
    (defAt_ok A c ls j W S (K W hW) (KS W hW) hok (ht.below hW) tv j rfl d hd).mono fun e w' ⟨B, cb, he, hr, hb⟩ => ⟨B, cb, he, hr.keep (SameOn.of_below hb (KS W hW)), hb⟩
  rcases tp : idxB part d.body.length with _ | _
  · have e := peR_bad (ls := ls) (k := j) (part := part) (askC_p tv hd tp) (by omega)
    rw [e]
    exact (placedAt_part A c ls j part w S d hS h20 CD0 tp).mono fun e w' ⟨he, hb⟩ => ⟨⟨0, 0, ⟨#[]⟩, none, 0, 0, 0, 0, false, rfl, he⟩, hb⟩
  obtain ⟨i, rfl, hi⟩ := idxB_yes tp
  obtain ⟨a, ha⟩ : ∃ a, (annOf d)[i]? = some a := ⟨_, List.getElem?_eq_getElem (by rw [annOf_len hsh]; exact hi)⟩
  rw [peR_ok tv hd hi ha]
  exact (placedAt_ok A c ls j i w S d hS h20 CD0 i rfl hi hsh hp0 hp3 ht a ha).mono fun e w' ⟨E, ce, he, hb⟩ => ⟨⟨_, _, _, E, _, ce, _, _, _, rfl, he⟩, hb⟩
set_option maxRecDepth 100000 in
set_option maxHeartbeats 2000000 in
theorem implScopeAt_of (A : Option Addr) (m c : Nat) (kk part : Int) (w : World) (q1 q2 : Int) (CP : Calls Tryd.prog 23 #[.slice A m c, .int .i64 kk, .int .i64 part] w fun e w' => (∃ k n nm E l ce en s cc, s = q1 ∧ e = .returned (.tuple #[.agg #[.int .i64 k, .int .i64 n, .string nm, .slice E l ce, .int .i64 en, .int .i64 s, .bool cc], .int .i64 q2])) ∧ Below w.heap.size w w') :
    Calls Tryd.prog 14 #[.slice A m c, .int .i64 kk, .int .i64 part] w fun e w' => e = .returned (.tuple #[.int .i64 q1, .int .i64 q2]) ∧ Below w.heap.size w w' := by
  have CQ := Lib.hid CP
  clear CP
  go_enter Tryd.func14, Tryd.ntmps14
  go_wp2_with (go_at_call 23; refine CQ.out.mono ?_; rintro e w2 ⟨⟨k, n, nm, E, l, ce, en, s, cc, rfl, rfl⟩, hb⟩; have HB := Lib.hid hb; have hsz := hb.size; clear hb)
  go_ret2
  exact ⟨rfl, (by repeat (first | (with_reducible exact HB.out) | with_reducible refine Below.setCell ?_ (by first | omega | (simp <;> omega)) _ | with_reducible refine Below.alloc ?_ (by first | omega | (simp <;> omega)) _))⟩
theorem implScopeAt_any (A : Option Addr) (c : Nat) (ls : List Df) (k part : Int) (w : World) (S : Nat → Prop) (h : LRow dfR w S A ls) (hS : ∀ b, S b → b < w.heap.size) (hok : okList okDf ls) (ht : FormTab w) :
    Calls Tryd.prog 14 #[.slice A ls.length c, .int .i64 k, .int .i64 part] w fun e w' => e = .returned (.tuple #[.int .i64 (saR ls k part).1, .int .i64 (saR ls k part).2]) ∧ Below w.heap.size w w' := by
  refine implScopeAt_of A _ c k part w _ _ ?_
  have K := fun (W : World) (hW : Below w.heap.size w W) => h.keep (SameOn.of_below hW hS)
  have KS := fun (W : World) (hW : Below w.heap.size w W) b (hb : S b) => Nat.lt_of_lt_of_le (hS b hb) hW.size
  rcases tv : vdB ls with _ | _
  · have e := saR_bad (ls := ls) (k := k) (part := part) (askC_inv tv) (by omega)
    rw [e]
    exact (placedAt_code A c ls k part 1 w (by omega) fun W hW => defAt_inv A c ls k W S (K W hW) (KS W hW) hok (ht.below hW) tv).mono fun e w' ⟨he, hb⟩ => ⟨⟨0, 0, ⟨#[]⟩, none, 0, 0, 0, 0, false, rfl, he⟩, hb⟩
  rcases tk : idxB k ls.length with _ | _
  · have e := saR_bad (ls := ls) (k := k) (part := part) (askC_k tv tk) (by omega)
    rw [e]
    exact (placedAt_code A c ls k part 2 w (by omega) fun W hW => defAt_k A c ls k W S (K W hW) (KS W hW) hok (ht.below hW) tv tk).mono fun e w' ⟨he, hb⟩ => ⟨⟨0, 0, ⟨#[]⟩, none, 0, 0, 0, 0, false, rfl, he⟩, hb⟩
  obtain ⟨j, rfl, hj⟩ := idxB_yes tk
  obtain ⟨d, hd⟩ : ∃ d, ls[j]? = some d := ⟨_, List.getElem?_eq_getElem hj⟩
  obtain ⟨hl4, hp0, hp3, hsh⟩ := vdB_parts tv hd
  have h20 := (pxOf_ok hsh).2.2
  rw [← Px.flat_len, (pxOf_ok hsh).1] at h20
  have CD0 : ∀ W : World, Below w.heap.size w W → Calls Tryd.prog 39 #[.slice A ls.length c, .int .i64 j] W fun e w' => ∃ B cb, e = .returned (.tuple #[.agg #[.string d.nm, .int .i64 d.ps, .slice B d.body.length cb], .int .i64 0]) ∧ LRow ptR w' S B d.body ∧ Below W.heap.size W w' := fun W hW =>
    (defAt_ok A c ls j W S (K W hW) (KS W hW) hok (ht.below hW) tv j rfl d hd).mono fun e w' ⟨B, cb, he, hr, hb⟩ => ⟨B, cb, he, hr.keep (SameOn.of_below hb (KS W hW)), hb⟩
  rcases tp : idxB part d.body.length with _ | _
  · have e := saR_bad (ls := ls) (k := j) (part := part) (askC_p tv hd tp) (by omega)
    rw [e]
    exact (placedAt_part A c ls j part w S d hS h20 CD0 tp).mono fun e w' ⟨he, hb⟩ => ⟨⟨0, 0, ⟨#[]⟩, none, 0, 0, 0, 0, false, rfl, he⟩, hb⟩
  obtain ⟨i, rfl, hi⟩ := idxB_yes tp
  obtain ⟨a, ha⟩ : ∃ a, (annOf d)[i]? = some a := ⟨_, List.getElem?_eq_getElem (by rw [annOf_len hsh]; exact hi)⟩
  rw [saR_ok tv hd hi ha]
  exact (placedAt_ok A c ls j i w S d hS h20 CD0 i rfl hi hsh hp0 hp3 ht a ha).mono fun e w' ⟨E, ce, he, hb⟩ => ⟨⟨_, _, _, E, _, ce, _, _, _, rfl, he⟩, hb⟩
end Go.Proofs.YtpkcpjimioldlaaDoor
