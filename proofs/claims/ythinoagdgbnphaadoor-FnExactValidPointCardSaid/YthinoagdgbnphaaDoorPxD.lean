/- A part in its place: the program's checks. -/
import Derived.Test.YthinoagdgbnphaaDoorPxC
import Derived.Test.YthinoagdgbnphaaDoorPxV
namespace Go.Proofs.YthinoagdgbnphaaDoor
open Go.RowKit
set_option maxRecDepth 100000 in
set_option maxHeartbeats 4000000 in
theorem implTerms_any (a : An) (E : Option Addr) (ce : Nat) (en : Int) (w : World) (S : Nat → Prop) (g : LRow (listR tmR) w S E a.p.args) (hS : ∀ b, S b → b < w.heap.size) (hs : 0 ≤ a.s ∧ a.s ≤ 23) (hok : okList (okList okAny) a.p.args) :
    Calls Tryd.prog 63 #[.agg #[.int .i64 a.p.k, .int .i64 a.p.n, .string a.p.nm, .slice E a.p.args.length ce, .int .i64 en, .int .i64 a.s, .bool a.c]] w fun e w' => e = .returned (.bool (trmB a.s a.p.args)) ∧ Below w.heap.size w w' := by
  have HR := Lib.hid g
  have HS := Lib.hid hS
  have HOK := Lib.hid hok.2
  have hal := hok.1
  clear g hS hok
  go_enter Tryd.func63, Tryd.ntmps63
  go_wp2
  go_loopw [9] (fun iv wr => ∃ k : Nat, k ≤ a.p.args.length ∧ iv = .int .i64 k ∧ Hid (Below w.heap.size w wr) ∧ Hid (wr.cell? ⟨w.heap.size, 5, none⟩ = some (.int .i64 a.s)) ∧ Hid (trmB a.s (a.p.args.take k) = true)) (fun iv _ => a.p.args.length - (intOf iv).toNat)
  case atStart => exact ⟨0, Nat.zero_le _, rfl, Lib.hid (by repeat (first | exact Below.refl _ _ | refine Below.setCell ?_ (by simp) _ | refine Below.alloc ?_ (by simp <;> omega) _)), Lib.hid (by simp [go_sem]), Lib.hid (by simp [trmB])⟩
  case round =>
    obtain ⟨k, hk, rfl, HB, HQ, HT⟩ := hrel
    have q5 := HQ.out
    by_cases hlt : k < a.p.args.length
    · obtain ⟨b5, o5, cs5, e5, rfl, hb5, hR5, hx5, hc5⟩ := (HR.out.keep (SameOn.of_below HB.out HS.out)).at_ (k := k) hlt
      obtain ⟨A5, c5, rfl, hl5, hm5, hr5⟩ := hR5
      have r5 : wr.cell? ⟨b5, o5 + k, none⟩ = some (.slice A5 e5.length c5) := by have := hc5 0 _ rfl; simpa [listR] using this
      have CI := implValid_any A5 e5.length c5 e5 a.s 15 wr wr.heap.size (hr5.trow fun b hb => Nat.lt_of_lt_of_le (HS.out b hb) HB.out.size) (Nat.le_refl _) rfl (by have := (HOK.out e5 (List.mem_of_getElem? hx5.out)).1; omega)
      rw [vtB_yes (by omega)] at CI
      have hws := HB.out.size
      have hcw : w.heap.size < wr.heap.size := World.block_lt_of_cell? wr _ q5
      clear hc5 hr5 hl5 hm5
      rcases t : exB a.s 15 e5 with _ | _
      · have HF := Lib.hid (show trmB a.s a.p.args = false from trm_bad hx5.out t)
        rw [t] at CI
        have C := Lib.hid CI
        clear CI t
        go_wp2_with (go_at_call 69; refine C.out.mono ?_; rintro e w3 ⟨rfl, hb⟩; have HB2 := Lib.hid (HB.out.trans (hb.mono hws)); clear hb)
        go_ret
        exact ⟨ret_bool HF.out.symm, HB2.out⟩
      · have HN := Lib.hid (trm_next HT.out hx5.out t)
        rw [t] at CI
        have C := Lib.hid CI
        clear CI t
        go_wp2_with (go_at_call 69; refine C.out.mono ?_; rintro e w3 ⟨rfl, hb⟩; have HB2 := Lib.hid (HB.out.trans (hb.mono hws)); have HQ2 := Lib.hid ((hb.cell (p := ⟨w.heap.size, 5, none⟩) hcw).trans q5); clear hb)
        go_roundw
        case rel => exact ⟨k + 1, by omega, by go_num, HB2, HQ2, HN⟩
        case measure => simp [intOf]; omega
    · have HF := Lib.hid (show trmB a.s a.p.args = true by
        have ht := HT.out
        rwa [List.take_of_length_le (by omega)] at ht)
      go_wp2
      go_ret
      exact ⟨ret_bool HF.out.symm, HB.out⟩
end Go.Proofs.YthinoagdgbnphaaDoor
