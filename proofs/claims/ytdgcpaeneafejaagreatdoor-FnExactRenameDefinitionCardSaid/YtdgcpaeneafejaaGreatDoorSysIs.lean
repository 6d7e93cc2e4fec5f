/- Systems in the laws' own helpers: how much one holds, a copy, comparing. -/
import Derived.Test.YtdgcpaeneafejaaGreatDoorDatI
import Derived.Test.YtdgcpaeneafejaaGreatDoorDatP
import Derived.Test.YtdgcpaeneafejaaGreatDoorDatC
import Derived.Test.YtdgcpaeneafejaaGreatDoorSameM
import Derived.Test.YtdgcpaeneafejaaGreatDoorOwnS
namespace Go.Proofs.YtdgcpaeneafejaaGreatDoor
open Go.RowKit
def okSy (x : Sy) : Prop := okList okDf x.ds ∧ okList okCp x.cs ∧ okList okMt x.ms ∧ okList okTx x.al ∧ okList okTx x.hd
theorem carry {α : Type} {F : Rec α} {w w2 : World} {lo : Nat} {A : Option Addr} {xs : List α} {p : Nat} {o : Nat} {v : Value} (h : LRow F w (In lo w.heap.size) A xs) (hp : p < lo) (hb : Below (w.setCell ⟨p, o, none⟩ v).heap.size (w.setCell ⟨p, o, none⟩ v) w2) : LRow F w2 (In lo w2.heap.size) A xs := by
  have hs : (w.setCell ⟨p, o, none⟩ v).heap.size = w.heap.size := by simp [World.setCell]
  have hs2 := hb.size
  rw [hs] at hs2
  refine LRow.more (LRow.keep (LRow.keep h (SameOn.setCell (SameOn.refl _ _) (by intro h; have := h.1; omega))) (SameOn.of_below hb ?_)) ?_
  · intro b hb2
    rw [hs]
    exact hb2.2
  · intro b hb2
    exact ⟨hb2.1, Nat.lt_of_lt_of_le hb2.2 hs2⟩
set_option maxRecDepth 100000 in
set_option maxHeartbeats 4000000 in
theorem szDSystem_any (x : Sy) (A1 A2 A3 A4 A5 : Option Addr) (c1 c2 c3 c4 c5 : Nat) (S : Nat → Prop) (left : Int) (w : World) (m1 : x.ds.length ≤ maxLen) (m2 : x.cs.length ≤ maxLen) (m3 : x.ms.length ≤ maxLen) (m4 : x.al.length ≤ maxLen) (m5 : x.hd.length ≤ maxLen) (h1 : LRow dfR w S A1 x.ds) (h2 : LRow cpR w S A2 x.cs) (h3 : LRow mtR w S A3 x.ms) (h4 : LRow txtR w S A4 x.al) (h5 : LRow txtR w S A5 x.hd) (hS : ∀ b, S b → b < w.heap.size) (z2 : 0 ≤ left) (z3 : left ≤ 1048576) :
    Calls Tryz.prog 9 #[.agg #[.slice A1 x.ds.length c1, .slice A2 x.cs.length c2, .slice A3 x.ms.length c3, .slice A4 x.al.length c4, .slice A5 x.hd.length c5], .int .i64 left] w (SzRet (okSy x) (wtSy x) left w) := by
  have C1 := Lib.hid (fun (W : World) (hW : Below w.heap.size w W) (r : Int) (r0 : 0 ≤ r) (r1 : r ≤ 1048576) => (Calls.mono (szDDefinitionS_any A1 x.ds.length c1 x.ds r W S (h1.keep (SameOn.of_below hW hS)) (fun b hb => Nat.lt_of_lt_of_le (hS b hb) hW.size) rfl m1 r0 r1) (fun e w' ⟨q, he, hq, hb⟩ => (⟨q, he, hq, hW.trans (Below.mono hb hW.size), hb⟩ : ∃ q : Int, e = Ending.returned (.int .i64 q) ∧ (q < 0 ∨ (0 ≤ q ∧ q + (wL wtDf x.ds : Nat) ≤ r ∧ okList okDf x.ds)) ∧ Below w.heap.size w w' ∧ Below W.heap.size W w'))))
  have C2 := Lib.hid (fun (W : World) (hW : Below w.heap.size w W) (r : Int) (r0 : 0 ≤ r) (r1 : r ≤ 1048576) => (Calls.mono (szDComponentS_any A2 x.cs.length c2 x.cs r W S (h2.keep (SameOn.of_below hW hS)) (fun b hb => Nat.lt_of_lt_of_le (hS b hb) hW.size) rfl m2 r0 r1) (fun e w' ⟨q, he, hq, hb⟩ => (⟨q, he, hq, hW.trans (Below.mono hb hW.size), hb⟩ : ∃ q : Int, e = Ending.returned (.int .i64 q) ∧ (q < 0 ∨ (0 ≤ q ∧ q + (wL wtCp x.cs : Nat) ≤ r ∧ okList okCp x.cs)) ∧ Below w.heap.size w w' ∧ Below W.heap.size W w'))))
  have C3 := Lib.hid (fun (W : World) (hW : Below w.heap.size w W) (r : Int) (r0 : 0 ≤ r) (r1 : r ≤ 1048576) => (Calls.mono (szDMeetingS_any A3 x.ms.length c3 x.ms r W S (h3.keep (SameOn.of_below hW hS)) (fun b hb => Nat.lt_of_lt_of_le (hS b hb) hW.size) rfl m3 r0 r1) (fun e w' ⟨q, he, hq, hb⟩ => (⟨q, he, hq, hW.trans (Below.mono hb hW.size), hb⟩ : ∃ q : Int, e = Ending.returned (.int .i64 q) ∧ (q < 0 ∨ (0 ≤ q ∧ q + (wL wtZ x.ms : Nat) ≤ r ∧ okList okMt x.ms)) ∧ Below w.heap.size w w' ∧ Below W.heap.size W w'))))
  have C4 := Lib.hid (fun (W : World) (hW : Below w.heap.size w W) (r : Int) (r0 : 0 ≤ r) (r1 : r ≤ 1048576) => (Calls.mono (szDStringS_any A4 x.al.length c4 x.al r W S (h4.keep (SameOn.of_below hW hS)) (fun b hb => Nat.lt_of_lt_of_le (hS b hb) hW.size) rfl m4 r0 r1) (fun e w' ⟨q, he, hq, hb⟩ => (⟨q, he, hq, hW.trans (Below.mono hb hW.size), hb⟩ : ∃ q : Int, e = Ending.returned (.int .i64 q) ∧ (q < 0 ∨ (0 ≤ q ∧ q + (wL wtZ x.al : Nat) ≤ r ∧ okList okTx x.al)) ∧ Below w.heap.size w w' ∧ Below W.heap.size W w'))))
  have C5 := Lib.hid (fun (W : World) (hW : Below w.heap.size w W) (r : Int) (r0 : 0 ≤ r) (r1 : r ≤ 1048576) => (Calls.mono (szDStringS_any A5 x.hd.length c5 x.hd r W S (h5.keep (SameOn.of_below hW hS)) (fun b hb => Nat.lt_of_lt_of_le (hS b hb) hW.size) rfl m5 r0 r1) (fun e w' ⟨q, he, hq, hb⟩ => (⟨q, he, hq, hW.trans (Below.mono hb hW.size), hb⟩ : ∃ q : Int, e = Ending.returned (.int .i64 q) ∧ (q < 0 ∨ (0 ≤ q ∧ q + (wL wtZ x.hd : Nat) ≤ r ∧ okList okTx x.hd)) ∧ Below w.heap.size w w' ∧ Below W.heap.size W w'))))
  clear h1 m1 h2 m2 h3 m3 h4 m4 h5 m5 hS
  go_enter Tryz.func9, Tryz.ntmps9
  go_wp2_with fail
  refine (C1.out _ (by repeat (first | exact Below.refl _ _ | refine Below.setCell ?_ (by simp) _ | refine Below.alloc ?_ (by simp <;> omega) _)) left z2 z3).mono ?_
  rintro e w1q ⟨q1, rfl, hq, b2, b3⟩
  obtain ⟨hcc1, _⟩ := bcell b3
  have hz1 : w.heap.size + 1 ≤ w1q.heap.size := by have := b3.size; (try simp at this); omega
  have hy1 : w.heap.size < w1q.heap.size := by omega
  have B1q := Lib.hid b2
  clear b2 b3
  rcases hq with hq | ⟨hp1, hl1, hok⟩
  · go_wp2
    go_ret
    exact SzRet.no B1q.out
  have hn1 : ¬ q1 < 0 := by omega
  have K1 := Lib.hid hok
  clear hok
  go_wp2_with fail
  refine (C2.out _ B1q.out q1 hp1 (by omega)).mono ?_
  rintro e w2q ⟨q2, rfl, hq, b2, b3⟩
  obtain ⟨hcc2, _⟩ := bcell b3
  have hz2 : w.heap.size + 1 ≤ w2q.heap.size := by have := b3.size; (try simp at this); omega
  have hy2 : w.heap.size < w2q.heap.size := by omega
  have B2q := Lib.hid b2
  clear b2 b3
  rcases hq with hq | ⟨hp2, hl2, hok⟩
  · go_wp2
    go_ret
    exact SzRet.no B2q.out
  have hn2 : ¬ q2 < 0 := by omega
  have K2 := Lib.hid hok
  clear hok
  go_wp2_with fail
  refine (C3.out _ B2q.out q2 hp2 (by omega)).mono ?_
  rintro e w3q ⟨q3, rfl, hq, b2, b3⟩
  obtain ⟨hcc3, _⟩ := bcell b3
  have hz3 : w.heap.size + 1 ≤ w3q.heap.size := by have := b3.size; (try simp at this); omega
  have hy3 : w.heap.size < w3q.heap.size := by omega
  have B3q := Lib.hid b2
  clear b2 b3
  rcases hq with hq | ⟨hp3, hl3, hok⟩
  · go_wp2
    go_ret
    exact SzRet.no B3q.out
  have hn3 : ¬ q3 < 0 := by omega
  have K3 := Lib.hid hok
  clear hok
  go_wp2_with fail
  refine (C4.out _ B3q.out q3 hp3 (by omega)).mono ?_
  rintro e w4q ⟨q4, rfl, hq, b2, b3⟩
  obtain ⟨hcc4, _⟩ := bcell b3
  have hz4 : w.heap.size + 1 ≤ w4q.heap.size := by have := b3.size; (try simp at this); omega
  have hy4 : w.heap.size < w4q.heap.size := by omega
  have B4q := Lib.hid b2
  clear b2 b3
  rcases hq with hq | ⟨hp4, hl4, hok⟩
  · go_wp2
    go_ret
    exact SzRet.no B4q.out
  have hn4 : ¬ q4 < 0 := by omega
  have K4 := Lib.hid hok
  clear hok
  go_wp2_with fail
  refine (C5.out _ B4q.out q4 hp4 (by omega)).mono ?_
  rintro e w5q ⟨q5, rfl, hq, b2, b3⟩
  obtain ⟨hcc5, _⟩ := bcell b3
  have hz5 : w.heap.size + 1 ≤ w5q.heap.size := by have := b3.size; (try simp at this); omega
  have hy5 : w.heap.size < w5q.heap.size := by omega
  have B5q := Lib.hid b2
  clear b2 b3
  rcases hq with hq | ⟨hp5, hl5, hok⟩
  · go_wp2
    go_ret
    exact SzRet.no B5q.out
  have hn5 : ¬ q5 < 0 := by omega
  have K5 := Lib.hid hok
  clear hok
  go_wp2
  go_ret
  exact SzRet.yes hp5 (by show q5 + ((wL wtDf x.ds + wL wtCp x.cs + wL wtZ x.ms + wL wtZ x.al + wL wtZ x.hd : Nat) : Int) ≤ left; omega) ⟨K1.out, K2.out, K3.out, K4.out, K5.out⟩ B5q.out
end Go.Proofs.YtdgcpaeneafejaaGreatDoor
