/- Systems compared: the model's and the program's functions. -/
import Derived.Test.YtnlpfomgicdbmaaSameF
import Derived.Test.YtnlpfomgicdbmaaSameP
import Derived.Test.YtnlpfomgicdbmaaSameB
namespace Go.Proofs.Ytnlpfomgicdbmaa
open Go.RowKit
set_option maxRecDepth 100000 in
set_option maxHeartbeats 4000000 in
theorem implSame_any (x y : Sy) (A1 A2 A3 A4 A5 : Option Addr) (c1 c2 c3 c4 c5 : Nat) (B1 B2 B3 B4 B5 : Option Addr) (d1 d2 d3 d4 d5 : Nat) (w : World) (S1 S2 : Nat → Prop) (m1 : x.ds.length ≤ maxLen) (m2 : x.cs.length ≤ maxLen) (m3 : x.ms.length ≤ maxLen) (m4 : x.al.length ≤ maxLen) (m5 : x.hd.length ≤ maxLen) (h1 : LRow dfR w S1 A1 x.ds) (h2 : LRow cpR w S1 A2 x.cs) (h3 : LRow mtR w S1 A3 x.ms) (h4 : LRow txtR w S1 A4 x.al) (h5 : LRow txtR w S1 A5 x.hd) (g1 : LRow dfR w S2 B1 y.ds) (g2 : LRow cpR w S2 B2 y.cs) (g3 : LRow mtR w S2 B3 y.ms) (g4 : LRow txtR w S2 B4 y.al) (g5 : LRow txtR w S2 B5 y.hd) (hS1 : ∀ b, S1 b → b < w.heap.size) (hS2 : ∀ b, S2 b → b < w.heap.size) :
    Calls Try.prog 7 #[.agg #[.slice A1 x.ds.length c1, .slice A2 x.cs.length c2, .slice A3 x.ms.length c3, .slice A4 x.al.length c4, .slice A5 x.hd.length c5], .agg #[.slice B1 y.ds.length d1, .slice B2 y.cs.length d2, .slice B3 y.ms.length d3, .slice B4 y.al.length d4, .slice B5 y.hd.length d5]] w fun e w' => e = .returned (.bool (syE x y)) ∧ Below w.heap.size w w' := by
  have C1 := Lib.hid (fun (W : World) (hW : Below w.heap.size w W) => (Calls.mono (eqfDf_any A1 B1 x.ds.length y.ds.length c1 d1 x.ds y.ds W S1 S2 (h1.keep (SameOn.of_below hW hS1)) (g1.keep (SameOn.of_below hW hS2)) (fun b hb => Nat.lt_of_lt_of_le (hS1 b hb) hW.size) (fun b hb => Nat.lt_of_lt_of_le (hS2 b hb) hW.size) rfl rfl m1) (fun e w' ⟨he, hb⟩ => (⟨he, hW.trans (Below.mono hb hW.size), hb⟩ : e = Ending.returned (Value.bool (eqL dfE x.ds y.ds)) ∧ Below w.heap.size w w' ∧ Below W.heap.size W w'))))
  have C2 := Lib.hid (fun (W : World) (hW : Below w.heap.size w W) => (Calls.mono (eqfCp_any A2 B2 x.cs.length y.cs.length c2 d2 x.cs y.cs W S1 S2 (h2.keep (SameOn.of_below hW hS1)) (g2.keep (SameOn.of_below hW hS2)) (fun b hb => Nat.lt_of_lt_of_le (hS1 b hb) hW.size) (fun b hb => Nat.lt_of_lt_of_le (hS2 b hb) hW.size) rfl rfl m2) (fun e w' ⟨he, hb⟩ => (⟨he, hW.trans (Below.mono hb hW.size), hb⟩ : e = Ending.returned (Value.bool (eqL cpE x.cs y.cs)) ∧ Below w.heap.size w w' ∧ Below W.heap.size W w'))))
  have C3 := Lib.hid (fun (W : World) (hW : Below w.heap.size w W) => (Calls.mono (eqMts_any A3 B3 x.ms.length y.ms.length c3 d3 x.ms y.ms W S1 S2 (h3.keep (SameOn.of_below hW hS1)) (g3.keep (SameOn.of_below hW hS2)) rfl rfl m3) (fun e w' ⟨he, hb⟩ => (⟨he, hW.trans (hb.below _), hb.below _⟩ : e = Ending.returned (Value.bool (eqL mtE x.ms y.ms)) ∧ Below w.heap.size w w' ∧ Below W.heap.size W w'))))
  have C4 := Lib.hid (fun (W : World) (hW : Below w.heap.size w W) => (Calls.mono (eqTxts_any A4 B4 x.al.length y.al.length c4 d4 x.al y.al W S1 S2 (h4.keep (SameOn.of_below hW hS1)) (g4.keep (SameOn.of_below hW hS2)) rfl rfl m4) (fun e w' ⟨he, hb⟩ => (⟨he, hW.trans (hb.below _), hb.below _⟩ : e = Ending.returned (Value.bool (eqL txtE x.al y.al)) ∧ Below w.heap.size w w' ∧ Below W.heap.size W w'))))
  have C5 := Lib.hid (fun (W : World) (hW : Below w.heap.size w W) => (Calls.mono (eqTxts_any A5 B5 x.hd.length y.hd.length c5 d5 x.hd y.hd W S1 S2 (h5.keep (SameOn.of_below hW hS1)) (g5.keep (SameOn.of_below hW hS2)) rfl rfl m5) (fun e w' ⟨he, hb⟩ => (⟨he, hW.trans (hb.below _), hb.below _⟩ : e = Ending.returned (Value.bool (eqL txtE x.hd y.hd)) ∧ Below w.heap.size w w' ∧ Below W.heap.size W w'))))
  clear h1 g1 m1 h2 g2 m2 h3 g3 m3 h4 g4 m4 h5 g5 m5
  rcases q1 : eqL dfE x.ds y.ds with _ | _
  · have HF := Lib.hid (show syE x y = false by simp [syE, q1])
    have HQ1 := Lib.hid q1
    clear q1
    go_enter Try.func7, Try.ntmps7
    go_wp2_with fail
    refine (C1.out _ (by repeat (first | exact Below.refl _ _ | refine Below.setCell ?_ (by simp) _ | refine Below.alloc ?_ (by simp <;> omega) _))).mono ?_
    rw [HQ1.out]
    rintro e w1q ⟨rfl, b2, b3⟩
    obtain ⟨hcc1, _⟩ := bcell b3
    have hz1 : w.heap.size + 2 ≤ w1q.heap.size := by have := b3.size; (try simp at this); omega
    have hy1 : w.heap.size < w1q.heap.size := by omega
    have hx1 : w.heap.size + 1 < w1q.heap.size := by omega
    have B1q := Lib.hid b2
    clear b2 b3
    go_wp2
    go_ret
    exact ⟨ret_bool HF.out.symm, B1q.out⟩
  rcases q2 : eqL cpE x.cs y.cs with _ | _
  · have HF := Lib.hid (show syE x y = false by simp [syE, q1, q2])
    have HQ1 := Lib.hid q1
    have HQ2 := Lib.hid q2
    clear q1 q2
    go_enter Try.func7, Try.ntmps7
    go_wp2_with fail
    refine (C1.out _ (by repeat (first | exact Below.refl _ _ | refine Below.setCell ?_ (by simp) _ | refine Below.alloc ?_ (by simp <;> omega) _))).mono ?_
    rw [HQ1.out]
    rintro e w1q ⟨rfl, b2, b3⟩
    obtain ⟨hcc1, _⟩ := bcell b3
    have hz1 : w.heap.size + 2 ≤ w1q.heap.size := by have := b3.size; (try simp at this); omega
    have hy1 : w.heap.size < w1q.heap.size := by omega
    have hx1 : w.heap.size + 1 < w1q.heap.size := by omega
    have B1q := Lib.hid b2
    clear b2 b3
    go_wp2_with fail
    refine (C2.out _ B1q.out).mono ?_
    rw [HQ2.out]
    rintro e w2q ⟨rfl, b2, b3⟩
    obtain ⟨hcc2, _⟩ := bcell b3
    have hz2 : w.heap.size + 2 ≤ w2q.heap.size := by have := b3.size; (try simp at this); omega
    have hy2 : w.heap.size < w2q.heap.size := by omega
    have hx2 : w.heap.size + 1 < w2q.heap.size := by omega
    have B2q := Lib.hid b2
    clear b2 b3
    go_wp2
    go_ret
    exact ⟨ret_bool HF.out.symm, B2q.out⟩
  rcases q3 : eqL mtE x.ms y.ms with _ | _
  · have HF := Lib.hid (show syE x y = false by simp [syE, q1, q2, q3])
    have HQ1 := Lib.hid q1
    have HQ2 := Lib.hid q2
    have HQ3 := Lib.hid q3
    clear q1 q2 q3
    go_enter Try.func7, Try.ntmps7
    go_wp2_with fail
    refine (C1.out _ (by repeat (first | exact Below.refl _ _ | refine Below.setCell ?_ (by simp) _ | refine Below.alloc ?_ (by simp <;> omega) _))).mono ?_
    rw [HQ1.out]
    rintro e w1q ⟨rfl, b2, b3⟩
    obtain ⟨hcc1, _⟩ := bcell b3
    have hz1 : w.heap.size + 2 ≤ w1q.heap.size := by have := b3.size; (try simp at this); omega
    have hy1 : w.heap.size < w1q.heap.size := by omega
    have hx1 : w.heap.size + 1 < w1q.heap.size := by omega
    have B1q := Lib.hid b2
    clear b2 b3
    go_wp2_with fail
    refine (C2.out _ B1q.out).mono ?_
    rw [HQ2.out]
    rintro e w2q ⟨rfl, b2, b3⟩
    obtain ⟨hcc2, _⟩ := bcell b3
    have hz2 : w.heap.size + 2 ≤ w2q.heap.size := by have := b3.size; (try simp at this); omega
    have hy2 : w.heap.size < w2q.heap.size := by omega
    have hx2 : w.heap.size + 1 < w2q.heap.size := by omega
    have B2q := Lib.hid b2
    clear b2 b3
    go_wp2_with fail
    refine (C3.out _ B2q.out).mono ?_
    rw [HQ3.out]
    rintro e w3q ⟨rfl, b2, b3⟩
    obtain ⟨hcc3, _⟩ := bcell b3
    have hz3 : w.heap.size + 2 ≤ w3q.heap.size := by have := b3.size; (try simp at this); omega
    have hy3 : w.heap.size < w3q.heap.size := by omega
    have hx3 : w.heap.size + 1 < w3q.heap.size := by omega
    have B3q := Lib.hid b2
    clear b2 b3
    go_wp2
    go_ret
    exact ⟨ret_bool HF.out.symm, B3q.out⟩
  rcases q4 : eqL txtE x.al y.al with _ | _
  · have HF := Lib.hid (show syE x y = false by simp [syE, q1, q2, q3, q4])
    have HQ1 := Lib.hid q1
    have HQ2 := Lib.hid q2
    have HQ3 := Lib.hid q3
    have HQ4 := Lib.hid q4
    clear q1 q2 q3 q4
    go_enter Try.func7, Try.ntmps7
    go_wp2_with fail
    refine (C1.out _ (by repeat (first | exact Below.refl _ _ | refine Below.setCell ?_ (by simp) _ | refine Below.alloc ?_ (by simp <;> omega) _))).mono ?_
    rw [HQ1.out]
    rintro e w1q ⟨rfl, b2, b3⟩
    obtain ⟨hcc1, _⟩ := bcell b3
    have hz1 : w.heap.size + 2 ≤ w1q.heap.size := by have := b3.size; (try simp at this); omega
    have hy1 : w.heap.size < w1q.heap.size := by omega
    have hx1 : w.heap.size + 1 < w1q.heap.size := by omega
    have B1q := Lib.hid b2
    clear b2 b3
    go_wp2_with fail
    refine (C2.out _ B1q.out).mono ?_
    rw [HQ2.out]
    rintro e w2q ⟨rfl, b2, b3⟩
    obtain ⟨hcc2, _⟩ := bcell b3
    have hz2 : w.heap.size + 2 ≤ w2q.heap.size := by have := b3.size; (try simp at this); omega
    have hy2 : w.heap.size < w2q.heap.size := by omega
    have hx2 : w.heap.size + 1 < w2q.heap.size := by omega
    have B2q := Lib.hid b2
    clear b2 b3
    go_wp2_with fail
    refine (C3.out _ B2q.out).mono ?_
    rw [HQ3.out]
    rintro e w3q ⟨rfl, b2, b3⟩
    obtain ⟨hcc3, _⟩ := bcell b3
    have hz3 : w.heap.size + 2 ≤ w3q.heap.size := by have := b3.size; (try simp at this); omega
    have hy3 : w.heap.size < w3q.heap.size := by omega
    have hx3 : w.heap.size + 1 < w3q.heap.size := by omega
    have B3q := Lib.hid b2
    clear b2 b3
    go_wp2_with fail
    refine (C4.out _ B3q.out).mono ?_
    rw [HQ4.out]
    rintro e w4q ⟨rfl, b2, b3⟩
    obtain ⟨hcc4, _⟩ := bcell b3
    have hz4 : w.heap.size + 2 ≤ w4q.heap.size := by have := b3.size; (try simp at this); omega
    have hy4 : w.heap.size < w4q.heap.size := by omega
    have hx4 : w.heap.size + 1 < w4q.heap.size := by omega
    have B4q := Lib.hid b2
    clear b2 b3
    go_wp2
    go_ret
    exact ⟨ret_bool HF.out.symm, B4q.out⟩
  rcases q5 : eqL txtE x.hd y.hd with _ | _
  · have HF := Lib.hid (show syE x y = false by simp [syE, q1, q2, q3, q4, q5])
    have HQ1 := Lib.hid q1
    have HQ2 := Lib.hid q2
    have HQ3 := Lib.hid q3
    have HQ4 := Lib.hid q4
    have HQ5 := Lib.hid q5
    clear q1 q2 q3 q4 q5
    go_enter Try.func7, Try.ntmps7
    go_wp2_with fail
    refine (C1.out _ (by repeat (first | exact Below.refl _ _ | refine Below.setCell ?_ (by simp) _ | refine Below.alloc ?_ (by simp <;> omega) _))).mono ?_
    rw [HQ1.out]
    rintro e w1q ⟨rfl, b2, b3⟩
    obtain ⟨hcc1, _⟩ := bcell b3
    have hz1 : w.heap.size + 2 ≤ w1q.heap.size := by have := b3.size; (try simp at this); omega
    have hy1 : w.heap.size < w1q.heap.size := by omega
    have hx1 : w.heap.size + 1 < w1q.heap.size := by omega
    have B1q := Lib.hid b2
    clear b2 b3
    go_wp2_with fail
    refine (C2.out _ B1q.out).mono ?_
    rw [HQ2.out]
    rintro e w2q ⟨rfl, b2, b3⟩
    obtain ⟨hcc2, _⟩ := bcell b3
    have hz2 : w.heap.size + 2 ≤ w2q.heap.size := by have := b3.size; (try simp at this); omega
    have hy2 : w.heap.size < w2q.heap.size := by omega
    have hx2 : w.heap.size + 1 < w2q.heap.size := by omega
    have B2q := Lib.hid b2
    clear b2 b3
    go_wp2_with fail
    refine (C3.out _ B2q.out).mono ?_
    rw [HQ3.out]
    rintro e w3q ⟨rfl, b2, b3⟩
    obtain ⟨hcc3, _⟩ := bcell b3
    have hz3 : w.heap.size + 2 ≤ w3q.heap.size := by have := b3.size; (try simp at this); omega
    have hy3 : w.heap.size < w3q.heap.size := by omega
    have hx3 : w.heap.size + 1 < w3q.heap.size := by omega
    have B3q := Lib.hid b2
    clear b2 b3
    go_wp2_with fail
    refine (C4.out _ B3q.out).mono ?_
    rw [HQ4.out]
    rintro e w4q ⟨rfl, b2, b3⟩
    obtain ⟨hcc4, _⟩ := bcell b3
    have hz4 : w.heap.size + 2 ≤ w4q.heap.size := by have := b3.size; (try simp at this); omega
    have hy4 : w.heap.size < w4q.heap.size := by omega
    have hx4 : w.heap.size + 1 < w4q.heap.size := by omega
    have B4q := Lib.hid b2
    clear b2 b3
    go_wp2_with fail
    refine (C5.out _ B4q.out).mono ?_
    rw [HQ5.out]
    rintro e w5q ⟨rfl, b2, b3⟩
    obtain ⟨hcc5, _⟩ := bcell b3
    have hz5 : w.heap.size + 2 ≤ w5q.heap.size := by have := b3.size; (try simp at this); omega
    have hy5 : w.heap.size < w5q.heap.size := by omega
    have hx5 : w.heap.size + 1 < w5q.heap.size := by omega
    have B5q := Lib.hid b2
    clear b2 b3
    go_wp2
    go_ret
    exact ⟨ret_bool HF.out.symm, B5q.out⟩
  have HF := Lib.hid (show syE x y = true by simp [syE, q1, q2, q3, q4, q5])
  have HQ1 := Lib.hid q1
  have HQ2 := Lib.hid q2
  have HQ3 := Lib.hid q3
  have HQ4 := Lib.hid q4
  have HQ5 := Lib.hid q5
  clear q1 q2 q3 q4 q5
  go_enter Try.func7, Try.ntmps7
  go_wp2_with fail
  refine (C1.out _ (by repeat (first | exact Below.refl _ _ | refine Below.setCell ?_ (by simp) _ | refine Below.alloc ?_ (by simp <;> omega) _))).mono ?_
  rw [HQ1.out]
  rintro e w1q ⟨rfl, b2, b3⟩
  obtain ⟨hcc1, _⟩ := bcell b3
  have hz1 : w.heap.size + 2 ≤ w1q.heap.size := by have := b3.size; (try simp at this); omega
  have hy1 : w.heap.size < w1q.heap.size := by omega
  have hx1 : w.heap.size + 1 < w1q.heap.size := by omega
  have B1q := Lib.hid b2
  clear b2 b3
  go_wp2_with fail
  refine (C2.out _ B1q.out).mono ?_
  rw [HQ2.out]
  rintro e w2q ⟨rfl, b2, b3⟩
  obtain ⟨hcc2, _⟩ := bcell b3
  have hz2 : w.heap.size + 2 ≤ w2q.heap.size := by have := b3.size; (try simp at this); omega
  have hy2 : w.heap.size < w2q.heap.size := by omega
  have hx2 : w.heap.size + 1 < w2q.heap.size := by omega
  have B2q := Lib.hid b2
  clear b2 b3
  go_wp2_with fail
  refine (C3.out _ B2q.out).mono ?_
  rw [HQ3.out]
  rintro e w3q ⟨rfl, b2, b3⟩
  obtain ⟨hcc3, _⟩ := bcell b3
  have hz3 : w.heap.size + 2 ≤ w3q.heap.size := by have := b3.size; (try simp at this); omega
  have hy3 : w.heap.size < w3q.heap.size := by omega
  have hx3 : w.heap.size + 1 < w3q.heap.size := by omega
  have B3q := Lib.hid b2
  clear b2 b3
  go_wp2_with fail
  refine (C4.out _ B3q.out).mono ?_
  rw [HQ4.out]
  rintro e w4q ⟨rfl, b2, b3⟩
  obtain ⟨hcc4, _⟩ := bcell b3
  have hz4 : w.heap.size + 2 ≤ w4q.heap.size := by have := b3.size; (try simp at this); omega
  have hy4 : w.heap.size < w4q.heap.size := by omega
  have hx4 : w.heap.size + 1 < w4q.heap.size := by omega
  have B4q := Lib.hid b2
  clear b2 b3
  go_wp2_with fail
  refine (C5.out _ B4q.out).mono ?_
  rw [HQ5.out]
  rintro e w5q ⟨rfl, b2, b3⟩
  obtain ⟨hcc5, _⟩ := bcell b3
  have hz5 : w.heap.size + 2 ≤ w5q.heap.size := by have := b3.size; (try simp at this); omega
  have hy5 : w.heap.size < w5q.heap.size := by omega
  have hx5 : w.heap.size + 1 < w5q.heap.size := by omega
  have B5q := Lib.hid b2
  clear b2 b3
  go_wp2
  go_ret
  exact ⟨ret_bool HF.out.symm, B5q.out⟩
end Go.Proofs.Ytnlpfomgicdbmaa
