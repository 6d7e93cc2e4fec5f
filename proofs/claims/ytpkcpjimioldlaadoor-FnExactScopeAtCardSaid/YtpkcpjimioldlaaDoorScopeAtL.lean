/- The law of ScopeAt, walked. -/
import Derived.Test.YtpkcpjimioldlaaDoorDatP
import Derived.Test.YtpkcpjimioldlaaDoorPeK
namespace Go.Proofs.YtpkcpjimioldlaaDoor
open Go.RowKit
set_option maxRecDepth 100000 in
set_option maxHeartbeats 4000000 in
theorem lawScopeAt_any (A : Option Addr) (n c : Nat) (ls : List Df) (kk : Int) (pp : Int) (w : World) (h : LRow dfR w (· < w.heap.size) A ls) (l : ls.length = n) (hn : n ≤ maxLen) (ht : FormTab w) :
    Calls Tryd.prog 5 #[.slice A n c, .int .i64 kk, .int .i64 pp] w fun e w' => e = .returned (.bool true) ∧ Below w.heap.size w w' := by
  subst l
  have HR := Lib.hid h
  have HT := Lib.hid ht
  have HN := Lib.hid hn
  have hne0 : ((saR ls kk pp).1 != (saR ls kk pp).1) = false := by simp
  have hne1 : ((saR ls kk pp).2 != (saR ls kk pp).2) = false := by simp
  clear h ht hn
  go_enter Tryd.func5, Tryd.ntmps5
  go_wp2_with fail
  refine (szDDefinitionS_any A _ c ls 1048576 _ _ HR.out (fun b h => h) rfl HN.out (by omega) (by omega)).mono ?_
  rintro e v1 ⟨q, rfl, hq, b1⟩
  rcases hq with hq | ⟨_, _, hok⟩
  · go_wp2
    go_ret
    exact ⟨rfl, b1⟩
  have hn1 : ¬ q < 0 := by omega
  have HOK := Lib.hid hok
  have s1 := b1.size
  have B1 := Lib.hid b1
  clear hok b1
  go_wp2_with fail
  refine (toDDefinitionS_any A _ c ls _ _ (HR.out.keep (SameOn.of_below B1.out fun b h => h)) (fun b h => Nat.lt_of_lt_of_le h s1) rfl HOK.out).mono ?_
  rintro e v2 ⟨rfl, r2, b2⟩
  have s2 := b2.size
  have R2 := Lib.hid r2
  have B2 := Lib.hid (B1.out.trans (b2.mono s1))
  clear r2 b2
  go_wp2_with fail
  refine (specScopeAt_any _ _ _ ls kk pp _ _ R2.out rfl (fun b h => h.2) HOK.out).mono ?_
  rintro e v3 ⟨rfl, b3⟩
  have s3 := b3.size
  have B3 := Lib.hid (B2.out.trans (b3.mono (by omega)))
  clear b3
  go_wp2_with fail
  refine (toDDefinitionS_any A _ c ls _ _ (HR.out.keep (SameOn.of_below B3.out fun b h => h)) (fun b h => Nat.lt_of_lt_of_le h (by omega)) rfl HOK.out).mono ?_
  rintro e v4 ⟨rfl, r4, b4⟩
  have s4 := b4.size
  have R4 := Lib.hid r4
  have B4 := Lib.hid (B3.out.trans (b4.mono (by omega)))
  clear r4 b4
  go_wp2_with fail
  refine (implScopeAt_any _ _ ls kk pp _ _ R4.out (fun b h => h.2) HOK.out (HT.out.below B4.out)).mono ?_
  rintro e v5 ⟨rfl, b5⟩
  have s5 := b5.size
  have B5 := Lib.hid (B4.out.trans (b5.mono (by omega)))
  have R5 := Lib.hid (R4.out.keep (SameOn.of_below b5 fun b h => h.2))
  clear b5
  go_wp2_with fail
  refine (toDDefinitionS_any A _ c ls _ _ (HR.out.keep (SameOn.of_below B5.out fun b h => h)) (fun b h => Nat.lt_of_lt_of_le h (by omega)) rfl HOK.out).mono ?_
  rintro e v6 ⟨rfl, r6, b6⟩
  have s6 := b6.size
  have R6 := Lib.hid r6
  have B6 := Lib.hid (B5.out.trans (b6.mono (by omega)))
  have R5b := Lib.hid (R5.out.keep (SameOn.of_below b6 fun b h => Nat.lt_of_lt_of_le h.2 s5))
  clear r6 b6
  go_wp2_with fail
  refine (eqDDefinitionS_yes _ _ _ _ _ _ ls _ _ _ R5b.out R6.out (fun b h => by have := h.2; omega) (fun b h => h.2) rfl rfl HOK.out).mono ?_
  rintro e v7 ⟨rfl, b7⟩
  have B7 := Lib.hid (B6.out.trans (b7.mono (by omega)))
  clear b7
  go_wp2
  go_ret
  exact ⟨rfl, B7.out⟩
end Go.Proofs.YtpkcpjimioldlaaDoor
