/- The walk of the exact law of OddsWins: it answers true at every input that can be read. -/
import Derived.Test.YtamgckmkebpgjaaToInts
import Derived.Test.YtamgckmkebpgjaaEqInts
import Derived.Test.YtamgckmkebpgjaaSpecOddsWins
import Derived.Test.YtamgckmkebpgjaaOddsWinsF
namespace Go.Proofs.Ytamgckmkebpgjaa
set_option linter.unusedVariables false
open Go.RowKit

set_option maxHeartbeats 1000000 in
theorem exactOddsWins_walk (n0 c0 : Nat) (a0 : Option Addr) (X0 : Nat → Int) (n1 c1 : Nat) (a1 : Option Addr) (X1 : Nat → Int) (w : World) (hn0 : n0 ≤ 9223372036854775807) (ha0 : Rd w a0 n0 X0) (hX0 : ∀ k, k < n0 → I64 (X0 k)) (hn1 : n1 ≤ 9223372036854775807) (ha1 : Rd w a1 n1 X1) (hX1 : ∀ k, k < n1 → I64 (X1 k)) :
    Calls Try.prog 12 #[.slice a0 n0 c0, .slice a1 n1 c1] w fun e w' => e = .returned (.bool true) ∧ Below w.heap.size w w' := by
  by_cases hfit0 : n0 ≤ 1048576
  · have hd0 : ¬ (1048576 < n0) := by omega
    by_cases hfit1 : n1 ≤ 1048576
    · have hd1 : ¬ (1048576 < n1) := by omega
      have HA0 := Lib.hid ha0
      clear ha0
      have HX0 := Lib.hid hX0
      clear hX0
      have HA1 := Lib.hid ha1
      clear ha1
      have HX1 := Lib.hid hX1
      clear hX1
      go_enter Try.func12, Try.ntmps12
      go_wp2_with fail
      refine (toInts_any n0 c0 a0 X0 _ hfit0 (HA0.out.below (Nat.le_refl _) (Below.refl w.heap.size w))).mono ?_
      rintro e w1 ⟨rfl, hT, hs, hb⟩
      have T1 := Lib.hid hT
      have S1 := Lib.hid hs
      have B1 := Lib.hid hb
      clear hT hs hb
      go_wp2_with fail
      refine (toInts_any n1 c1 a1 X1 _ hfit1 (HA1.out.below (Nat.le_refl _) B1.out)).mono ?_
      rintro e w2 ⟨rfl, hT, hs, hb⟩
      have T2 := Lib.hid hT
      have S2 := Lib.hid hs
      have B2 := Lib.hid hb
      clear hT hs hb
      go_wp2_with fail
      refine (specOddsWins_any _ _ _ _ _ _ _ _ _ (hm0 := hfit0) (hb0 := (Rd.of_row (rowIs_below T1.out (by rw [S1.out]; omega) B2.out))) (hm1 := hfit1) (hb1 := (Rd.of_row (rowIs_below T2.out (by rw [S2.out]; omega) (Below.refl w2.heap.size w2))))).mono ?_
      rintro e w3 ⟨rfl, hb⟩
      have B3 := Lib.hid hb
      clear hb
      go_wp2_with fail
      refine (toInts_any n0 c0 a0 X0 _ hfit0 (HA0.out.below (Nat.le_refl _) (below_chain (below_chain B1.out B2.out) B3.out))).mono ?_
      rintro e w4 ⟨rfl, hT, hs, hb⟩
      have T4 := Lib.hid hT
      have S4 := Lib.hid hs
      have B4 := Lib.hid hb
      clear hT hs hb
      go_wp2_with fail
      refine (toInts_any n1 c1 a1 X1 _ hfit1 (HA1.out.below (Nat.le_refl _) (below_chain (below_chain (below_chain B1.out B2.out) B3.out) B4.out))).mono ?_
      rintro e w5 ⟨rfl, hT, hs, hb⟩
      have T5 := Lib.hid hT
      have S5 := Lib.hid hs
      have B5 := Lib.hid hb
      clear hT hs hb
      go_wp2_with fail
      refine (oddsWins_any _ _ _ _ _ _ _ _ _ (hm0 := hfit0) (hmd0 := Nat.le_refl _) (hb0 := (Rd.of_row (rowIs_below T4.out (by rw [S4.out]; omega) B5.out))) (hm1 := hfit1) (hmd1 := Nat.le_refl _) (hb1 := (Rd.of_row (rowIs_below T5.out (by rw [S5.out]; omega) (Below.refl w5.heap.size w5))))).mono ?_
      rintro e w6 ⟨rfl, hb⟩
      have B6 := Lib.hid hb
      clear hb
      go_wp2_with fail
      refine (toInts_any n0 c0 a0 X0 _ hfit0 (HA0.out.below (Nat.le_refl _) (below_chain (below_chain (below_chain (below_chain (below_chain B1.out B2.out) B3.out) B4.out) B5.out) B6.out))).mono ?_
      rintro e w7 ⟨rfl, hT, hs, hb⟩
      have T7 := Lib.hid hT
      have S7 := Lib.hid hs
      have B7 := Lib.hid hb
      clear hT hs hb
      go_wp2_with fail
      refine (eqInts_any n0 n0 n0 n0 _ _ X0 X0 _ hn0 hn0 (Rd.of_row (rowIs_below T4.out (by rw [S4.out]; omega) (below_chain (below_chain B5.out B6.out) B7.out))) (Rd.of_row T7.out)).mono ?_
      rintro e w8 ⟨rfl, hq⟩
      rw [tt_of (show SameB n0 n0 X0 X0 from ⟨rfl, fun _ _ => rfl⟩)]
      have B8 : Hid (Below w7.heap.size w7 w8) := Lib.hid (by obtain ⟨q, rfl⟩ := hq; exact below_drewN (Below.refl _ _) q)
      clear hq
      go_wp2_with fail
      refine (toInts_any n1 c1 a1 X1 _ hfit1 (HA1.out.below (Nat.le_refl _) (below_chain (below_chain (below_chain (below_chain (below_chain (below_chain (below_chain B1.out B2.out) B3.out) B4.out) B5.out) B6.out) B7.out) B8.out))).mono ?_
      rintro e w9 ⟨rfl, hT, hs, hb⟩
      have T9 := Lib.hid hT
      have S9 := Lib.hid hs
      have B9 := Lib.hid hb
      clear hT hs hb
      go_wp2_with fail
      refine (eqInts_any n1 n1 n1 n1 _ _ X1 X1 _ hn1 hn1 (Rd.of_row (rowIs_below T5.out (by rw [S5.out]; omega) (below_chain (below_chain (below_chain B6.out B7.out) B8.out) B9.out))) (Rd.of_row T9.out)).mono ?_
      rintro e w10 ⟨rfl, hq⟩
      rw [tt_of (show SameB n1 n1 X1 X1 from ⟨rfl, fun _ _ => rfl⟩)]
      have B10 : Hid (Below w9.heap.size w9 w10) := Lib.hid (by obtain ⟨q, rfl⟩ := hq; exact below_drewN (Below.refl _ _) q)
      clear hq
      go_wp2_with fail
      go_ret
      exact ⟨rfl, (below_chain (below_chain (below_chain (below_chain (below_chain (below_chain (below_chain (below_chain (below_chain B1.out B2.out) B3.out) B4.out) B5.out) B6.out) B7.out) B8.out) B9.out) B10.out)⟩
    · have hd : 1048576 < n1 := by omega
      clear ha0 ha1
      go_enter Try.func12, Try.ntmps12
      go_wp2_with fail
      go_ret
      exact ⟨rfl, Below.refl _ _⟩
  · have hd : 1048576 < n0 := by omega
    clear ha0 ha1
    go_enter Try.func12, Try.ntmps12
    go_wp2_with fail
    go_ret
    exact ⟨rfl, Below.refl _ _⟩
end Go.Proofs.Ytamgckmkebpgjaa
