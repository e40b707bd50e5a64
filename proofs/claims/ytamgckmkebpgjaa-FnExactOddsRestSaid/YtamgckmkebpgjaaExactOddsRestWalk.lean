/- The walk of the exact law of OddsRest: it answers true at every input that can be read. -/
import Derived.Test.YtamgckmkebpgjaaToInts
import Derived.Test.YtamgckmkebpgjaaEqInts
import Derived.Test.YtamgckmkebpgjaaSpecOddsRest
import Derived.Test.YtamgckmkebpgjaaOddsRestF
namespace Go.Proofs.Ytamgckmkebpgjaa
set_option linter.unusedVariables false
open Go.RowKit

set_option maxHeartbeats 1000000 in
theorem exactOddsRest_walk (n0 c0 : Nat) (a0 : Option Addr) (X0 : Nat → Int) (w : World) (hn0 : n0 ≤ 9223372036854775807) (ha0 : Rd w a0 n0 X0) (hX0 : ∀ k, k < n0 → I64 (X0 k)) :
    Calls Try.prog 14 #[.slice a0 n0 c0] w fun e w' => e = .returned (.bool true) ∧ Below w.heap.size w w' := by
  by_cases hfit0 : n0 ≤ 1048576
  · have hd0 : ¬ (1048576 < n0) := by omega
    have HA0 := Lib.hid ha0
    clear ha0
    have HX0 := Lib.hid hX0
    clear hX0
    go_enter Try.func14, Try.ntmps14
    go_wp2_with fail
    refine (toInts_any n0 c0 a0 X0 _ hfit0 (HA0.out.below (Nat.le_refl _) (Below.refl w.heap.size w))).mono ?_
    rintro e w1 ⟨rfl, hT, hs, hb⟩
    have T1 := Lib.hid hT
    have S1 := Lib.hid hs
    have B1 := Lib.hid hb
    clear hT hs hb
    go_wp2_with fail
    refine (specOddsRest_any _ _ _ _ _ (hm0 := hfit0) (hb0 := (Rd.of_row (rowIs_below T1.out (by rw [S1.out]; omega) (Below.refl w1.heap.size w1))))).mono ?_
    rintro e w2 ⟨rfl, hb⟩
    have B2 := Lib.hid hb
    clear hb
    go_wp2_with fail
    refine (toInts_any n0 c0 a0 X0 _ hfit0 (HA0.out.below (Nat.le_refl _) (below_chain B1.out B2.out))).mono ?_
    rintro e w3 ⟨rfl, hT, hs, hb⟩
    have T3 := Lib.hid hT
    have S3 := Lib.hid hs
    have B3 := Lib.hid hb
    clear hT hs hb
    go_wp2_with fail
    refine (oddsRest_any _ _ _ _ _ (hm0 := hfit0) (hmd0 := Nat.le_refl _) (hb0 := (Rd.of_row (rowIs_below T3.out (by rw [S3.out]; omega) (Below.refl w3.heap.size w3))))).mono ?_
    rintro e w4 ⟨rfl, hb⟩
    have B4 := Lib.hid hb
    clear hb
    go_wp2_with fail
    refine (toInts_any n0 c0 a0 X0 _ hfit0 (HA0.out.below (Nat.le_refl _) (below_chain (below_chain (below_chain B1.out B2.out) B3.out) B4.out))).mono ?_
    rintro e w5 ⟨rfl, hT, hs, hb⟩
    have T5 := Lib.hid hT
    have S5 := Lib.hid hs
    have B5 := Lib.hid hb
    clear hT hs hb
    go_wp2_with fail
    refine (eqInts_any n0 n0 n0 n0 _ _ X0 X0 _ hn0 hn0 (Rd.of_row (rowIs_below T3.out (by rw [S3.out]; omega) (below_chain B4.out B5.out))) (Rd.of_row T5.out)).mono ?_
    rintro e w6 ⟨rfl, hq⟩
    rw [tt_of (show SameB n0 n0 X0 X0 from ⟨rfl, fun _ _ => rfl⟩)]
    have B6 : Hid (Below w5.heap.size w5 w6) := Lib.hid (by obtain ⟨q, rfl⟩ := hq; exact below_drewN (Below.refl _ _) q)
    clear hq
    go_wp2_with fail
    go_ret
    exact ⟨rfl, (below_chain (below_chain (below_chain (below_chain (below_chain B1.out B2.out) B3.out) B4.out) B5.out) B6.out)⟩
  · have hd : 1048576 < n0 := by omega
    clear ha0
    go_enter Try.func14, Try.ntmps14
    go_wp2_with fail
    go_ret
    exact ⟨rfl, Below.refl _ _⟩
end Go.Proofs.Ytamgckmkebpgjaa
