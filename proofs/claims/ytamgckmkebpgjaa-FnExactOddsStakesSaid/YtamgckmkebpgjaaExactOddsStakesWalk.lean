/- The walk of the exact law of OddsStakes: it answers true at every input that can be read. -/
import Derived.Test.YtamgckmkebpgjaaMarksI
import Derived.Test.YtamgckmkebpgjaaToInts
import Derived.Test.YtamgckmkebpgjaaEqInts
import Derived.Test.YtamgckmkebpgjaaSpecOddsStakes
import Derived.Test.YtamgckmkebpgjaaOddsStakesF
namespace Go.Proofs.Ytamgckmkebpgjaa
set_option linter.unusedVariables false
open Go.RowKit

set_option maxHeartbeats 2000000 in
theorem exactOddsStakes_walk (n0 c0 : Nat) (a0 : Option Addr) (X0 : Nat → Int) (w : World) (hn0 : n0 ≤ 9223372036854775807) (ha0 : Rd w a0 n0 X0) (hX0 : ∀ k, k < n0 → I64 (X0 k)) :
    Calls Try.prog 10 #[.slice a0 n0 c0] w fun e w' => e = .returned (.bool true) ∧ Below w.heap.size w w' := by
  by_cases hfit0 : n0 ≤ 1048576
  · have hd0 : ¬ (1048576 < n0) := by omega
    have HA0 := Lib.hid ha0
    clear ha0
    have HX0 := Lib.hid hX0
    clear hX0
    obtain ⟨nR, hnR⟩ : ∃ nR, nR = stakeN n0 X0 := ⟨_, rfl⟩
    obtain ⟨okR, hokR⟩ : ∃ okR, okR = tt (IsOdds n0 X0) := ⟨_, rfl⟩
    obtain ⟨XR, hXR⟩ : ∃ XR, XR = stakeF n0 X0 := ⟨_, rfl⟩
    have hsm : nR ≤ 1048576 := by rw [hnR]; exact stakeN_small _ _
    have QnR := Lib.hid hnR
    have QokR := Lib.hid hokR
    have QXR := Lib.hid hXR
    clear hnR hokR hXR
    go_enter Try.func10, Try.ntmps10
    go_wp2_with fail
    refine (toInts_any n0 c0 a0 X0 _ hfit0 (HA0.out.below (Nat.le_refl _) (Below.refl _ _))).mono ?_
    rintro e w1 ⟨rfl, hT, hs, hb⟩
    have T1 : Hid (OwnI w1 w.heap.size w1.heap.size _ n0 X0) := Lib.hid (by rw [hs]; exact OwnI.of_row hT)
    have B1 := Lib.hid hb
    clear hT hs hb
    have Z1 := Lib.hid B1.out.size
    have BW1 := Lib.hid (B1.out)
    go_wp2_with fail
    refine (specOddsStakes_any _ _ _ _ _ (hm0 := hfit0) (hb0 := T1.out.rd)).mono ?_
    rw [← QokR.out, ← QnR.out, ← QXR.out]
    rintro e w2 ⟨ga2, gc2, rfl, hT, hb⟩
    have T2 := Lib.hid hT
    have B2 := Lib.hid hb
    clear hT hb
    have Z2 := Lib.hid B2.out.size
    have BW2 := Lib.hid (BW1.out.trans (B2.out.mono BW1.out.size))
    go_wp2_with fail
    refine (toInts_any n0 c0 a0 X0 _ hfit0 (HA0.out.below (Nat.le_refl _) BW2.out)).mono ?_
    rintro e w3 ⟨rfl, hT, hs, hb⟩
    have T3 : Hid (OwnI w3 w2.heap.size w3.heap.size _ n0 X0) := Lib.hid (by rw [hs]; exact OwnI.of_row hT)
    have B3 := Lib.hid hb
    clear hT hs hb
    have Z3 := Lib.hid B3.out.size
    have BW3 := Lib.hid (BW2.out.trans (B3.out.mono BW2.out.size))
    go_wp2_with fail
    refine (oddsStakes_any _ _ _ _ _ (hm0 := hfit0) (hmd0 := Nat.le_refl _) (hb0 := T3.out.rd)).mono ?_
    rw [← QokR.out, ← QnR.out, ← QXR.out]
    rintro e w4 ⟨ga4, gc4, rfl, hT, hb⟩
    have T4 := Lib.hid hT
    have B4 := Lib.hid hb
    clear hT hb
    have Z4 := Lib.hid B4.out.size
    have BW4 := Lib.hid (BW3.out.trans (B4.out.mono BW3.out.size))
    go_wp2_with fail
    refine (eqInts_any nR nR _ _ _ _ XR XR _ (by omega) (by omega) T4.out.rd ((T2.out.below (Nat.le_refl _) B3.out).below Z3.out B4.out).rd).mono ?_
    rintro e w5 ⟨rfl, hq⟩
    rw [tt_of (show SameB nR nR XR XR from ⟨rfl, fun _ _ => rfl⟩)]
    have B5 : Hid (Below w4.heap.size w4 w5) := Lib.hid (by obtain ⟨q, rfl⟩ := hq; exact below_drewN (Below.refl _ _) q)
    clear hq
    have Z5 := Lib.hid B5.out.size
    have BW5 := Lib.hid (BW4.out.trans (B5.out.mono BW4.out.size))
    go_wp2_with fail
    refine (toInts_any n0 c0 a0 X0 _ hfit0 (HA0.out.below (Nat.le_refl _) BW5.out)).mono ?_
    rintro e w6 ⟨rfl, hT, hs, hb⟩
    have T6 : Hid (OwnI w6 w5.heap.size w6.heap.size _ n0 X0) := Lib.hid (by rw [hs]; exact OwnI.of_row hT)
    have B6 := Lib.hid hb
    clear hT hs hb
    have Z6 := Lib.hid B6.out.size
    have BW6 := Lib.hid (BW5.out.trans (B6.out.mono BW5.out.size))
    go_wp2_with fail
    refine (eqInts_any n0 n0 _ _ _ _ X0 X0 _ (by omega) (by omega) (((T3.out.below (Nat.le_refl _) B4.out).below Z4.out B5.out).below (Nat.le_trans Z4.out Z5.out) B6.out).rd T6.out.rd).mono ?_
    rintro e w7 ⟨rfl, hq⟩
    rw [tt_of (show SameB n0 n0 X0 X0 from ⟨rfl, fun _ _ => rfl⟩)]
    have B7 : Hid (Below w6.heap.size w6 w7) := Lib.hid (by obtain ⟨q, rfl⟩ := hq; exact below_drewN (Below.refl _ _) q)
    clear hq
    have Z7 := Lib.hid B7.out.size
    have BW7 := Lib.hid (BW6.out.trans (B7.out.mono BW6.out.size))
    go_wp2_with fail
    refine (markOwn_any n0 _ _ _ _ X0 _ _ (by omega) (by omega) (by omega) ((((T3.out.below (Nat.le_refl _) B4.out).below Z4.out B5.out).below (Nat.le_trans Z4.out Z5.out) B6.out).below (Nat.le_trans (Nat.le_trans Z4.out Z5.out) Z6.out) B7.out)).mono ?_
    rintro e w8 ⟨rfl, hT, hk⟩
    have M8 := Lib.hid hT
    have K8 := Lib.hid hk
    clear hT hk
    have Z8 := Lib.hid (Nat.le_of_eq K8.out.size.symm)
    have BW8 := Lib.hid (BW7.out.trans (K8.out.below.mono (Nat.le_trans Z1.out Z2.out)))
    go_wp2_with fail
    refine (eqInts_any nR nR _ _ _ _ XR XR _ (by omega) (by omega) ((((T4.out.below (Nat.le_refl _) B5.out).below Z5.out B6.out).below (Nat.le_trans Z5.out Z6.out) B7.out).keeps (.inr (Nat.le_refl _)) K8.out).rd ((((((T2.out.below (Nat.le_refl _) B3.out).below Z3.out B4.out).below (Nat.le_trans Z3.out Z4.out) B5.out).below (Nat.le_trans (Nat.le_trans Z3.out Z4.out) Z5.out) B6.out).below (Nat.le_trans (Nat.le_trans (Nat.le_trans Z3.out Z4.out) Z5.out) Z6.out) B7.out).keeps (.inl (Nat.le_refl _)) K8.out).rd).mono ?_
    rintro e w9 ⟨rfl, hq⟩
    rw [tt_of (show SameB nR nR XR XR from ⟨rfl, fun _ _ => rfl⟩)]
    have B9 : Hid (Below w8.heap.size w8 w9) := Lib.hid (by obtain ⟨q, rfl⟩ := hq; exact below_drewN (Below.refl _ _) q)
    clear hq
    have Z9 := Lib.hid B9.out.size
    have BW9 := Lib.hid (BW8.out.trans (B9.out.mono BW8.out.size))
    go_wp2_with fail
    refine (markOwn_any nR _ _ _ _ XR _ _ (by omega) (by omega) (by omega) (((((T4.out.below (Nat.le_refl _) B5.out).below Z5.out B6.out).below (Nat.le_trans Z5.out Z6.out) B7.out).keeps (.inr (Nat.le_refl _)) K8.out).below (Nat.le_trans (Nat.le_trans (Nat.le_trans Z5.out Z6.out) Z7.out) Z8.out) B9.out)).mono ?_
    rintro e w10 ⟨rfl, hT, hk⟩
    have M10 := Lib.hid hT
    have K10 := Lib.hid hk
    clear hT hk
    have Z10 := Lib.hid (Nat.le_of_eq K10.out.size.symm)
    have BW10 := Lib.hid (BW9.out.trans (K10.out.below.mono (Nat.le_trans (Nat.le_trans Z1.out Z2.out) Z3.out)))
    go_wp2_with fail
    refine (heldInts_any nR _ _ _ _ (by omega) (by omega) (by omega) M10.out.rd).mono ?_
    rintro e w' ⟨rfl, rfl⟩
    go_wp2_with fail
    refine (toInts_any n0 c0 a0 X0 _ hfit0 (HA0.out.below (Nat.le_refl _) BW10.out)).mono ?_
    rintro e w11 ⟨rfl, hT, hs, hb⟩
    have T11 : Hid (OwnI w11 w10.heap.size w11.heap.size _ n0 X0) := Lib.hid (by rw [hs]; exact OwnI.of_row hT)
    have B11 := Lib.hid hb
    clear hT hs hb
    have Z11 := Lib.hid B11.out.size
    have BW11 := Lib.hid (BW10.out.trans (B11.out.mono BW10.out.size))
    go_wp2_with fail
    refine (oddsStakes_any _ _ _ _ _ (hm0 := hfit0) (hmd0 := Nat.le_refl _) (hb0 := T11.out.rd)).mono ?_
    rw [← QokR.out, ← QnR.out, ← QXR.out]
    rintro e w12 ⟨ga12, gc12, rfl, hT, hb⟩
    have T12 := Lib.hid hT
    have B12 := Lib.hid hb
    clear hT hb
    have Z12 := Lib.hid B12.out.size
    have BW12 := Lib.hid (BW11.out.trans (B12.out.mono BW11.out.size))
    go_wp2_with fail
    refine (eqInts_any nR nR _ _ _ _ XR XR _ (by omega) (by omega) T12.out.rd ((((((((((T2.out.below (Nat.le_refl _) B3.out).below Z3.out B4.out).below (Nat.le_trans Z3.out Z4.out) B5.out).below (Nat.le_trans (Nat.le_trans Z3.out Z4.out) Z5.out) B6.out).below (Nat.le_trans (Nat.le_trans (Nat.le_trans Z3.out Z4.out) Z5.out) Z6.out) B7.out).keeps (.inl (Nat.le_refl _)) K8.out).below (Nat.le_trans (Nat.le_trans (Nat.le_trans (Nat.le_trans (Nat.le_trans Z3.out Z4.out) Z5.out) Z6.out) Z7.out) Z8.out) B9.out).keeps (.inl Z3.out) K10.out).below (Nat.le_trans (Nat.le_trans (Nat.le_trans (Nat.le_trans (Nat.le_trans (Nat.le_trans (Nat.le_trans Z3.out Z4.out) Z5.out) Z6.out) Z7.out) Z8.out) Z9.out) Z10.out) B11.out).below (Nat.le_trans (Nat.le_trans (Nat.le_trans (Nat.le_trans (Nat.le_trans (Nat.le_trans (Nat.le_trans (Nat.le_trans Z3.out Z4.out) Z5.out) Z6.out) Z7.out) Z8.out) Z9.out) Z10.out) Z11.out) B12.out).rd).mono ?_
    rintro e w13 ⟨rfl, hq⟩
    rw [tt_of (show SameB nR nR XR XR from ⟨rfl, fun _ _ => rfl⟩)]
    have B13 : Hid (Below w12.heap.size w12 w13) := Lib.hid (by obtain ⟨q, rfl⟩ := hq; exact below_drewN (Below.refl _ _) q)
    clear hq
    have Z13 := Lib.hid B13.out.size
    have BW13 := Lib.hid (BW12.out.trans (B13.out.mono BW12.out.size))
    go_wp2_with fail
    refine (heldInts_any nR _ _ _ _ (by omega) (by omega) (by omega) (((M10.out.below (Nat.le_trans (Nat.le_trans (Nat.le_trans (Nat.le_trans (Nat.le_trans Z5.out Z6.out) Z7.out) Z8.out) Z9.out) Z10.out) B11.out).below (Nat.le_trans (Nat.le_trans (Nat.le_trans (Nat.le_trans (Nat.le_trans (Nat.le_trans Z5.out Z6.out) Z7.out) Z8.out) Z9.out) Z10.out) Z11.out) B12.out).below (Nat.le_trans (Nat.le_trans (Nat.le_trans (Nat.le_trans (Nat.le_trans (Nat.le_trans (Nat.le_trans Z5.out Z6.out) Z7.out) Z8.out) Z9.out) Z10.out) Z11.out) Z12.out) B13.out).rd).mono ?_
    rintro e w' ⟨rfl, rfl⟩
    go_wp2_with fail
    go_ret
    exact ⟨rfl, BW13.out⟩
  · have hd : 1048576 < n0 := by omega
    clear ha0
    go_enter Try.func10, Try.ntmps10
    go_wp2_with fail
    go_ret
    exact ⟨rfl, Below.refl _ _⟩
end Go.Proofs.Ytamgckmkebpgjaa
