/- The walk of the exact law of OddsBest: it answers true at every input that can be read. -/
import Derived.Test.YtamgckmkebpgjaaMarksI
import Derived.Test.YtamgckmkebpgjaaToInts
import Derived.Test.YtamgckmkebpgjaaEqInts
import Derived.Test.YtamgckmkebpgjaaSpecOddsBest
import Derived.Test.YtamgckmkebpgjaaOddsBestF
namespace Go.Proofs.Ytamgckmkebpgjaa
set_option linter.unusedVariables false
open Go.RowKit

set_option maxHeartbeats 2000000 in
theorem exactOddsBest_walk (n0 c0 : Nat) (a0 : Option Addr) (X0 : Nat → Int) (n1 c1 : Nat) (a1 : Option Addr) (X1 : Nat → Int) (w : World) (hn0 : n0 ≤ 9223372036854775807) (ha0 : Rd w a0 n0 X0) (hX0 : ∀ k, k < n0 → I64 (X0 k)) (hn1 : n1 ≤ 9223372036854775807) (ha1 : Rd w a1 n1 X1) (hX1 : ∀ k, k < n1 → I64 (X1 k)) :
    Calls Try.prog 13 #[.slice a0 n0 c0, .slice a1 n1 c1] w fun e w' => e = .returned (.bool true) ∧ Below w.heap.size w w' := by
  by_cases hfit0 : n0 ≤ 1048576
  · have hd0 : ¬ (1048576 < n0) := by omega
    by_cases hfit1 : n1 ≤ 1048576
    · have hd1 : ¬ (1048576 < n1) := by omega
      have HA0 := Lib.hid ha0
      clear ha0
      have HX0 := Lib.hid hX0
      clear hX0
      have HA1 := Lib.hid ha1
      clear ha1
      have HX1 := Lib.hid hX1
      clear hX1
      obtain ⟨nR, hnR⟩ : ∃ nR, nR = bestN n0 X0 n1 X1 := ⟨_, rfl⟩
      obtain ⟨okR, hokR⟩ : ∃ okR, okR = tt (BestOk n0 X0 n1 X1) := ⟨_, rfl⟩
      obtain ⟨XR, hXR⟩ : ∃ XR, XR = bestF X0 X1 := ⟨_, rfl⟩
      have hsm : nR ≤ 1048576 := by rw [hnR]; exact bestN_small _ _ _ _
      have QnR := Lib.hid hnR
      have QokR := Lib.hid hokR
      have QXR := Lib.hid hXR
      clear hnR hokR hXR
      go_enter Try.func13, Try.ntmps13
      go_wp2_with fail
      refine (toInts_any n0 c0 a0 X0 _ hfit0 (HA0.out.below (Nat.le_refl _) (Below.refl _ _))).mono ?_
      rintro e w1 ⟨rfl, hT, hs, hb⟩
      have T1 : Hid (OwnI w1 w.heap.size w1.heap.size _ n0 X0) := Lib.hid (by rw [hs]; exact OwnI.of_row hT)
      have B1 := Lib.hid hb
      clear hT hs hb
      have Z1 := Lib.hid B1.out.size
      have BW1 := Lib.hid (B1.out)
      go_wp2_with fail
      refine (toInts_any n1 c1 a1 X1 _ hfit1 (HA1.out.below (Nat.le_refl _) BW1.out)).mono ?_
      rintro e w2 ⟨rfl, hT, hs, hb⟩
      have T2 : Hid (OwnI w2 w1.heap.size w2.heap.size _ n1 X1) := Lib.hid (by rw [hs]; exact OwnI.of_row hT)
      have B2 := Lib.hid hb
      clear hT hs hb
      have Z2 := Lib.hid B2.out.size
      have BW2 := Lib.hid (BW1.out.trans (B2.out.mono BW1.out.size))
      go_wp2_with fail
      refine (specOddsBest_any _ _ _ _ _ _ _ _ _ (hm0 := hfit0) (hb0 := (T1.out.below (Nat.le_refl _) B2.out).rd) (hm1 := hfit1) (hb1 := T2.out.rd)).mono ?_
      rw [← QokR.out, ← QnR.out, ← QXR.out]
      rintro e w3 ⟨ga3, gc3, rfl, hT, hb⟩
      have T3 := Lib.hid hT
      have B3 := Lib.hid hb
      clear hT hb
      have Z3 := Lib.hid B3.out.size
      have BW3 := Lib.hid (BW2.out.trans (B3.out.mono BW2.out.size))
      go_wp2_with fail
      refine (toInts_any n0 c0 a0 X0 _ hfit0 (HA0.out.below (Nat.le_refl _) BW3.out)).mono ?_
      rintro e w4 ⟨rfl, hT, hs, hb⟩
      have T4 : Hid (OwnI w4 w3.heap.size w4.heap.size _ n0 X0) := Lib.hid (by rw [hs]; exact OwnI.of_row hT)
      have B4 := Lib.hid hb
      clear hT hs hb
      have Z4 := Lib.hid B4.out.size
      have BW4 := Lib.hid (BW3.out.trans (B4.out.mono BW3.out.size))
      go_wp2_with fail
      refine (toInts_any n1 c1 a1 X1 _ hfit1 (HA1.out.below (Nat.le_refl _) BW4.out)).mono ?_
      rintro e w5 ⟨rfl, hT, hs, hb⟩
      have T5 : Hid (OwnI w5 w4.heap.size w5.heap.size _ n1 X1) := Lib.hid (by rw [hs]; exact OwnI.of_row hT)
      have B5 := Lib.hid hb
      clear hT hs hb
      have Z5 := Lib.hid B5.out.size
      have BW5 := Lib.hid (BW4.out.trans (B5.out.mono BW4.out.size))
      go_wp2_with fail
      refine (oddsBest_any _ _ _ _ _ _ _ _ _ (hm0 := hfit0) (hmd0 := Nat.le_refl _) (hb0 := (T4.out.below (Nat.le_refl _) B5.out).rd) (hm1 := hfit1) (hmd1 := Nat.le_refl _) (hb1 := T5.out.rd)).mono ?_
      rw [← QokR.out, ← QnR.out, ← QXR.out]
      rintro e w6 ⟨ga6, gc6, rfl, hT, hb⟩
      have T6 := Lib.hid hT
      have B6 := Lib.hid hb
      clear hT hb
      have Z6 := Lib.hid B6.out.size
      have BW6 := Lib.hid (BW5.out.trans (B6.out.mono BW5.out.size))
      go_wp2_with fail
      refine (eqInts_any nR nR _ _ _ _ XR XR _ (by omega) (by omega) T6.out.rd (((T3.out.below (Nat.le_refl _) B4.out).below Z4.out B5.out).below (Nat.le_trans Z4.out Z5.out) B6.out).rd).mono ?_
      rintro e w7 ⟨rfl, hq⟩
      rw [tt_of (show SameB nR nR XR XR from ⟨rfl, fun _ _ => rfl⟩)]
      have B7 : Hid (Below w6.heap.size w6 w7) := Lib.hid (by obtain ⟨q, rfl⟩ := hq; exact below_drewN (Below.refl _ _) q)
      clear hq
      have Z7 := Lib.hid B7.out.size
      have BW7 := Lib.hid (BW6.out.trans (B7.out.mono BW6.out.size))
      go_wp2_with fail
      refine (toInts_any n0 c0 a0 X0 _ hfit0 (HA0.out.below (Nat.le_refl _) BW7.out)).mono ?_
      rintro e w8 ⟨rfl, hT, hs, hb⟩
      have T8 : Hid (OwnI w8 w7.heap.size w8.heap.size _ n0 X0) := Lib.hid (by rw [hs]; exact OwnI.of_row hT)
      have B8 := Lib.hid hb
      clear hT hs hb
      have Z8 := Lib.hid B8.out.size
      have BW8 := Lib.hid (BW7.out.trans (B8.out.mono BW7.out.size))
      go_wp2_with fail
      refine (eqInts_any n0 n0 _ _ _ _ X0 X0 _ (by omega) (by omega) ((((T4.out.below (Nat.le_refl _) B5.out).below Z5.out B6.out).below (Nat.le_trans Z5.out Z6.out) B7.out).below (Nat.le_trans (Nat.le_trans Z5.out Z6.out) Z7.out) B8.out).rd T8.out.rd).mono ?_
      rintro e w9 ⟨rfl, hq⟩
      rw [tt_of (show SameB n0 n0 X0 X0 from ⟨rfl, fun _ _ => rfl⟩)]
      have B9 : Hid (Below w8.heap.size w8 w9) := Lib.hid (by obtain ⟨q, rfl⟩ := hq; exact below_drewN (Below.refl _ _) q)
      clear hq
      have Z9 := Lib.hid B9.out.size
      have BW9 := Lib.hid (BW8.out.trans (B9.out.mono BW8.out.size))
      go_wp2_with fail
      refine (toInts_any n1 c1 a1 X1 _ hfit1 (HA1.out.below (Nat.le_refl _) BW9.out)).mono ?_
      rintro e w10 ⟨rfl, hT, hs, hb⟩
      have T10 : Hid (OwnI w10 w9.heap.size w10.heap.size _ n1 X1) := Lib.hid (by rw [hs]; exact OwnI.of_row hT)
      have B10 := Lib.hid hb
      clear hT hs hb
      have Z10 := Lib.hid B10.out.size
      have BW10 := Lib.hid (BW9.out.trans (B10.out.mono BW9.out.size))
      go_wp2_with fail
      refine (eqInts_any n1 n1 _ _ _ _ X1 X1 _ (by omega) (by omega) (((((T5.out.below (Nat.le_refl _) B6.out).below Z6.out B7.out).below (Nat.le_trans Z6.out Z7.out) B8.out).below (Nat.le_trans (Nat.le_trans Z6.out Z7.out) Z8.out) B9.out).below (Nat.le_trans (Nat.le_trans (Nat.le_trans Z6.out Z7.out) Z8.out) Z9.out) B10.out).rd T10.out.rd).mono ?_
      rintro e w11 ⟨rfl, hq⟩
      rw [tt_of (show SameB n1 n1 X1 X1 from ⟨rfl, fun _ _ => rfl⟩)]
      have B11 : Hid (Below w10.heap.size w10 w11) := Lib.hid (by obtain ⟨q, rfl⟩ := hq; exact below_drewN (Below.refl _ _) q)
      clear hq
      have Z11 := Lib.hid B11.out.size
      have BW11 := Lib.hid (BW10.out.trans (B11.out.mono BW10.out.size))
      go_wp2_with fail
      refine (markOwn_any n0 _ _ _ _ X0 _ _ (by omega) (by omega) (by omega) (((((((T4.out.below (Nat.le_refl _) B5.out).below Z5.out B6.out).below (Nat.le_trans Z5.out Z6.out) B7.out).below (Nat.le_trans (Nat.le_trans Z5.out Z6.out) Z7.out) B8.out).below (Nat.le_trans (Nat.le_trans (Nat.le_trans Z5.out Z6.out) Z7.out) Z8.out) B9.out).below (Nat.le_trans (Nat.le_trans (Nat.le_trans (Nat.le_trans Z5.out Z6.out) Z7.out) Z8.out) Z9.out) B10.out).below (Nat.le_trans (Nat.le_trans (Nat.le_trans (Nat.le_trans (Nat.le_trans Z5.out Z6.out) Z7.out) Z8.out) Z9.out) Z10.out) B11.out)).mono ?_
      rintro e w12 ⟨rfl, hT, hk⟩
      have M12 := Lib.hid hT
      have K12 := Lib.hid hk
      clear hT hk
      have Z12 := Lib.hid (Nat.le_of_eq K12.out.size.symm)
      have BW12 := Lib.hid (BW11.out.trans (K12.out.below.mono (Nat.le_trans (Nat.le_trans Z1.out Z2.out) Z3.out)))
      go_wp2_with fail
      refine (markOwn_any n1 _ _ _ _ X1 _ _ (by omega) (by omega) (by omega) (((((((T5.out.below (Nat.le_refl _) B6.out).below Z6.out B7.out).below (Nat.le_trans Z6.out Z7.out) B8.out).below (Nat.le_trans (Nat.le_trans Z6.out Z7.out) Z8.out) B9.out).below (Nat.le_trans (Nat.le_trans (Nat.le_trans Z6.out Z7.out) Z8.out) Z9.out) B10.out).below (Nat.le_trans (Nat.le_trans (Nat.le_trans (Nat.le_trans Z6.out Z7.out) Z8.out) Z9.out) Z10.out) B11.out).keeps (.inr (Nat.le_refl _)) K12.out)).mono ?_
      rintro e w13 ⟨rfl, hT, hk⟩
      have M13 := Lib.hid hT
      have K13 := Lib.hid hk
      clear hT hk
      have Z13 := Lib.hid (Nat.le_of_eq K13.out.size.symm)
      have BW13 := Lib.hid (BW12.out.trans (K13.out.below.mono (Nat.le_trans (Nat.le_trans (Nat.le_trans Z1.out Z2.out) Z3.out) Z4.out)))
      go_wp2_with fail
      refine (eqInts_any nR nR _ _ _ _ XR XR _ (by omega) (by omega) (((((((T6.out.below (Nat.le_refl _) B7.out).below Z7.out B8.out).below (Nat.le_trans Z7.out Z8.out) B9.out).below (Nat.le_trans (Nat.le_trans Z7.out Z8.out) Z9.out) B10.out).below (Nat.le_trans (Nat.le_trans (Nat.le_trans Z7.out Z8.out) Z9.out) Z10.out) B11.out).keeps (.inr Z5.out) K12.out).keeps (.inr (Nat.le_refl _)) K13.out).rd ((((((((((T3.out.below (Nat.le_refl _) B4.out).below Z4.out B5.out).below (Nat.le_trans Z4.out Z5.out) B6.out).below (Nat.le_trans (Nat.le_trans Z4.out Z5.out) Z6.out) B7.out).below (Nat.le_trans (Nat.le_trans (Nat.le_trans Z4.out Z5.out) Z6.out) Z7.out) B8.out).below (Nat.le_trans (Nat.le_trans (Nat.le_trans (Nat.le_trans Z4.out Z5.out) Z6.out) Z7.out) Z8.out) B9.out).below (Nat.le_trans (Nat.le_trans (Nat.le_trans (Nat.le_trans (Nat.le_trans Z4.out Z5.out) Z6.out) Z7.out) Z8.out) Z9.out) B10.out).below (Nat.le_trans (Nat.le_trans (Nat.le_trans (Nat.le_trans (Nat.le_trans (Nat.le_trans Z4.out Z5.out) Z6.out) Z7.out) Z8.out) Z9.out) Z10.out) B11.out).keeps (.inl (Nat.le_refl _)) K12.out).keeps (.inl Z4.out) K13.out).rd).mono ?_
      rintro e w14 ⟨rfl, hq⟩
      rw [tt_of (show SameB nR nR XR XR from ⟨rfl, fun _ _ => rfl⟩)]
      have B14 : Hid (Below w13.heap.size w13 w14) := Lib.hid (by obtain ⟨q, rfl⟩ := hq; exact below_drewN (Below.refl _ _) q)
      clear hq
      have Z14 := Lib.hid B14.out.size
      have BW14 := Lib.hid (BW13.out.trans (B14.out.mono BW13.out.size))
      go_wp2_with fail
      refine (markOwn_any nR _ _ _ _ XR _ _ (by omega) (by omega) (by omega) ((((((((T6.out.below (Nat.le_refl _) B7.out).below Z7.out B8.out).below (Nat.le_trans Z7.out Z8.out) B9.out).below (Nat.le_trans (Nat.le_trans Z7.out Z8.out) Z9.out) B10.out).below (Nat.le_trans (Nat.le_trans (Nat.le_trans Z7.out Z8.out) Z9.out) Z10.out) B11.out).keeps (.inr Z5.out) K12.out).keeps (.inr (Nat.le_refl _)) K13.out).below (Nat.le_trans (Nat.le_trans (Nat.le_trans (Nat.le_trans (Nat.le_trans (Nat.le_trans Z7.out Z8.out) Z9.out) Z10.out) Z11.out) Z12.out) Z13.out) B14.out)).mono ?_
      rintro e w15 ⟨rfl, hT, hk⟩
      have M15 := Lib.hid hT
      have K15 := Lib.hid hk
      clear hT hk
      have Z15 := Lib.hid (Nat.le_of_eq K15.out.size.symm)
      have BW15 := Lib.hid (BW14.out.trans (K15.out.below.mono (Nat.le_trans (Nat.le_trans (Nat.le_trans (Nat.le_trans Z1.out Z2.out) Z3.out) Z4.out) Z5.out)))
      go_wp2_with fail
      refine (heldInts_any nR _ _ _ _ (by omega) (by omega) (by omega) M15.out.rd).mono ?_
      rintro e w' ⟨rfl, rfl⟩
      go_wp2_with fail
      refine (toInts_any n0 c0 a0 X0 _ hfit0 (HA0.out.below (Nat.le_refl _) BW15.out)).mono ?_
      rintro e w16 ⟨rfl, hT, hs, hb⟩
      have T16 : Hid (OwnI w16 w15.heap.size w16.heap.size _ n0 X0) := Lib.hid (by rw [hs]; exact OwnI.of_row hT)
      have B16 := Lib.hid hb
      clear hT hs hb
      have Z16 := Lib.hid B16.out.size
      have BW16 := Lib.hid (BW15.out.trans (B16.out.mono BW15.out.size))
      go_wp2_with fail
      refine (toInts_any n1 c1 a1 X1 _ hfit1 (HA1.out.below (Nat.le_refl _) BW16.out)).mono ?_
      rintro e w17 ⟨rfl, hT, hs, hb⟩
      have T17 : Hid (OwnI w17 w16.heap.size w17.heap.size _ n1 X1) := Lib.hid (by rw [hs]; exact OwnI.of_row hT)
      have B17 := Lib.hid hb
      clear hT hs hb
      have Z17 := Lib.hid B17.out.size
      have BW17 := Lib.hid (BW16.out.trans (B17.out.mono BW16.out.size))
      go_wp2_with fail
      refine (oddsBest_any _ _ _ _ _ _ _ _ _ (hm0 := hfit0) (hmd0 := Nat.le_refl _) (hb0 := (T16.out.below (Nat.le_refl _) B17.out).rd) (hm1 := hfit1) (hmd1 := Nat.le_refl _) (hb1 := T17.out.rd)).mono ?_
      rw [← QokR.out, ← QnR.out, ← QXR.out]
      rintro e w18 ⟨ga18, gc18, rfl, hT, hb⟩
      have T18 := Lib.hid hT
      have B18 := Lib.hid hb
      clear hT hb
      have Z18 := Lib.hid B18.out.size
      have BW18 := Lib.hid (BW17.out.trans (B18.out.mono BW17.out.size))
      go_wp2_with fail
      refine (eqInts_any nR nR _ _ _ _ XR XR _ (by omega) (by omega) T18.out.rd (((((((((((((((T3.out.below (Nat.le_refl _) B4.out).below Z4.out B5.out).below (Nat.le_trans Z4.out Z5.out) B6.out).below (Nat.le_trans (Nat.le_trans Z4.out Z5.out) Z6.out) B7.out).below (Nat.le_trans (Nat.le_trans (Nat.le_trans Z4.out Z5.out) Z6.out) Z7.out) B8.out).below (Nat.le_trans (Nat.le_trans (Nat.le_trans (Nat.le_trans Z4.out Z5.out) Z6.out) Z7.out) Z8.out) B9.out).below (Nat.le_trans (Nat.le_trans (Nat.le_trans (Nat.le_trans (Nat.le_trans Z4.out Z5.out) Z6.out) Z7.out) Z8.out) Z9.out) B10.out).below (Nat.le_trans (Nat.le_trans (Nat.le_trans (Nat.le_trans (Nat.le_trans (Nat.le_trans Z4.out Z5.out) Z6.out) Z7.out) Z8.out) Z9.out) Z10.out) B11.out).keeps (.inl (Nat.le_refl _)) K12.out).keeps (.inl Z4.out) K13.out).below (Nat.le_trans (Nat.le_trans (Nat.le_trans (Nat.le_trans (Nat.le_trans (Nat.le_trans (Nat.le_trans (Nat.le_trans (Nat.le_trans Z4.out Z5.out) Z6.out) Z7.out) Z8.out) Z9.out) Z10.out) Z11.out) Z12.out) Z13.out) B14.out).keeps (.inl (Nat.le_trans Z4.out Z5.out)) K15.out).below (Nat.le_trans (Nat.le_trans (Nat.le_trans (Nat.le_trans (Nat.le_trans (Nat.le_trans (Nat.le_trans (Nat.le_trans (Nat.le_trans (Nat.le_trans (Nat.le_trans Z4.out Z5.out) Z6.out) Z7.out) Z8.out) Z9.out) Z10.out) Z11.out) Z12.out) Z13.out) Z14.out) Z15.out) B16.out).below (Nat.le_trans (Nat.le_trans (Nat.le_trans (Nat.le_trans (Nat.le_trans (Nat.le_trans (Nat.le_trans (Nat.le_trans (Nat.le_trans (Nat.le_trans (Nat.le_trans (Nat.le_trans Z4.out Z5.out) Z6.out) Z7.out) Z8.out) Z9.out) Z10.out) Z11.out) Z12.out) Z13.out) Z14.out) Z15.out) Z16.out) B17.out).below (Nat.le_trans (Nat.le_trans (Nat.le_trans (Nat.le_trans (Nat.le_trans (Nat.le_trans (Nat.le_trans (Nat.le_trans (Nat.le_trans (Nat.le_trans (Nat.le_trans (Nat.le_trans (Nat.le_trans Z4.out Z5.out) Z6.out) Z7.out) Z8.out) Z9.out) Z10.out) Z11.out) Z12.out) Z13.out) Z14.out) Z15.out) Z16.out) Z17.out) B18.out).rd).mono ?_
      rintro e w19 ⟨rfl, hq⟩
      rw [tt_of (show SameB nR nR XR XR from ⟨rfl, fun _ _ => rfl⟩)]
      have B19 : Hid (Below w18.heap.size w18 w19) := Lib.hid (by obtain ⟨q, rfl⟩ := hq; exact below_drewN (Below.refl _ _) q)
      clear hq
      have Z19 := Lib.hid B19.out.size
      have BW19 := Lib.hid (BW18.out.trans (B19.out.mono BW18.out.size))
      go_wp2_with fail
      refine (heldInts_any nR _ _ _ _ (by omega) (by omega) (by omega) ((((M15.out.below (Nat.le_trans (Nat.le_trans (Nat.le_trans (Nat.le_trans (Nat.le_trans (Nat.le_trans (Nat.le_trans (Nat.le_trans Z7.out Z8.out) Z9.out) Z10.out) Z11.out) Z12.out) Z13.out) Z14.out) Z15.out) B16.out).below (Nat.le_trans (Nat.le_trans (Nat.le_trans (Nat.le_trans (Nat.le_trans (Nat.le_trans (Nat.le_trans (Nat.le_trans (Nat.le_trans Z7.out Z8.out) Z9.out) Z10.out) Z11.out) Z12.out) Z13.out) Z14.out) Z15.out) Z16.out) B17.out).below (Nat.le_trans (Nat.le_trans (Nat.le_trans (Nat.le_trans (Nat.le_trans (Nat.le_trans (Nat.le_trans (Nat.le_trans (Nat.le_trans (Nat.le_trans Z7.out Z8.out) Z9.out) Z10.out) Z11.out) Z12.out) Z13.out) Z14.out) Z15.out) Z16.out) Z17.out) B18.out).below (Nat.le_trans (Nat.le_trans (Nat.le_trans (Nat.le_trans (Nat.le_trans (Nat.le_trans (Nat.le_trans (Nat.le_trans (Nat.le_trans (Nat.le_trans (Nat.le_trans Z7.out Z8.out) Z9.out) Z10.out) Z11.out) Z12.out) Z13.out) Z14.out) Z15.out) Z16.out) Z17.out) Z18.out) B19.out).rd).mono ?_
      rintro e w' ⟨rfl, rfl⟩
      go_wp2_with fail
      go_ret
      exact ⟨rfl, BW19.out⟩
    · have hd : 1048576 < n1 := by omega
      clear ha0 ha1
      go_enter Try.func13, Try.ntmps13
      go_wp2_with fail
      go_ret
      exact ⟨rfl, Below.refl _ _⟩
  · have hd : 1048576 < n0 := by omega
    clear ha0 ha1
    go_enter Try.func13, Try.ntmps13
    go_wp2_with fail
    go_ret
    exact ⟨rfl, Below.refl _ _⟩
end Go.Proofs.Ytamgckmkebpgjaa
