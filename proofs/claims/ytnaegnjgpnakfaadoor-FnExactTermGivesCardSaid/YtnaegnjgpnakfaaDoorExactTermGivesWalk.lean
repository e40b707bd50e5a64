/- The walk of the exact law of TermGives: it answers true at every input that can be read. -/
import Derived.Test.YtnaegnjgpnakfaaDoorMarksI
import Derived.Test.YtnaegnjgpnakfaaDoorEqInts
import Derived.Test.YtnaegnjgpnakfaaDoorTermGives
namespace Go.Proofs.YtnaegnjgpnakfaaDoor
set_option linter.unusedVariables false
open Go.RowKit

set_option maxHeartbeats 2000000 in
theorem exactTermGives_walk (x0 : Int) (s1 : ByteArray) (w : World) (hTZ : ErrAt w) (hx0 : I64 x0) (hs1 : s1.size ≤ maxLen) :
    Calls Tryd.prog 4 #[.int .i64 x0, .string s1] w fun e w' => e = .returned (.bool true) ∧ Below w.heap.size w w' := by
  by_cases hfit1 : s1.size ≤ 1048576
  · have hd1 : decide ((1048576 : Int) < (s1.size : Int)) = false := decide_eq_false (by omega)
    have hdn1 : decide (1048576 < s1.size) = false := decide_eq_false (by omega)
    clear hfit1 hs1
    obtain ⟨nR, hnR⟩ : ∃ nR, nR = termL x0 s1 := ⟨_, rfl⟩
    obtain ⟨okR, hokR⟩ : ∃ okR, okR = termB x0 s1 := ⟨_, rfl⟩
    obtain ⟨XR, hXR⟩ : ∃ XR, XR = termX x0 s1 := ⟨_, rfl⟩
    have hsm : nR ≤ 1048576 := by rw [hnR]; exact termL_small _ _
    have QnR := Lib.hid hnR
    have QokR := Lib.hid hokR
    have QXR := Lib.hid hXR
    clear hnR hokR hXR
    have TZ := Lib.hid hTZ
    clear hTZ
    go_enter Tryd.func4, Tryd.ntmps4
    go_wp2_with fail
    refine (specTermGives_any _ _ _ (hx0 := hx0)).mono ?_
    rw [← QokR.out, ← QnR.out, ← QXR.out]
    rintro e w1 ⟨ga1, gc1, rfl, hT, hb⟩
    have T1 := Lib.hid hT
    have B1 := Lib.hid hb
    clear hT hb
    have Z1 := Lib.hid B1.out.size
    have BW1 := Lib.hid (B1.out)
    go_wp2_with fail
    refine (termGives_any _ _ _ (hE := TZ.out.below BW1.out) (hx0 := hx0)).mono ?_
    rw [← QokR.out, ← QnR.out, ← QXR.out]
    rintro e w2 ⟨ga2, gc2, rfl, hT, hb⟩
    have T2 := Lib.hid hT
    have B2 := Lib.hid hb
    clear hT hb
    have Z2 := Lib.hid B2.out.size
    have BW2 := Lib.hid (BW1.out.trans (B2.out.mono BW1.out.size))
    go_wp2_with fail
    refine (eqInts_any nR nR _ _ _ _ XR XR _ (by omega) (by omega) T2.out.rd (T1.out.below (Nat.le_refl _) B2.out).rd).mono ?_
    rintro e w3 ⟨rfl, hq⟩
    rw [tt_of (show SameB nR nR XR XR from ⟨rfl, fun _ _ => rfl⟩)]
    have B3 : Hid (Below w2.heap.size w2 w3) := Lib.hid (by obtain ⟨q, rfl⟩ := hq; exact below_drewN (Below.refl _ _) q)
    clear hq
    have Z3 := Lib.hid B3.out.size
    have BW3 := Lib.hid (BW2.out.trans (B3.out.mono BW2.out.size))
    go_wp2_with fail
    refine (markOwn_any nR _ _ _ _ XR _ _ (by omega) (by omega) (by omega) (T2.out.below (Nat.le_refl _) B3.out)).mono ?_
    rintro e w4 ⟨rfl, hT, hk⟩
    have M4 := Lib.hid hT
    have K4 := Lib.hid hk
    clear hT hk
    have Z4 := Lib.hid (Nat.le_of_eq K4.out.size.symm)
    have BW4 := Lib.hid (BW3.out.trans (K4.out.below.mono Z1.out))
    go_wp2_with fail
    refine (heldInts_any nR _ _ _ _ (by omega) (by omega) (by omega) M4.out.rd).mono ?_
    rintro e w' ⟨rfl, rfl⟩
    go_wp2_with fail
    refine (termGives_any _ _ _ (hE := TZ.out.below BW4.out) (hx0 := hx0)).mono ?_
    rw [← QokR.out, ← QnR.out, ← QXR.out]
    rintro e w5 ⟨ga5, gc5, rfl, hT, hb⟩
    have T5 := Lib.hid hT
    have B5 := Lib.hid hb
    clear hT hb
    have Z5 := Lib.hid B5.out.size
    have BW5 := Lib.hid (BW4.out.trans (B5.out.mono BW4.out.size))
    go_wp2_with fail
    refine (eqInts_any nR nR _ _ _ _ XR XR _ (by omega) (by omega) T5.out.rd ((((T1.out.below (Nat.le_refl _) B2.out).below Z2.out B3.out).keeps (.inl (Nat.le_refl _)) K4.out).below (Nat.le_trans (Nat.le_trans Z2.out Z3.out) Z4.out) B5.out).rd).mono ?_
    rintro e w6 ⟨rfl, hq⟩
    rw [tt_of (show SameB nR nR XR XR from ⟨rfl, fun _ _ => rfl⟩)]
    have B6 : Hid (Below w5.heap.size w5 w6) := Lib.hid (by obtain ⟨q, rfl⟩ := hq; exact below_drewN (Below.refl _ _) q)
    clear hq
    have Z6 := Lib.hid B6.out.size
    have BW6 := Lib.hid (BW5.out.trans (B6.out.mono BW5.out.size))
    go_wp2_with fail
    refine (heldInts_any nR _ _ _ _ (by omega) (by omega) (by omega) ((M4.out.below (Nat.le_trans Z3.out Z4.out) B5.out).below (Nat.le_trans (Nat.le_trans Z3.out Z4.out) Z5.out) B6.out).rd).mono ?_
    rintro e w' ⟨rfl, rfl⟩
    go_wp2_with fail
    go_ret
    exact ⟨rfl, BW6.out⟩
  · have hd : decide ((1048576 : Int) < (s1.size : Int)) = true := decide_eq_true (by omega)
    have hdn : decide (1048576 < s1.size) = true := decide_eq_true (by omega)
    go_enter Tryd.func4, Tryd.ntmps4
    go_wp2_with fail
    go_ret
    exact ⟨rfl, Below.refl _ _⟩
end Go.Proofs.YtnaegnjgpnakfaaDoor
