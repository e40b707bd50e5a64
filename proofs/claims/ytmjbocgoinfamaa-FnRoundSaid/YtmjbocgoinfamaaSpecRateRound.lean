/- The model's RateRound. -/
import Derived.Test.YtmjbocgoinfamaaSpecRateIn
import Derived.Test.YtmjbocgoinfamaaL1Rounds
namespace Go.Proofs.Ytmjbocgoinfamaa
set_option linter.unusedVariables false
open Go.RowKit

set_option maxHeartbeats 800000 in
theorem specRateRound_any (n c m d : Nat) (a : Option Addr) (A : Nat → Option Addr) (L C : Nat → Nat) (Z : Nat → Nat → Int) (b : Option Addr) (X : Nat → Int) (w : World) (hn0 : n ≤ 1048576) (hL0 : ∀ r, r < n → L r ≤ 1048576) (ha0 : Tab w a n A L C Z) (hm1 : m ≤ 1048576) (hb1 : Rd w b m X) :
    Calls Try.prog 20 #[.slice a n c, .slice b m d] w fun e w' => e = .returned (.tuple #[.int .i64 (roundAns n L Z m X), .bool (tt (RoundOk n L Z m X))]) ∧ Below w.heap.size w w' := by
  have H1 := Lib.hid (specRateIn_any n c a A L C Z w hn0 hL0 ha0)
  have HA := Lib.hid ha0
  have HB := Lib.hid hb1
  clear hL0 ha0 hb1
  by_cases hr : IsRates n L Z
  · have T1 := Lib.hid (tt_of hr)
    have HR := Lib.hid hr
    have hn5 := hr.1.2
    have hn2 := hr.1.1
    clear hr
    have H2 := Lib.hid (l1Ring_any n m d b X w (by omega) hm1 HB.out)
    by_cases hw : IsRing n m X
    · have T2 := Lib.hid (tt_of hw)
      have T3 := Lib.hid (tt_of (show RoundOk n L Z m X from ⟨HR.out, hw⟩))
      have T4 := Lib.hid (roundAns_yes (show RoundOk n L Z m X from ⟨HR.out, hw⟩))
      have hm2 := hw.1.2
      have HW := Lib.hid hw
      clear hw
      go_enter Try.func20, Try.ntmps20
      go_wp2_with fail
      refine H1.out.mono ?_
      rintro e w' ⟨rfl, rfl⟩
      rw [T1.out]
      go_wp2_with fail
      refine H2.out.mono ?_
      rintro e w' ⟨rfl, q, rfl⟩
      rw [T2.out]
      go_wp2_with fail
      refine (l1Closed_any m d b X _ (by omega) (by omega) (HB.out.drewN q)).mono ?_
      rintro e w1 ⟨g, cap, rfl, hown, hb1⟩
      have HO := Lib.hid (owns_rd hown)
      have B1 := Lib.hid ((below_drewN (Below.refl w.heap.size w) q).trans hb1)
      clear hown hb1
      go_wp2_with fail
      refine (l1Value_any n c (m + 1) cap a _ A L C Z (closeF m X) (n : Int) _ HR.out (HA.out.below (Nat.le_refl _) B1.out) HO.out (by omega) (by omega) (by omega) (by omega) (fun i _ => closeF_in HW.out.1 i)).mono ?_
      rintro e w2 ⟨rfl, q2, rfl⟩
      go_wp2
      go_ret2
      exact ⟨by rw [T3.out, T4.out]; rfl, below_drewN B1.out q2⟩
    · have T2 := Lib.hid (tt_no hw)
      have T3 := Lib.hid (tt_no (show ¬ RoundOk n L Z m X from fun h => hw h.2))
      have T4 := Lib.hid (roundAns_no (show ¬ RoundOk n L Z m X from fun h => hw h.2))
      clear hw
      go_enter Try.func20, Try.ntmps20
      go_wp2_with fail
      refine H1.out.mono ?_
      rintro e w' ⟨rfl, rfl⟩
      rw [T1.out]
      go_wp2_with fail
      refine H2.out.mono ?_
      rintro e w' ⟨rfl, q, rfl⟩
      rw [T2.out]
      go_wp2
      go_ret2
      exact ⟨by rw [T3.out, T4.out]; rfl, below_drewN (Below.refl _ _) q⟩
  · have T1 := Lib.hid (tt_no hr)
    have T3 := Lib.hid (tt_no (show ¬ RoundOk n L Z m X from fun h => hr h.1))
    have T4 := Lib.hid (roundAns_no (show ¬ RoundOk n L Z m X from fun h => hr h.1))
    clear hr
    go_enter Try.func20, Try.ntmps20
    go_wp2_with fail
    refine H1.out.mono ?_
    rintro e w' ⟨rfl, rfl⟩
    rw [T1.out]
    go_wp2
    go_ret2
    exact ⟨by rw [T3.out, T4.out]; rfl, Below.refl _ _⟩
end Go.Proofs.Ytmjbocgoinfamaa
