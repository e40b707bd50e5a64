/- The model's RateWay. -/
import Derived.Test.YtmjbocgoinfamaaSpecRateIn
import Derived.Test.YtmjbocgoinfamaaL1Rounds
import Derived.Test.YtmjbocgoinfamaaWayModel
namespace Go.Proofs.Ytmjbocgoinfamaa
set_option linter.unusedVariables false
open Go.RowKit

set_option maxHeartbeats 800000 in
theorem specRateWay_any (n c m d : Nat) (a b : Option Addr) (A : Nat → Option Addr) (L C : Nat → Nat) (Z : Nat → Nat → Int) (W : Nat → Int) (w : World) (hn0 : n ≤ 1048576) (hL0 : ∀ r, r < n → L r ≤ 1048576) (ha0 : Tab w a n A L C Z) (hm1 : m ≤ 1048576) (hb1 : Rd w b m W) :
    Calls Try.prog 15 #[.slice a n c, .slice b m d] w fun e w' => e = .returned (.tuple #[.int .i64 (wayAns n L Z m W), .bool (tt (WayOk n L Z m W))]) ∧ Below w.heap.size w w' := by
  have hn := hn0; have hL := hL0; have ha := ha0; have hm := hm1; have hb := hb1; clear hn0 hL0 ha0 hm1 hb1
  have H1 := Lib.hid (specRateIn_any n c a A L C Z w hn hL ha)
  have HA := Lib.hid ha
  have HB := Lib.hid hb
  clear hL ha hb
  by_cases hr : IsRates n L Z
  · have T1 := Lib.hid (tt_of hr)
    have HR := Lib.hid hr
    have hn5 := hr.1.2
    have hn2 := hr.1.1
    clear hr
    have H2 := Lib.hid (l1Different_any n m d b W w (by omega) hm HB.out)
    by_cases hw : IsWay n m W
    · have T2 := Lib.hid (tt_of hw)
      have T3 := Lib.hid (tt_of (show WayOk n L Z m W from ⟨HR.out, hw⟩))
      have T4 := Lib.hid (wayAns_yes (show WayOk n L Z m W from ⟨HR.out, hw⟩))
      have H3 := Lib.hid (l1Value_any n c m d a b A L C Z W ((n : Int) - 1) w HR.out HA.out HB.out (by have := hw.2; omega) (by have := hw.2; omega) (by have := hw.2; omega) (by omega) hw.1.1)
      clear hw
      go_enter Try.func15, Try.ntmps15
      go_wp2_with (first
        | (go_at_call 55; refine H1.out.mono ?_; rintro e w' ⟨rfl, rfl⟩; rw [T1.out])
        | (go_at_call 56; refine H2.out.mono ?_; rintro e w' ⟨rfl, rfl⟩; rw [T2.out])
        | (go_at_call 57; refine H3.out.mono ?_; rintro e w' ⟨rfl, q, rfl⟩))
      go_ret2
      exact ⟨by rw [T3.out, T4.out]; rfl, below_drewN (Below.refl _ _) q⟩
    · have T2 := Lib.hid (tt_no hw)
      have T3 := Lib.hid (tt_no (show ¬ WayOk n L Z m W from fun h => hw h.2))
      have T4 := Lib.hid (wayAns_no (show ¬ WayOk n L Z m W from fun h => hw h.2))
      clear hw
      go_enter Try.func15, Try.ntmps15
      go_wp2_with (first
        | (go_at_call 55; refine H1.out.mono ?_; rintro e w' ⟨rfl, rfl⟩; rw [T1.out])
        | (go_at_call 56; refine H2.out.mono ?_; rintro e w' ⟨rfl, rfl⟩; rw [T2.out]))
      go_ret2
      exact ⟨by rw [T3.out, T4.out]; rfl, Below.refl _ _⟩
  · have T1 := Lib.hid (tt_no hr)
    have T3 := Lib.hid (tt_no (show ¬ WayOk n L Z m W from fun h => hr h.1))
    have T4 := Lib.hid (wayAns_no (show ¬ WayOk n L Z m W from fun h => hr h.1))
    clear hr
    go_enter Try.func15, Try.ntmps15
    go_wp2_with (first
      | (go_at_call 55; refine H1.out.mono ?_; rintro e w' ⟨rfl, rfl⟩; rw [T1.out]))
    go_ret2
    exact ⟨by rw [T3.out, T4.out]; rfl, Below.refl _ _⟩
end Go.Proofs.Ytmjbocgoinfamaa
