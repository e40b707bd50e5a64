/- The model's l2Both. -/
import Derived.Test.YtakipaehoeapcaaL2Prices
import Derived.Test.YtakipaehoeapcaaSpecRateIn
namespace Go.Proofs.Ytakipaehoeapcaa
set_option linter.unusedVariables false
open Go.RowKit

set_option maxHeartbeats 800000 in
theorem l2Both_any (n c m d : Nat) (a b : Option Addr) (A : Nat → Option Addr) (L C : Nat → Nat) (Z : Nat → Nat → Int) (W : Nat → Int) (w : World) (hn0 : n ≤ 1048576) (hL0 : ∀ r, r < n → L r ≤ 1048576) (ha0 : Tab w a n A L C Z) (hm1 : m ≤ 1048576) (hb1 : Rd w b m W) :
    Calls Try.prog 70 #[.slice a n c, .slice b m d] w fun e w' => e = .returned (.bool (tt (BothOk n L Z m W))) ∧ w = w' := by
  have H1 := Lib.hid (specRateIn_any n c a A L C Z w hn0 hL0 ha0)
  have H2 := Lib.hid (l2Prices_any m d b W w hm1 hb1)
  clear ha0 hL0 hb1
  by_cases hr : IsRates n L Z
  · have T1 := Lib.hid (tt_of hr)
    by_cases hp : IsPrices m W
    · have T2 := Lib.hid (tt_of hp)
      have E := Lib.hid (show ((n : Int) == (m : Int)) = tt (BothOk n L Z m W) from tt_eq (by
        constructor
        · intro h; exact ⟨⟨hr, hp⟩, by have h' : (n : Int) = m := by simpa using h
                                       omega⟩
        · intro h; have h' := h.2; simp; omega))
      clear hr hp
      go_enter Try.func70, Try.ntmps70
      go_wp2_with (first
        | (go_at_call 48; refine H1.out.mono ?_; rintro e w1 ⟨rfl, rfl⟩; rw [T1.out])
        | (go_at_call 94; refine H2.out.mono ?_; rintro e w1 ⟨rfl, rfl⟩; rw [T2.out]))
      go_ret
      exact ⟨by rw [← E.out]; rfl, rfl⟩
    · have T2 := Lib.hid (tt_no hp)
      have E := Lib.hid (tt_no (show ¬ BothOk n L Z m W from fun h => hp h.1.2))
      clear hr hp
      go_enter Try.func70, Try.ntmps70
      go_wp2_with (first
        | (go_at_call 48; refine H1.out.mono ?_; rintro e w1 ⟨rfl, rfl⟩; rw [T1.out])
        | (go_at_call 94; refine H2.out.mono ?_; rintro e w1 ⟨rfl, rfl⟩; rw [T2.out]))
      go_ret
      exact ⟨by rw [E.out]; rfl, rfl⟩
  · have T1 := Lib.hid (tt_no hr)
    have E := Lib.hid (tt_no (show ¬ BothOk n L Z m W from fun h => hr h.1.1))
    clear hr
    go_enter Try.func70, Try.ntmps70
    go_wp2_with (go_at_call 48; refine H1.out.mono ?_; rintro e w1 ⟨rfl, rfl⟩; rw [T1.out])
    go_ret
    exact ⟨by rw [E.out]; rfl, rfl⟩
end Go.Proofs.Ytakipaehoeapcaa
