/- The model's RateRounds. -/
import Derived.Test.YtmjbocgoinfamaaGainModel
namespace Go.Proofs.Ytmjbocgoinfamaa
set_option linter.unusedVariables false
open Go.RowKit

set_option maxHeartbeats 800000 in
theorem specRateRounds_any (n c : Nat) (a : Option Addr) (A : Nat → Option Addr) (L C : Nat → Nat) (Z : Nat → Nat → Int) (w : World) (hn0 : n ≤ 1048576) (hL0 : ∀ r, r < n → L r ≤ 1048576) (ha0 : Tab w a n A L C Z) :
    Calls Try.prog 26 #[.slice a n c] w fun e w' => e = .returned (.tuple #[.int .i64 (gainN n L Z : Nat), .bool (tt (IsRates n L Z))]) ∧ Below w.heap.size w w' := by
  have H1 := Lib.hid (specRateIn_any n c a A L C Z w hn0 hL0 ha0)
  by_cases hr : IsRates n L Z
  · have H2 := Lib.hid (l1Rounds_any n c a A L C Z w hr ha0)
    have T1 := Lib.hid (tt_of hr)
    have T2 := Lib.hid (gainN_yes hr)
    clear hL0 ha0 hr
    go_enter Try.func26, Try.ntmps26
    go_wp2_with (first
      | (go_at_call 55; refine H1.out.mono ?_; rintro e w' ⟨rfl, rfl⟩; rw [T1.out])
      | (go_at_call 73; refine H2.out.mono ?_; rintro e w1 ⟨v, G, Cp, rfl, hM, hb⟩; obtain ⟨ga, gc, rfl⟩ := making_len hM; have B1 := Lib.hid hb; clear hM hb))
    go_ret2
    exact ⟨by rw [T1.out, T2.out]; rfl, B1.out⟩
  · have T1 := Lib.hid (tt_no hr)
    have T2 := Lib.hid (gainN_no hr)
    clear hL0 ha0 hr
    go_enter Try.func26, Try.ntmps26
    go_wp2_with (go_at_call 55; refine H1.out.mono ?_; rintro e w' ⟨rfl, rfl⟩; rw [T1.out])
    go_ret2
    exact ⟨by rw [T1.out, T2.out]; rfl, Below.refl _ _⟩
end Go.Proofs.Ytmjbocgoinfamaa
