/- The model's RateStep. -/
import Derived.Test.YtmjbocgoinfamaaL1Two
import Derived.Test.YtmjbocgoinfamaaL1Steps
namespace Go.Proofs.Ytmjbocgoinfamaa
set_option linter.unusedVariables false
open Go.RowKit

set_option maxHeartbeats 800000 in
theorem specRateStep_any (n c : Nat) (a : Option Addr) (A : Nat → Option Addr) (L C : Nat → Nat) (Z : Nat → Nat → Int) (i k : Int) (w : World) (hn0 : n ≤ 1048576) (hL0 : ∀ r, r < n → L r ≤ 1048576) (ha0 : Tab w a n A L C Z) (hx1 : I64 i) (hx2 : I64 k) :
    Calls Try.prog 32 #[.slice a n c, .int .i64 i, .int .i64 k] w fun e w' => e = .returned (.tuple #[.int .i64 (stepAns n L Z i k), .bool (tt (TwoOk n L Z i k))]) ∧ Below w.heap.size w w' := by
  have H1 := Lib.hid (l1Two_any n c a A L C Z i k w hn0 hL0 ha0)
  have HA := Lib.hid ha0
  clear hL0 ha0 hx1 hx2
  by_cases hr : TwoOk n L Z i k
  · have T1 := Lib.hid (tt_of hr)
    have T2 := Lib.hid (stepAns_yes hr)
    obtain ⟨x, hx⟩ := Int.eq_ofNat_of_zero_le hr.2.1.1
    obtain ⟨y, hy⟩ := Int.eq_ofNat_of_zero_le hr.2.2.1
    subst hx hy
    have hxn : x < n := by have := hr.2.1.2; omega
    have hyn : y < n := by have := hr.2.2.2; omega
    have H2 := Lib.hid (l1Steps_any n c x a A L C Z w hr.1 hxn HA.out)
    clear hr
    go_enter Try.func32, Try.ntmps32
    go_wp2_with fail
    refine H1.out.mono ?_
    rintro e w' ⟨rfl, rfl⟩
    rw [T1.out]
    go_wp2_with fail
    refine H2.out.mono ?_
    rintro e w1 ⟨g, rfl, hg, hrow, hb⟩
    have hc := hrow.cell hyn
    clear hrow
    go_wp2
    go_ret2
    exact ⟨by rw [T1.out, T2.out]; rfl, hb⟩
  · have T1 := Lib.hid (tt_no hr)
    have T2 := Lib.hid (stepAns_no hr)
    clear hr
    go_enter Try.func32, Try.ntmps32
    go_wp2_with fail
    refine H1.out.mono ?_
    rintro e w' ⟨rfl, rfl⟩
    rw [T1.out]
    go_wp2
    go_ret2
    exact ⟨by rw [T1.out, T2.out]; rfl, Below.refl _ _⟩
end Go.Proofs.Ytmjbocgoinfamaa
