/- The model's HouseCircle. -/
import Derived.Test.YtdjcbffnpnnalaaTradeEnds
import Derived.Test.YtdjcbffnpnnalaaSpecHouseIn
namespace Go.Proofs.Ytdjcbffnpnnalaa
set_option linter.unusedVariables false
set_option linter.unusedSimpArgs false
open Go.RowKit

theorem specHouseCircle_any (n c : Nat) (a : Option Addr) (A : Nat → Option Addr) (L C : Nat → Nat) (Z : Nat → Nat → Int) (w : World) (hn0 : n ≤ 1048576) (hL0 : ∀ r, r < n → L r ≤ 1048576) (ha0 : Tab w a n A L C Z) :
    Calls Try.prog 25 #[.slice a n c] w fun e w' => e = .returned (.tuple #[.int .i64 (ifWishes n L Z (circleF Z n)), .bool (tt (IsWishes n L Z))]) ∧ Below w.heap.size w w' := by
  have H := Lib.hid (specHouseIn_any n c a A L C Z w hn0 hL0 ha0)
  by_cases h : IsWishes n L Z
  · have T := Lib.hid (tt_of h)
    have hn5 := h.1.2
    obtain ⟨M0, hM0⟩ : ∃ M0, M0 = 2 ^ n - 1 := ⟨_, rfl⟩
    have hp : 2 ^ n ≤ 2 ^ 5 := Nat.pow_le_pow_right (by omega) hn5
    have hp1 := Nat.two_pow_pos n
    have hfull : wrap64 (wrap64 (2 ^ n) - 1) = (M0 : Int) := by
      rw [wrap_pow (show n < 62 by omega), IntWalk.wrap64_in _ (by omega)]; omega
    have hbit : M0.testBit = tS Z n 0 := by funext y; rw [hM0, Nat.testBit_two_pow_sub_one]; rfl
    have TN := Lib.hid (show ((maskN (circB Z n M0.testBit) n : Nat) : Int) = ifWishes n L Z (circleF Z n) by rw [ifWishes_yes h, hbit]; rfl)
    have HT := Lib.hid (l3Circle_any n c M0 a A L C Z w h (by omega) ha0)
    have HF := Lib.hid hfull
    clear h ha0 hL0 hM0 hp hp1 hbit hfull
    go_enter Try.func25, Try.ntmps25
    go_wp2_with (first
      | (go_at_call 29; refine H.out.mono ?_; rintro e w' ⟨rfl, rfl⟩; rw [T.out])
      | (go_at_call 44; rw [HF.out]; refine HT.out.mono ?_; rintro e w1 ⟨rfl, rfl⟩; rw [TN.out]))
    go_ret2
    exact ⟨by rw [T.out]; rfl, Below.refl _ _⟩
  · have T := Lib.hid (tt_no h)
    have TN := Lib.hid (ifWishes_no (x := circleF Z n) h)
    clear h ha0 hL0
    go_enter Try.func25, Try.ntmps25
    go_wp2_with (go_at_call 29; refine H.out.mono ?_; rintro e w' ⟨rfl, rfl⟩; rw [T.out])
    go_ret2
    exact ⟨by rw [T.out, TN.out]; rfl, Below.refl _ _⟩
end Go.Proofs.Ytdjcbffnpnnalaa
