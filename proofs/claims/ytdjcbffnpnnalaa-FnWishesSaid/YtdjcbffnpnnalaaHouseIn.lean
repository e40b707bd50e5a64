/- The program's HouseIn. -/
import Derived.Test.YtdjcbffnpnnalaaWishes
namespace Go.Proofs.Ytdjcbffnpnnalaa
set_option linter.unusedVariables false
set_option linter.unusedSimpArgs false
open Go.RowKit

theorem houseIn_any (n c : Nat) (a : Option Addr) (A : Nat → Option Addr) (L C : Nat → Nat) (Z : Nat → Nat → Int) (w : World) (hn0 : n ≤ 1048576) (hL0 : ∀ r, r < n → L r ≤ 1048576) (ha0 : Tab w a n A L C Z) :
    Calls Try.prog 28 #[.slice a n c] w fun e w' => e = .returned (.bool (tt (IsWishes n L Z))) ∧ Below w.heap.size w w' := by
  have H := Lib.hid (readWishes_any n c a A L C Z w hn0 hL0 ha0)
  clear ha0 hL0
  by_cases h : IsWishes n L Z
  · have T := Lib.hid (tt_of h)
    clear h
    go_enter Try.func28, Try.ntmps28
    go_wp2_with (go_at_call 37; refine H.out.mono ?_; rintro e w' ⟨rfl, rfl⟩; rw [T.out])
    go_ret
    exact ⟨by rw [T.out]; rfl, Below.refl _ _⟩
  · have T := Lib.hid (tt_no h)
    clear h
    go_enter Try.func28, Try.ntmps28
    go_wp2_with (go_at_call 37; refine H.out.mono ?_; rintro e w' ⟨rfl, rfl⟩; rw [T.out])
    go_ret
    exact ⟨by rw [T.out]; rfl, Below.refl _ _⟩
end Go.Proofs.Ytdjcbffnpnnalaa
