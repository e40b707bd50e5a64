/- The model's HouseTurns. -/
import Derived.Test.YtdjcbffnpnnalaaTradeEnds
import Derived.Test.YtdjcbffnpnnalaaSpecHouseIn
namespace Go.Proofs.Ytdjcbffnpnnalaa
set_option linter.unusedVariables false
set_option linter.unusedSimpArgs false
open Go.RowKit

theorem specHouseTurns_any (n c : Nat) (a : Option Addr) (A : Nat → Option Addr) (L C : Nat → Nat) (Z : Nat → Nat → Int) (w : World) (hn0 : n ≤ 1048576) (hL0 : ∀ r, r < n → L r ≤ 1048576) (ha0 : Tab w a n A L C Z) :
    Calls Try.prog 20 #[.slice a n c] w fun e w' => e = .returned (.tuple #[.int .i64 (ifWishes n L Z (turnsN Z n : Nat)), .bool (tt (IsWishes n L Z))]) ∧ Below w.heap.size w w' := by
  have H := Lib.hid (specHouseIn_any n c a A L C Z w hn0 hL0 ha0)
  by_cases h : IsWishes n L Z
  · have T := Lib.hid (tt_of h)
    have TN := Lib.hid (ifWishes_yes (x := (turnsN Z n : Nat)) h)
    have HT := Lib.hid (l3Trade_any n c a A L C Z w h ha0)
    clear h ha0 hL0
    go_enter Try.func20, Try.ntmps20
    go_wp2_with (first
      | (go_at_call 29; refine H.out.mono ?_; rintro e w' ⟨rfl, rfl⟩; rw [T.out])
      | (go_at_call 36; refine HT.out.mono ?_; rintro e w1 ⟨ga, gc, rfl, hnc, hO, hb⟩; have HB := Lib.hid hb; clear hO hb))
    go_ret2
    exact ⟨by rw [T.out, TN.out]; rfl, HB.out⟩
  · have T := Lib.hid (tt_no h)
    have TN := Lib.hid (ifWishes_no (x := (turnsN Z n : Nat)) h)
    clear h ha0 hL0
    go_enter Try.func20, Try.ntmps20
    go_wp2_with (go_at_call 29; refine H.out.mono ?_; rintro e w' ⟨rfl, rfl⟩; rw [T.out])
    go_ret2
    exact ⟨by rw [T.out, TN.out]; rfl, Below.refl _ _⟩
end Go.Proofs.Ytdjcbffnpnnalaa
