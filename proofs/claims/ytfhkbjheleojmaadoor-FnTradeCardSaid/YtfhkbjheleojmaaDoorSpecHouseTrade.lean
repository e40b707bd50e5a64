/- The model's HouseTrade. -/
import Derived.Test.YtfhkbjheleojmaaDoorTradeEnds
import Derived.Test.YtfhkbjheleojmaaDoorSpecHouseIn
namespace Go.Proofs.YtfhkbjheleojmaaDoor
set_option linter.unusedVariables false
set_option linter.unusedSimpArgs false
open Go.RowKit

theorem specHouseTrade_any (n c : Nat) (a : Option Addr) (A : Nat → Option Addr) (L C : Nat → Nat) (Z : Nat → Nat → Int) (w : World) (hn0 : n ≤ 1048576) (hL0 : ∀ r, r < n → L r ≤ 1048576) (ha0 : Tab w a n A L C Z) :
    Calls Tryd.prog 25 #[.slice a n c] w (RetIB (tt (IsWishes n L Z)) (tradeN n L Z) (giveF Z n) w) := by
  have H := Lib.hid (specHouseIn_any n c a A L C Z w hn0 hL0 ha0)
  by_cases h : IsWishes n L Z
  · have T := Lib.hid (tt_of h)
    have TN := Lib.hid (tradeN_yes h)
    have HT := Lib.hid (l3Trade_any n c a A L C Z w h ha0)
    clear h ha0 hL0
    go_enter Tryd.func25, Tryd.ntmps25
    go_wp2_with (first
      | (go_at_call 41; refine H.out.mono ?_; rintro e w' ⟨rfl, rfl⟩; rw [T.out])
      | (go_at_call 49; refine HT.out.mono ?_; rintro e w1 ⟨ga, gc, rfl, hnc, hO, hb⟩; have HO := Lib.hid hO; have HB := Lib.hid hb; clear hO hb))
    go_ret2
    exact ⟨_, _, by rw [T.out, TN.out]; rfl, by rw [TN.out]; exact HO.out, HB.out⟩
  · have T := Lib.hid (tt_no h)
    have TN := Lib.hid (tradeN_no h)
    clear h ha0 hL0
    go_enter Tryd.func25, Tryd.ntmps25
    go_wp2_with (go_at_call 41; refine H.out.mono ?_; rintro e w' ⟨rfl, rfl⟩; rw [T.out])
    go_ret2
    exact ⟨_, _, by rw [T.out, TN.out]; rfl, .inl TN.out, below_alloc (Below.refl _ _) _⟩
end Go.Proofs.YtfhkbjheleojmaaDoor
