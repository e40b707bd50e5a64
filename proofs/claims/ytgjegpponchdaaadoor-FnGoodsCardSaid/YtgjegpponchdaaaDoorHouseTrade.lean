/- The program's HouseTrade. -/
import Derived.Test.YtgjegpponchdaaaDoorTradeEnds
namespace Go.Proofs.YtgjegpponchdaaaDoor
set_option linter.unusedVariables false
set_option linter.unusedSimpArgs false
open Go.RowKit

theorem houseTrade_any (n c : Nat) (a : Option Addr) (A : Nat → Option Addr) (L C : Nat → Nat) (Z : Nat → Nat → Int) (w : World) (hn0 : n ≤ 1048576) (hL0 : ∀ r, r < n → L r ≤ 1048576) (ha0 : Tab w a n A L C Z) :
    Calls Tryd.prog 22 #[.slice a n c] w (RetIB (tt (IsWishes n L Z)) (tradeN n L Z) (giveF Z n) w) := by
  have H := Lib.hid (readWishes_any n c a A L C Z w hn0 hL0 ha0)
  by_cases h : IsWishes n L Z
  · have T := Lib.hid (tt_of h)
    have TN := Lib.hid (tradeN_yes h)
    have HT := Lib.hid (trade_any n c a A L C Z w h ha0)
    clear h ha0 hL0
    go_enter Tryd.func22, Tryd.ntmps22
    go_wp2_with (first
      | (go_at_call 39; refine H.out.mono ?_; rintro e w' ⟨rfl, rfl⟩; rw [T.out])
      | (go_at_call 45; refine HT.out.mono ?_; rintro e w1 ⟨v, rfl, hR, hO, hb⟩; have HR := Lib.hid hR; have HB := Lib.hid hb; clear hR hO hb))
    go_ret2
    exact ⟨_, _, by rw [T.out, TN.out]; rfl, by rw [TN.out]; exact .inr ⟨_, Nat.le_refl _, HR.out.lt, OwnR.of_row HR.out⟩, HB.out⟩
  · have T := Lib.hid (tt_no h)
    have TN := Lib.hid (tradeN_no h)
    clear h ha0 hL0
    go_enter Tryd.func22, Tryd.ntmps22
    go_wp2_with (go_at_call 39; refine H.out.mono ?_; rintro e w' ⟨rfl, rfl⟩; rw [T.out])
    go_ret2
    exact ⟨none, 0, by rw [T.out, TN.out]; rfl, .inl TN.out, Below.refl _ _⟩
end Go.Proofs.YtgjegpponchdaaaDoor
