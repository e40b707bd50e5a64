/- The model's PriceIn. -/
import Derived.Test.YtmjbocgoinfamaaL2Prices
namespace Go.Proofs.Ytmjbocgoinfamaa
set_option linter.unusedVariables false
open Go.RowKit

theorem specPriceIn_any (m c : Nat) (a : Option Addr) (X : Nat → Int) (w : World) (hm0 : m ≤ 1048576) (hb0 : Rd w a m X) :
    Calls Try.prog 41 #[.slice a m c] w fun e w' => e = .returned (.bool (tt (IsPrices m X))) ∧ Below w.heap.size w w' := by
  have H := Lib.hid (l2Prices_any m c a X w hm0 hb0)
  clear hb0
  go_enter Try.func41, Try.ntmps41
  go_wp2_with fail
  refine H.out.mono ?_
  rintro e w' ⟨rfl, rfl⟩
  go_wp2
  go_ret
  exact ⟨rfl, Below.refl _ _⟩
end Go.Proofs.Ytmjbocgoinfamaa
