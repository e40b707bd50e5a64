/- The rates of an array of five rows. -/
import Derived.Test.YtmjbocgoinfamaaSize
namespace Go.Proofs.Ytmjbocgoinfamaa
set_option linter.unusedVariables false
open Go.RowKit

theorem rate_five {n : Nat} {L : Nat → Nat} {Z : Nat → Nat → Int} (h : IsRates n L Z) (x y : Nat) (hx : x < 5) (hy : y < 5) : 0 ≤ atF (rateF n L Z) x y ∧ atF (rateF n L Z) x y ≤ 144 := by
  have e1 : (x * 5 + y) / 5 = x := by omega
  have e2 : (x * 5 + y) % 5 = y := by omega
  unfold atF
  rw [← rateF_yes h, e1, e2]
  by_cases hn : x < n ∧ y < n
  · rw [if_pos hn]
    have := ((h.2 x hn.1).2 y hn.2).1
    omega
  · rw [if_neg hn]; decide
theorem rate_none {n : Nat} {L : Nat → Nat} {Z : Nat → Nat → Int} (h : IsRates n L Z) (x y : Nat) (hx : x < 5) (hy : y < 5) (hn : n ≤ x ∨ n ≤ y) : atF (rateF n L Z) x y = 0 := by
  have e1 : (x * 5 + y) / 5 = x := by omega
  have e2 : (x * 5 + y) % 5 = y := by omega
  unfold atF
  rw [← rateF_yes h, e1, e2, if_neg (by omega)]
end Go.Proofs.Ytmjbocgoinfamaa
