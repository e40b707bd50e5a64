/- The model's OddsIn. -/
import Derived.Test.YtamgckmkebpgjaaL9Odds
namespace Go.Proofs.Ytamgckmkebpgjaa
set_option linter.unusedVariables false
set_option linter.unusedSimpArgs false
open Go.RowKit

theorem specOddsIn_any (m c : Nat) (a : Option Addr) (X : Nat → Int) (w : World) (hm0 : m ≤ 1048576) (hb0 : Rd w a m X) :
    Calls Try.prog 17 #[.slice a m c] w fun e w' => e = .returned (.bool (tt (IsOdds m X))) ∧ Below w.heap.size w w' := by
  have H := Lib.hid (l9Odds_any m c a X w hm0 hb0)
  clear hb0
  go_enter Try.func17, Try.ntmps17
  go_wp2_with (go_at_call 43; refine H.out.mono ?_; rintro e w' ⟨rfl, rfl⟩)
  go_ret
  exact ⟨rfl, Below.refl _ _⟩
end Go.Proofs.Ytamgckmkebpgjaa
