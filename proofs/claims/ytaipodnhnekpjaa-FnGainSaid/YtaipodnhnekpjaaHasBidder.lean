/- The program's hasBidder and hasItem. -/
import Derived.Test.YtaipodnhnekpjaaReadBids
namespace Go.Proofs.Ytaipodnhnekpjaa
set_option linter.unusedVariables false
set_option linter.unusedSimpArgs false
open Go.RowKit

theorem hasBidder_any (n c : Nat) (a : Option Addr) (x : Int) (w : World) : Calls Try.prog 76 #[.slice a n c, .int .i64 x] w fun e w' => e = .returned (.bool (tt (0 ≤ x ∧ x < (n : Int)))) ∧ w = w' := by
  by_cases h1 : 0 ≤ x
  · have d1 : decide (x ≥ 0) = true := by simpa using h1
    by_cases h2 : x < (n : Int)
    · have d2 : decide (x < (n : Int)) = true := by simpa using h2
      have T1 := Lib.hid (tt_of (show 0 ≤ x ∧ x < (n : Int) from ⟨h1, h2⟩))
      clear h1 h2
      go_enter Try.func76, Try.ntmps76
      go_wp2
      go_ret
      exact ⟨by rw [T1.out]; rfl, rfl⟩
    · have d2 : decide (x < (n : Int)) = false := by simpa using h2
      have T1 := Lib.hid (tt_no (show ¬ (0 ≤ x ∧ x < (n : Int)) from fun h => h2 h.2))
      clear h1 h2
      go_enter Try.func76, Try.ntmps76
      go_wp2
      go_ret
      exact ⟨by rw [T1.out]; rfl, rfl⟩
  · have d1 : decide (x ≥ 0) = false := by simpa using h1
    have T1 := Lib.hid (tt_no (show ¬ (0 ≤ x ∧ x < (n : Int)) from fun h => h1 h.1))
    clear h1
    go_enter Try.func76, Try.ntmps76
    go_wp2
    go_ret
    exact ⟨by rw [T1.out]; rfl, rfl⟩
end Go.Proofs.Ytaipodnhnekpjaa
