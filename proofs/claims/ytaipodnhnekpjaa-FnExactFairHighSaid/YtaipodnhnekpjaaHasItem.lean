/- The program's hasItem. -/
import Derived.Test.YtaipodnhnekpjaaReadBids
namespace Go.Proofs.Ytaipodnhnekpjaa
set_option linter.unusedVariables false
set_option linter.unusedSimpArgs false
open Go.RowKit

theorem hasItem_any (n c : Nat) (a : Option Addr) (A : Nat → Option Addr) (L C : Nat → Nat) (Z : Nat → Nat → Int) (x : Int) (w : World) (hn : 0 < n) (ha0 : Tab w a n A L C Z) : Calls Try.prog 99 #[.slice a n c, .int .i64 x] w fun e w' => e = .returned (.bool (tt (0 ≤ x ∧ x < (L 0 : Int)))) ∧ w = w' := by
  have HI := Lib.hid (bidItems_any n c a A L C Z w hn ha0)
  clear ha0
  by_cases h1 : 0 ≤ x
  · have d1 : decide (x ≥ 0) = true := by simpa using h1
    by_cases h2 : x < (L 0 : Int)
    · have d2 : decide (x < (L 0 : Int)) = true := by simpa using h2
      have T1 := Lib.hid (tt_of (show 0 ≤ x ∧ x < (L 0 : Int) from ⟨h1, h2⟩))
      clear h1 h2
      go_enter Try.func99, Try.ntmps99
      go_wp2_with (go_at_call 61; refine HI.out.mono ?_; rintro e w' ⟨rfl, rfl⟩)
      go_ret
      exact ⟨by rw [T1.out]; rfl, rfl⟩
    · have d2 : decide (x < (L 0 : Int)) = false := by simpa using h2
      have T1 := Lib.hid (tt_no (show ¬ (0 ≤ x ∧ x < (L 0 : Int)) from fun h => h2 h.2))
      clear h1 h2
      go_enter Try.func99, Try.ntmps99
      go_wp2_with (go_at_call 61; refine HI.out.mono ?_; rintro e w' ⟨rfl, rfl⟩)
      go_ret
      exact ⟨by rw [T1.out]; rfl, rfl⟩
  · have d1 : decide (x ≥ 0) = false := by simpa using h1
    have T1 := Lib.hid (tt_no (show ¬ (0 ≤ x ∧ x < (L 0 : Int)) from fun h => h1 h.1))
    clear h1
    go_enter Try.func99, Try.ntmps99
    go_wp2
    go_ret
    exact ⟨by rw [T1.out]; rfl, rfl⟩
end Go.Proofs.Ytaipodnhnekpjaa
