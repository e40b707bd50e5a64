/- The program's has: whether there is such a person or house. -/
import Derived.Test.YtipfjblnanafnaaWishes
namespace Go.Proofs.Ytipfjblnanafnaa
set_option linter.unusedVariables false
set_option linter.unusedSimpArgs false
open Go.RowKit

theorem hasW_any (n c : Nat) (a : Option Addr) (x : Int) (w : World) (hn : n ≤ 1048576) :
    Calls Try.prog 58 #[.slice a n c, .int .i64 x] w fun e w' => e = .returned (.bool (tt (InR x 0 (n - 1)))) ∧ w = w' := by
  by_cases h0 : 0 ≤ x
  · have hd : decide (0 ≤ x) = true := by simpa using h0
    have HE := Lib.hid (show decide (x < (n : Int)) = tt (InR x 0 ((n : Int) - 1)) by
      by_cases h : x < (n : Int)
      · rw [tt_of (show InR x 0 ((n : Int) - 1) from ⟨h0, by omega⟩)]; simpa using h
      · rw [tt_no (show ¬ InR x 0 ((n : Int) - 1) from fun h' => by have := h'.2; omega)]; simpa using h)
    go_enter Try.func58, Try.ntmps58
    go_wp2
    go_ret
    exact ⟨by rw [← HE.out]; rfl, rfl⟩
  · have hd : decide (0 ≤ x) = false := by simpa using h0
    have HE := Lib.hid (tt_no (show ¬ InR x 0 ((n : Int) - 1) from fun h' => h0 h'.1))
    go_enter Try.func58, Try.ntmps58
    go_wp2
    go_ret
    exact ⟨by rw [HE.out]; rfl, rfl⟩
end Go.Proofs.Ytipfjblnanafnaa
