/- What is left of a budget behind the places of a row of integers: the budget less the length, or -1. -/
import Derived.Test.YtaipodnhnekpjaaProg
import Derived.Test.YtaipodnhnekpjaaMem
namespace Go.Proofs.Ytaipodnhnekpjaa
set_option linter.unusedVariables false
open Go.RowKit

theorem szInts_any (n c : Nat) (a : Option Addr) (left : Int) (w : World) (hn : n ≤ 9223372036854775807) (h0 : 0 ≤ left) (h1 : left ≤ 1048576) :
    Calls Try.prog 44 #[.slice a n c, .int .i64 left] w fun e w' => e = .returned (.int .i64 (szF left n)) ∧ w = w' := by
  by_cases h : (n : Int) ≤ left
  · have e1 : szF left n = left - n := by unfold szF; rw [if_pos h]
    have E1 := Lib.hid e1
    clear e1
    go_enter Try.func44, Try.ntmps44
    go_wp2
    go_ret
    exact ⟨by rw [E1.out]; rfl, rfl⟩
  · have e1 : szF left n = -1 := by unfold szF; rw [if_neg h]
    have E1 := Lib.hid e1
    clear e1
    go_enter Try.func44, Try.ntmps44
    go_wp2
    go_ret
    exact ⟨by rw [E1.out]; rfl, rfl⟩
end Go.Proofs.Ytaipodnhnekpjaa
