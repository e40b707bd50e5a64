/- Whether a number lies in a range. -/
import Derived.Test.YtnaegnjgpnakfaaDoorProg
import Derived.Test.YtnaegnjgpnakfaaDoorMem
namespace Go.Proofs.YtnaegnjgpnakfaaDoor
set_option linter.unusedVariables false
open Go.RowKit

theorem l6In_any (x lo hi : Int) (w : World) :
    Calls Tryd.prog 58 #[.int .i64 x, .int .i64 lo, .int .i64 hi] w fun e w' => e = .returned (.bool (tt (InR x lo hi))) ∧ w = w' := by
  by_cases h1 : lo ≤ x
  · by_cases h2 : x ≤ hi
    · have H := Lib.hid (tt_of (show InR x lo hi from ⟨h1, h2⟩))
      go_enter Tryd.func58, Tryd.ntmps58
      go_wp2
      go_ret
      exact ⟨by rw [H.out]; rfl, rfl⟩
    · have H := Lib.hid (tt_no (show ¬ InR x lo hi from fun h => h2 h.2))
      go_enter Tryd.func58, Tryd.ntmps58
      go_wp2
      go_ret
      exact ⟨by rw [H.out]; rfl, rfl⟩
  · have H := Lib.hid (tt_no (show ¬ InR x lo hi from fun h => h1 h.1))
    go_enter Tryd.func58, Tryd.ntmps58
    go_wp2
    go_ret
    exact ⟨by rw [H.out]; rfl, rfl⟩
end Go.Proofs.YtnaegnjgpnakfaaDoor
