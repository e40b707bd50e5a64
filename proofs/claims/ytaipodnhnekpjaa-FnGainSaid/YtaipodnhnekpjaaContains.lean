/- The library's slices.Contains at integers. -/
import Derived.Test.YtaipodnhnekpjaaIndexI
namespace Go.Proofs.Ytaipodnhnekpjaa
set_option linter.unusedVariables false
open Go.RowKit

set_option maxHeartbeats 400000 in
theorem contains_any (n c : Nat) (a : Option Addr) (X : Nat → Int) (x : Int) (w : World) (hn : n ≤ 1048576) (ha : Rd w a n X) :
    Calls Try.prog 89 #[.slice a n c, .int .i64 x] w fun e w' => e = .returned (.bool (tt (HasI n X x))) ∧ w = w' := by
  have H1 := Lib.hid (index_any n c a X x w hn ha)
  obtain ⟨r, hr⟩ : ∃ r, r = idxF X x n := ⟨_, rfl⟩
  have hd : decide (0 ≤ r) = tt (HasI n X x) := by
    rw [hr]
    by_cases h : HasI n X x
    · rw [tt_of h]; simpa using idxF_has.1 h
    · rw [tt_no h]
      have := fun h' => h (idxF_has.2 h')
      simpa using this
  have HD := Lib.hid hd
  have HR := Lib.hid hr
  clear hd ha hr
  go_enter Try.func89, Try.ntmps89
  go_wp2_with (go_at_call 112; refine H1.out.mono ?_; rintro e w' ⟨rfl, rfl⟩; rw [← HR.out])
  go_ret
  exact ⟨by rw [← HD.out]; rfl, rfl⟩
end Go.Proofs.Ytaipodnhnekpjaa
