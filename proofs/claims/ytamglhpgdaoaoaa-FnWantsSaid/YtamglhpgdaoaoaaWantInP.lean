/- The program's WantIn. -/
import Derived.Test.YtamglhpgdaoaoaaReadWants
namespace Go.Proofs.Ytamglhpgdaoaoaa
set_option linter.unusedVariables false
set_option linter.unusedSimpArgs false
open Go.RowKit

theorem wantIn_all (n c : Nat) (a : Option Addr) (W : Nat → Int) (w : World) (hm0 : n ≤ 1048576) (hb0 : Rd w a n W) :
    Calls Try.prog 16 #[.slice a n c] w fun e w' => e = .returned (.bool (tt (IsWants n W))) ∧ Below w.heap.size w w' := by
  have H := Lib.hid (readWants_any n c a W w hm0 hb0)
  clear hb0
  go_enter Try.func16, Try.ntmps16
  go_wp2_with (go_at_call 45; refine H.out.mono ?_; rintro e w1 ⟨v, rfl, hv, hb1⟩; have B1 := Lib.hid hb1; clear hb1 hv)
  go_ret
  exact ⟨rfl, B1.out⟩
theorem wantIn_any (n c : Nat) (a : Option Addr) (W : Nat → Int) (w : World) (hm0 : n ≤ 1048576) (hmd0 : n ≤ c) (hb0 : Rd w a n W) :
    Calls Try.prog 16 #[.slice a n c] w fun e w' => e = .returned (.bool (tt (IsWants n W))) ∧ Below w.heap.size w w' :=
  wantIn_all n c a W w hm0 hb0
end Go.Proofs.Ytamglhpgdaoaoaa
