/- The model's l6wGiven. -/
import Derived.Test.YtamglhpgdaoaoaaSpecWantIn
namespace Go.Proofs.Ytamglhpgdaoaoaa
set_option linter.unusedVariables false
set_option linter.unusedSimpArgs false
open Go.RowKit

/-- Wants and a k. -/
def WantK (n : Nat) (W : Nat → Int) (k : Int) : Prop := IsWants n W ∧ InR k 2 n
set_option maxHeartbeats 800000 in
theorem l6wGiven_any (n c : Nat) (a : Option Addr) (W : Nat → Int) (k : Int) (w : World) (hm0 : n ≤ 1048576) (hb0 : Rd w a n W) :
    Calls Try.prog 62 #[.slice a n c, .int .i64 k] w fun e w' => e = .returned (.bool (tt (WantK n W k))) ∧ Below w.heap.size w w' := by
  have I1 := Lib.hid (specWantIn_any n c a W w hm0 hb0)
  by_cases h : IsWants n W
  · have T1 := Lib.hid (tt_of h)
    have TE := Lib.hid (tt_congr (show InR k 2 n ↔ WantK n W k from ⟨fun h' => ⟨h, h'⟩, fun h' => h'.2⟩))
    clear hb0 h
    go_enter Try.func62, Try.ntmps62
    go_wp2_with (first
      | (go_at_call 17; refine I1.out.mono ?_; rintro e w1 ⟨rfl, hb1⟩; rw [T1.out])
      | (go_at_call 46; refine (l6In_any _ _ _ _).mono ?_; rintro e w' ⟨rfl, rfl⟩; rw [TE.out]))
    go_ret
    exact ⟨rfl, hb1⟩
  · have T1 := Lib.hid (tt_no h)
    have TE := Lib.hid (tt_no (show ¬ WantK n W k from fun h' => h h'.1))
    clear hb0 h
    go_enter Try.func62, Try.ntmps62
    go_wp2_with (go_at_call 17; refine I1.out.mono ?_; rintro e w1 ⟨rfl, hb1⟩; rw [T1.out])
    go_ret
    exact ⟨by rw [TE.out]; rfl, hb1⟩
end Go.Proofs.Ytamglhpgdaoaoaa
