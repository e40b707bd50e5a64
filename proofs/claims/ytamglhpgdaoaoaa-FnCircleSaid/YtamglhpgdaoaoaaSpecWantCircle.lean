/- The model's WantCircle. -/
import Derived.Test.YtamglhpgdaoaoaaL6wCircle
namespace Go.Proofs.Ytamglhpgdaoaoaa
set_option linter.unusedVariables false
set_option linter.unusedSimpArgs false
open Go.RowKit

set_option maxHeartbeats 800000 in
theorem specWantCircle_any (n c m d : Nat) (a b : Option Addr) (W C : Nat → Int) (w : World) (hm0 : n ≤ 1048576) (hb0 : Rd w a n W) (hm1 : m ≤ 1048576) (hb1 : Rd w b m C) :
    Calls Try.prog 21 #[.slice a n c, .slice b m d] w fun e w' => e = .returned (.bool (tt (IsWants n W ∧ IsCirc n W m C))) ∧ Below w.heap.size w w' := by
  have I1 := Lib.hid (specWantIn_any n c a W w hm0 hb0)
  by_cases h : IsWants n W
  · have T1 := Lib.hid (tt_of h)
    have TE := Lib.hid (tt_congr (show IsCirc n W m C ↔ IsWants n W ∧ IsCirc n W m C from ⟨fun h' => ⟨h, h'⟩, fun h' => h'.2⟩))
    have I2 := Lib.hid (fun w' (hb : Below w.heap.size w w') => l6wCircle_any n c m d a b W C w' h hm1 (hb0.below (Nat.le_refl _) hb) (hb1.below (Nat.le_refl _) hb))
    clear hb0 hb1 h
    go_enter Try.func21, Try.ntmps21
    go_wp2_with (first
      | (go_at_call 17; refine I1.out.mono ?_; rintro e w1 ⟨rfl, hb1⟩; rw [T1.out])
      | (go_at_call 58; refine (I2.out _ hb1).mono ?_; rintro e w2 ⟨rfl, hb2⟩; rw [TE.out]; have B2 := Lib.hid (below_chain hb1 hb2); clear hb2))
    go_ret
    exact ⟨rfl, B2.out⟩
  · have T1 := Lib.hid (tt_no h)
    have TE := Lib.hid (tt_no (show ¬ (IsWants n W ∧ IsCirc n W m C) from fun h' => h h'.1))
    clear hb0 hb1 h
    go_enter Try.func21, Try.ntmps21
    go_wp2_with (go_at_call 17; refine I1.out.mono ?_; rintro e w1 ⟨rfl, hb1⟩; rw [T1.out])
    go_ret
    exact ⟨by rw [TE.out]; rfl, hb1⟩
end Go.Proofs.Ytamglhpgdaoaoaa
