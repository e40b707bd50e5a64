/- The program's has: is a number a money? -/
import Derived.Test.YtmjbocgoinfamaaSize
namespace Go.Proofs.Ytmjbocgoinfamaa
set_option linter.unusedVariables false
open Go.RowKit

set_option maxHeartbeats 800000 in
theorem has_any (n : Nat) (F : Nat → Int) (x : Int) (w : World) (h : Kept n F) :
    Calls Try.prog 58 #[.agg (cellsV 25 F), .int .i64 x] w fun e w' => e = .returned (.bool (tt (InR x 0 (n - 1)))) ∧ Below w.heap.size w w' := by
  have H := Lib.hid h
  clear h
  by_cases h0 : 0 ≤ x
  · have hd : decide (0 ≤ x) = true := by simpa using h0
    have hiff := tt_congr (show InR x 0 ((n : Int) - 1) ↔ x < (n : Int) from ⟨fun h => by have := h.2; omega, fun h => ⟨h0, by omega⟩⟩)
    have hdec : decide (x < (n : Int)) = tt (x < (n : Int)) := by
      by_cases h : x < (n : Int)
      · rw [tt_of h]; simpa using h
      · rw [tt_no h]; simpa using h
    have E := Lib.hid (hiff.trans hdec.symm)
    clear hiff hdec
    go_enter Try.func58, Try.ntmps58
    go_wp2_with (first
      | ((with_reducible refine arr_box 25 _ _ F ?_ ?_); exact rfl; intro w1 hA1 hs1 hb1; have S1 := Lib.hid hs1; clear hs1)
      | ((with_reducible refine arr_load_g 25 _ _ _ _ _ _ _ _ ?_ ?_ hA1 Try.underlying58 Try.sizeRates ?_); exact rfl; exact rfl)
      | (go_at_call 59; refine (size_any n F _ H.out).mono ?_; rintro e w2 ⟨rfl, hb2⟩))
    go_ret
    exact ⟨by rw [E.out]; rfl, hb1.trans (hb2.mono hb1.size)⟩
  · have hd : decide (0 ≤ x) = false := by simpa using h0
    have E := Lib.hid (tt_no (show ¬ InR x 0 ((n : Int) - 1) from fun h => h0 h.1))
    go_enter Try.func58, Try.ntmps58
    go_wp2_with (first
      | ((with_reducible refine arr_box 25 _ _ F ?_ ?_); exact rfl; intro w1 hA1 hs1 hb1; have S1 := Lib.hid hs1; clear hs1)
      | ((with_reducible refine arr_load_g 25 _ _ _ _ _ _ _ _ ?_ ?_ hA1 Try.underlying58 Try.sizeRates ?_); exact rfl; exact rfl))
    go_ret
    exact ⟨by rw [E.out]; rfl, hb1⟩
end Go.Proofs.Ytmjbocgoinfamaa
