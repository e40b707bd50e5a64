/- The program's hasWay. -/
import Derived.Test.YtmjbocgoinfamaaSize
import Derived.Test.YtmjbocgoinfamaaAreDifferent
namespace Go.Proofs.Ytmjbocgoinfamaa
set_option linter.unusedVariables false
open Go.RowKit

set_option maxHeartbeats 800000 in
theorem hasWay_any (n m d : Nat) (F : Nat → Int) (b : Option Addr) (W : Nat → Int) (w : World) (h : Kept n F) (hm : m ≤ 1048576) (hb : Rd w b m W) :
    Calls Try.prog 53 #[.agg (cellsV 25 F), .slice b m d] w fun e w' => e = .returned (.bool (tt (IsWay n m W))) ∧ Below w.heap.size w w' := by
  have hn5 := h.le
  have H := Lib.hid h
  have HB := Lib.hid hb
  clear h hb
  by_cases h2 : m < 2
  · have hno := Lib.hid (tt_no (show ¬ IsWay n m W from fun h => by have := h.2; omega))
    have hd : decide (2 ≤ (m : Int)) = false := by simp; omega
    go_enter Try.func53, Try.ntmps53
    go_wp2_with (first
      | ((with_reducible refine arr_box 25 _ _ F ?_ ?_); exact rfl; intro w1 hA1 hs1 hb1; have S1 := Lib.hid hs1; clear hs1)
      | ((with_reducible refine arr_load 25 _ _ _ _ _ _ _ ?_ hA1 Try.underlying58 Try.sizeRates ?_); exact rfl)
      | (go_at_call 59; refine (size_any n F _ H.out).mono ?_; rintro e w2 ⟨rfl, hb2⟩))
    go_ret
    exact ⟨by rw [hno.out]; rfl, hb1.trans (hb2.mono hb1.size)⟩
  · by_cases h3 : n < m
    · have hno := Lib.hid (tt_no (show ¬ IsWay n m W from fun h => by have := h.2; omega))
      have hd : decide (2 ≤ (m : Int)) = true := by simp; omega
      have hd2 : decide (m ≤ n) = false := by simp; omega
      go_enter Try.func53, Try.ntmps53
      go_wp2_with (first
        | ((with_reducible refine arr_box 25 _ _ F ?_ ?_); exact rfl; intro w1 hA1 hs1 hb1; have S1 := Lib.hid hs1; clear hs1)
        | ((with_reducible refine arr_load 25 _ _ _ _ _ _ _ ?_ hA1 Try.underlying58 Try.sizeRates ?_); exact rfl)
        | (go_at_call 59; refine (size_any n F _ H.out).mono ?_; rintro e w2 ⟨rfl, hb2⟩))
      go_ret
      exact ⟨by rw [hno.out]; rfl, hb1.trans (hb2.mono hb1.size)⟩
    · have hyes := Lib.hid (tt_congr (show IsWay n m W ↔ IsDiff n m W from ⟨fun h => h.1, fun h => ⟨h, by omega, by omega⟩⟩))
      have hd : decide (2 ≤ (m : Int)) = true := by simp; omega
      have hd2 : decide (m ≤ n) = true := by simp; omega
      go_enter Try.func53, Try.ntmps53
      go_wp2_with (first
        | ((with_reducible refine arr_box 25 _ _ F ?_ ?_); exact rfl; intro w1 hA1 hs1 hb1; have S1 := Lib.hid hs1; clear hs1)
        | ((with_reducible refine arr_load 25 _ _ _ _ _ _ _ ?_ hA1 Try.underlying58 Try.sizeRates ?_); exact rfl)
        | (go_at_call 59; refine (size_any n F _ H.out).mono ?_; rintro e w2 ⟨rfl, hb2⟩; have B2 := Lib.hid (hb1.trans (hb2.mono hb1.size)); clear hb1 hb2)
        | (go_at_call 82; refine (areDifferent_any n m d b W _ (by omega) hm (HB.out.below (Nat.le_refl _) B2.out)).mono ?_; rintro e w3 ⟨rfl, rfl⟩))
      go_ret
      exact ⟨by rw [hyes.out]; rfl, B2.out⟩
end Go.Proofs.Ytmjbocgoinfamaa
