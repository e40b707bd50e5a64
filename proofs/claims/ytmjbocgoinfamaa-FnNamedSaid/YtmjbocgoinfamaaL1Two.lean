/- The model's l1Two. -/
import Derived.Test.YtmjbocgoinfamaaSpecRateIn
import Derived.Test.YtmjbocgoinfamaaMem
namespace Go.Proofs.Ytmjbocgoinfamaa
set_option linter.unusedVariables false
open Go.RowKit

set_option maxHeartbeats 800000 in
theorem l1Two_any (n c : Nat) (a : Option Addr) (A : Nat → Option Addr) (L C : Nat → Nat) (Z : Nat → Nat → Int) (i k : Int) (w : World) (hn : n ≤ 1048576) (hL : ∀ r, r < n → L r ≤ 1048576) (ha : Tab w a n A L C Z) :
    Calls Try.prog 75 #[.slice a n c, .int .i64 i, .int .i64 k] w fun e w' => e = .returned (.bool (tt (TwoOk n L Z i k))) ∧ w = w' := by
  have H1 := Lib.hid (specRateIn_any n c a A L C Z w hn hL ha)
  clear hL ha
  by_cases hr : IsRates n L Z
  · have T1 := Lib.hid (tt_of hr)
    have HR := Lib.hid hr
    have hn2 := hr.1.1
    clear hr
    by_cases h1 : InR i 0 ((n : Int) - 1)
    · have T2 := Lib.hid (tt_of h1)
      have E := Lib.hid (tt_congr (show TwoOk n L Z i k ↔ InR k 0 ((n : Int) - 1) from ⟨fun h => h.2.2, fun h => ⟨HR.out, h1, h⟩⟩))
      clear h1
      go_enter Try.func75, Try.ntmps75
      go_wp2_with fail
      refine H1.out.mono ?_
      rintro e w' ⟨rfl, rfl⟩
      rw [T1.out]
      go_wp2_with fail
      refine (l6In_any _ _ _ _).mono ?_
      rintro e w' ⟨rfl, rfl⟩
      rw [T2.out]
      go_wp2_with fail
      refine (l6In_any _ _ _ _).mono ?_
      rintro e w' ⟨rfl, rfl⟩
      go_wp2
      go_ret
      exact ⟨by rw [E.out]; rfl, rfl⟩
    · have T2 := Lib.hid (tt_no h1)
      have E := Lib.hid (tt_no (show ¬ TwoOk n L Z i k from fun h => h1 h.2.1))
      clear h1
      go_enter Try.func75, Try.ntmps75
      go_wp2_with fail
      refine H1.out.mono ?_
      rintro e w' ⟨rfl, rfl⟩
      rw [T1.out]
      go_wp2_with fail
      refine (l6In_any _ _ _ _).mono ?_
      rintro e w' ⟨rfl, rfl⟩
      rw [T2.out]
      go_wp2
      go_ret
      exact ⟨by rw [E.out]; rfl, rfl⟩
  · have T1 := Lib.hid (tt_no hr)
    have E := Lib.hid (tt_no (show ¬ TwoOk n L Z i k from fun h => hr h.1))
    clear hr
    go_enter Try.func75, Try.ntmps75
    go_wp2_with fail
    refine H1.out.mono ?_
    rintro e w' ⟨rfl, rfl⟩
    rw [T1.out]
    go_wp2
    go_ret
    exact ⟨by rw [E.out]; rfl, rfl⟩
end Go.Proofs.Ytmjbocgoinfamaa
