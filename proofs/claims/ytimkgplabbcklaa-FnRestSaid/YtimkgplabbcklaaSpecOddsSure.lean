/- The model's OddsSure. -/
import Derived.Test.YtimkgplabbcklaaL9Odds
import Derived.Test.YtimkgplabbcklaaL9Sum
namespace Go.Proofs.Ytimkgplabbcklaa
set_option linter.unusedVariables false
set_option linter.unusedSimpArgs false
open Go.RowKit

set_option maxHeartbeats 800000 in
theorem specOddsSure_any (m c : Nat) (a : Option Addr) (X : Nat → Int) (w : World) (hm0 : m ≤ 1048576) (hb0 : Rd w a m X) :
    Calls Try.prog 10 #[.slice a m c] w fun e w' => e = .returned (.bool (tt (SureP m X))) ∧ Below w.heap.size w w' := by
  have H := Lib.hid (l9Odds_any m c a X w hm0 hb0)
  by_cases h : IsOdds m X
  · have T1 := Lib.hid (tt_of h)
    have HS := l9Sum_any m c a X w h.1.2 hb0 h.2
    obtain ⟨t, ht⟩ : ∃ t, t = topN (pieceS X m) := ⟨_, rfl⟩
    obtain ⟨b, hb⟩ : ∃ b, b = botN (pieceS X m) := ⟨_, rfl⟩
    have E := Lib.hid (show decide (t < b) = tt (SureP m X) from by
      rw [ht, hb]
      by_cases e : topN (pieceS X m) < botN (pieceS X m)
      · rw [tt_of (show SureP m X from ⟨h, (top_lt_bot _).1 e⟩)]; simpa using e
      · rw [tt_no (show ¬ SureP m X from fun h' => e ((top_lt_bot _).2 h'.2))]; simpa using e)
    rw [← ht, ← hb] at HS
    clear ht hb h
    have HS := Lib.hid HS
    clear hb0
    go_enter Try.func10, Try.ntmps10
    go_wp2_with (first
      | (go_at_call 30; refine H.out.mono ?_; rintro e w' ⟨rfl, rfl⟩; rw [T1.out])
      | (go_at_call 31; refine HS.out.mono ?_; rintro e w' ⟨rfl, rfl⟩))
    go_ret
    exact ⟨by first | (rw [E.out]; rfl) | (rw [← E.out]; rfl) | (rw [← E.out]; simp), Below.refl _ _⟩
  · have T1 := Lib.hid (tt_no h)
    have E := Lib.hid (tt_no (show ¬ SureP m X from fun h' => h h'.1))
    clear h
    clear hb0
    go_enter Try.func10, Try.ntmps10
    go_wp2_with (go_at_call 30; refine H.out.mono ?_; rintro e w' ⟨rfl, rfl⟩; rw [T1.out])
    go_ret
    exact ⟨by first | (rw [E.out]; rfl) | (rw [← E.out]; rfl) | (rw [← E.out]; simp), Below.refl _ _⟩
end Go.Proofs.Ytimkgplabbcklaa
