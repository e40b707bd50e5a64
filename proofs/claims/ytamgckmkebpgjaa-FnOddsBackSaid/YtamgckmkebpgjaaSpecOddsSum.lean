/- The model's OddsSum. -/
import Derived.Test.YtamgckmkebpgjaaL9Odds
import Derived.Test.YtamgckmkebpgjaaL9Sum
namespace Go.Proofs.Ytamgckmkebpgjaa
set_option linter.unusedVariables false
set_option linter.unusedSimpArgs false
open Go.RowKit

set_option maxHeartbeats 800000 in
theorem specOddsSum_any (m c : Nat) (a : Option Addr) (X : Nat → Int) (w : World) (hm0 : m ≤ 1048576) (hb0 : Rd w a m X) :
    Calls Try.prog 22 #[.slice a m c] w fun e w' => e = .returned (.tuple #[.int .i64 (sumTop m X), .int .i64 (sumBot m X), .bool (tt (IsOdds m X))]) ∧ Below w.heap.size w w' := by
  have H := Lib.hid (l9Odds_any m c a X w hm0 hb0)
  by_cases h : IsOdds m X
  · have T1 := Lib.hid (tt_of h)
    have HS := l9Sum_any m c a X w h.1.2 hb0 h.2
    have K1 := Lib.hid (sumTop_yes h)
    have K2 := Lib.hid (sumBot_yes h)
    rw [K1.out, K2.out, T1.out]
    obtain ⟨t, ht⟩ : ∃ t, t = topN (pieceS X m) := ⟨_, rfl⟩
    obtain ⟨b, hb⟩ : ∃ b, b = botN (pieceS X m) := ⟨_, rfl⟩
    rw [← ht, ← hb] at HS ⊢
    clear ht hb h K1 K2
    have HS := Lib.hid HS
    clear hb0
    go_enter Try.func22, Try.ntmps22
    go_wp2_with (first
      | (go_at_call 43; refine H.out.mono ?_; rintro e w' ⟨rfl, rfl⟩; rw [T1.out])
      | (go_at_call 48; refine HS.out.mono ?_; rintro e w' ⟨rfl, rfl⟩))
    go_ret3
    exact ⟨rfl, Below.refl _ _⟩
  · have T1 := Lib.hid (tt_no h)
    rw [sumTop_no h, sumBot_no h, T1.out]
    clear h
    clear hb0
    go_enter Try.func22, Try.ntmps22
    go_wp2_with (go_at_call 43; refine H.out.mono ?_; rintro e w' ⟨rfl, rfl⟩; rw [T1.out])
    go_ret3
    exact ⟨rfl, Below.refl _ _⟩
end Go.Proofs.Ytamgckmkebpgjaa
