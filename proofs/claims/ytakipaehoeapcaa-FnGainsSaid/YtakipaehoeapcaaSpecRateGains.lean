/- The model's RateGains and RateRounds. -/
import Derived.Test.YtakipaehoeapcaaSpecRateIn
import Derived.Test.YtakipaehoeapcaaL1Rounds
namespace Go.Proofs.Ytakipaehoeapcaa
set_option linter.unusedVariables false
open Go.RowKit

/-- How many rounds gain. -/
noncomputable def gainN (n : Nat) (L : Nat → Nat) (Z : Nat → Nat → Int) : Nat := if tt (IsRates n L Z) = true then (gaining n Z).length else 0
theorem gainN_yes {n : Nat} {L : Nat → Nat} {Z : Nat → Nat → Int} (h : IsRates n L Z) : gainN n L Z = (gaining n Z).length := by unfold gainN; rw [tt_of h]; rfl
theorem gainN_no {n : Nat} {L : Nat → Nat} {Z : Nat → Nat → Int} (h : ¬ IsRates n L Z) : gainN n L Z = 0 := by unfold gainN; rw [tt_no h]; rfl
theorem making_len {tS B i : Nat} {w : World} {v : Value} {G Cp L : Nat → Nat} {X : Nat → Nat → Int} (h : Making tS B w v i G Cp L X) : ∃ a c, v = .slice a i c := by
  obtain ⟨_, (⟨h1, h2⟩ | ⟨g, cap, _, h1, _⟩)⟩ := h.1
  · exact ⟨none, 0, by rw [h1, h2]⟩
  · exact ⟨_, _, h1⟩

set_option maxHeartbeats 800000 in
theorem specRateGains_any (n c : Nat) (a : Option Addr) (A : Nat → Option Addr) (L C : Nat → Nat) (Z : Nat → Nat → Int) (w : World) (hn0 : n ≤ 1048576) (hL0 : ∀ r, r < n → L r ≤ 1048576) (ha0 : Tab w a n A L C Z) :
    Calls Try.prog 17 #[.slice a n c] w fun e w' => e = .returned (.bool (tt (0 < gainN n L Z))) ∧ Below w.heap.size w w' := by
  have H1 := Lib.hid (specRateIn_any n c a A L C Z w hn0 hL0 ha0)
  by_cases hr : IsRates n L Z
  · have H2 := Lib.hid (l1Rounds_any n c a A L C Z w hr ha0)
    have T1 := Lib.hid (tt_of hr)
    have T2 := Lib.hid (gainN_yes hr)
    obtain ⟨N, hN⟩ : ∃ N, N = (gaining n Z).length := ⟨_, rfl⟩
    have QN := Lib.hid hN
    have HD := Lib.hid (show decide (0 < N) = tt (0 < N) by
      by_cases h : 0 < N
      · rw [tt_of h]; simpa using h
      · rw [tt_no h]; simpa using h)
    clear hL0 ha0 hr hN
    go_enter Try.func17, Try.ntmps17
    go_wp2_with (first
      | (go_at_call 48; refine H1.out.mono ?_; rintro e w' ⟨rfl, rfl⟩; rw [T1.out])
      | (go_at_call 49; refine H2.out.mono ?_; rintro e w1 ⟨v, G, Cp, rfl, hM, hb⟩; rw [← QN.out] at hM; obtain ⟨ga, gc, rfl⟩ := making_len hM; have B1 := Lib.hid hb; clear hM hb))
    go_ret
    exact ⟨by rw [T2.out, ← QN.out, ← HD.out]; rfl, B1.out⟩
  · have T1 := Lib.hid (tt_no hr)
    have T2 := Lib.hid (gainN_no hr)
    clear hL0 ha0 hr
    go_enter Try.func17, Try.ntmps17
    go_wp2_with (go_at_call 48; refine H1.out.mono ?_; rintro e w' ⟨rfl, rfl⟩; rw [T1.out])
    go_ret
    exact ⟨by rw [tt_no (show ¬ 0 < gainN n L Z by rw [T2.out]; omega)]; rfl, Below.refl _ _⟩
end Go.Proofs.Ytakipaehoeapcaa
