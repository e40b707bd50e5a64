/- The program's readOdds. -/
import Derived.Test.YtimkgplabbcklaaOddsModel
import Derived.Test.YtimkgplabbcklaaMin
import Derived.Test.YtimkgplabbcklaaMax
namespace Go.Proofs.Ytimkgplabbcklaa
set_option linter.unusedVariables false
set_option linter.unusedSimpArgs false
open Go.RowKit

/-- What readOdds hands back. -/
def oddsV (b : Bool) (a : Option Addr) (n c : Nat) : Value := if b = true then .slice a n c else .slice none 0 0

set_option maxRecDepth 100000 in
set_option maxHeartbeats 1600000 in
theorem readOdds_any (m c : Nat) (a : Option Addr) (X : Nat → Int) (w : World) (hm0 : m ≤ 1048576) (hb0 : Rd w a m X) :
    Calls Try.prog 27 #[.slice a m c] w fun e w' => e = .returned (.tuple #[oddsV (tt (IsOdds m X)) a m c, .bool (tt (IsOdds m X))]) ∧ w = w' := by
  by_cases h2 : m < 2
  · rw [tt_no (show ¬ IsOdds m X from fun h => by have := h.1; omega)]
    have d1 : decide ((m : Int) < 2) = true := by simp; omega
    clear hb0
    go_enter Try.func27, Try.ntmps27
    go_wp2_with fail
    go_ret2
    exact ⟨rfl, rfl⟩
  · have d1 : decide ((m : Int) < 2) = false := by simp; omega
    by_cases h6 : 6 < m
    · rw [tt_no (show ¬ IsOdds m X from fun h => by have := h.1; omega)]
      have d2 : decide ((m : Int) > 6) = true := by simp; omega
      clear hb0
      go_enter Try.func27, Try.ntmps27
      go_wp2_with fail
      go_ret2
      exact ⟨rfl, rfl⟩
    · have d2 : decide ((m : Int) > 6) = false := by simp; omega
      have HMin := Lib.hid (min_any m c a X w (by omega) hm0 hb0)
      have HMax := Lib.hid (max_any m c a X w (by omega) hm0 hb0)
      have hle := minF_le X (m - 1)
      have hge := maxF_ge X (m - 1)
      obtain ⟨i1, hi1, e1⟩ := minF_is X (m - 1)
      obtain ⟨i2, hi2, e2⟩ := maxF_is X (m - 1)
      obtain ⟨y, hy⟩ : ∃ y, y = minF X (m - 1) := ⟨_, rfl⟩
      obtain ⟨z, hz⟩ : ∃ z, z = maxF X (m - 1) := ⟨_, rfl⟩
      rw [← hy] at hle HMin e1
      rw [← hz] at hge HMax e2
      have h2' : 2 ≤ m := by omega
      have h6' : m ≤ 6 := by omega
      clear hy hz h2 h6 hb0
      by_cases h3 : y < 1
      · rw [tt_no (show ¬ IsOdds m X from fun h => by have := (h.2 i1 (by omega)).1; omega)]
        have d3 : decide (y < 1) = true := by simpa using h3
        clear hle hge e1 e2 h3
        go_enter Try.func27, Try.ntmps27
        go_wp2_with (first
          | (go_at_call 48; refine HMin.out.mono ?_; rintro e w' ⟨rfl, rfl⟩)
          | (go_at_call 49; refine HMax.out.mono ?_; rintro e w' ⟨rfl, rfl⟩))
        go_ret2
        exact ⟨rfl, rfl⟩
      · have d3 : decide (y < 1) = false := by simpa using h3
        by_cases h4 : 20 < z
        · rw [tt_no (show ¬ IsOdds m X from fun h => by have := (h.2 i2 (by omega)).2; omega)]
          have d4 : decide (z > 20) = true := by simpa using h4
          clear hle hge e1 e2 h3 h4
          go_enter Try.func27, Try.ntmps27
          go_wp2_with (first
            | (go_at_call 48; refine HMin.out.mono ?_; rintro e w' ⟨rfl, rfl⟩)
            | (go_at_call 49; refine HMax.out.mono ?_; rintro e w' ⟨rfl, rfl⟩))
          go_ret2
          exact ⟨rfl, rfl⟩
        · rw [tt_of (show IsOdds m X from ⟨⟨h2', h6'⟩, fun j hj => ⟨by have := hle j (by omega); omega, by have := hge j (by omega); omega⟩⟩)]
          have d4 : decide (z > 20) = false := by simpa using h4
          clear hle hge e1 e2 h3 h4
          go_enter Try.func27, Try.ntmps27
          go_wp2_with (first
            | (go_at_call 48; refine HMin.out.mono ?_; rintro e w' ⟨rfl, rfl⟩)
            | (go_at_call 49; refine HMax.out.mono ?_; rintro e w' ⟨rfl, rfl⟩))
          go_ret2
          exact ⟨rfl, rfl⟩
end Go.Proofs.Ytimkgplabbcklaa
