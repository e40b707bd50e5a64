/- The model's l9Odds. -/
import Derived.Test.YtimkgplabbcklaaL6In
import Derived.Test.YtimkgplabbcklaaOddsModel
namespace Go.Proofs.Ytimkgplabbcklaa
set_option linter.unusedVariables false
set_option linter.unusedSimpArgs false
open Go.RowKit

set_option maxHeartbeats 800000 in
theorem l9Odds_any (m c : Nat) (a : Option Addr) (X : Nat → Int) (w : World) (hm0 : m ≤ 1048576) (hb0 : Rd w a m X) :
    Calls Try.prog 30 #[.slice a m c] w fun e w' => e = .returned (.bool (tt (IsOdds m X))) ∧ w = w' := by
  have ha := hb0
  clear hb0
  go_enter Try.func30, Try.ntmps30
  go_wp2
  go_loop [2, 3] (fun r i => ∃ k : Nat, k ≤ m ∧ i = .int .i64 k ∧ r = .bool false ∧ ∀ j, j < k → 1 ≤ X j ∧ X j ≤ 20) (fun _ i => m - (intOf i).toNat)
  case atStart => exact ⟨0, Nat.zero_le _, rfl, rfl, fun j hj => absurd hj (Nat.not_lt_zero _)⟩
  case round =>
    obtain ⟨k, hk, rfl, rfl, hall⟩ := hrel
    have H1 := Lib.hid hall
    clear hall
    by_cases hlt : k < m
    · obtain ⟨ba, oa, rfl, hca⟩ := ha k hlt
      clear ha
      by_cases hin : InR (X k) 1 20
      · have B1 := Lib.hid (tt_of hin)
        have HI := Lib.hid hin
        clear hin
        go_wp2_with (go_at_call 50; refine (l6In_any _ _ _ _).mono ?_; rintro e w' ⟨rfl, rfl⟩; rw [B1.out])
        go_round
        case rel =>
          exact ⟨k + 1, by omega, by go_num, rfl, fun j hj => by
            by_cases e : j = k
            · subst e; exact HI.out
            · exact H1.out j (by omega)⟩
        case measure => simp [intOf]; omega
      · have B1 := Lib.hid (tt_no hin)
        have hno := Lib.hid (show ¬ IsOdds m X from fun h => hin (h.2 k hlt))
        clear hin
        go_wp2_with (go_at_call 50; refine (l6In_any _ _ _ _).mono ?_; rintro e w' ⟨rfl, rfl⟩; rw [B1.out])
        go_ret
        exact ⟨by rw [tt_no hno.out]; rfl, rfl⟩
    · obtain rfl : k = m := by omega
      clear ha
      go_wp2_with fail
      refine (l6In_any _ _ _ _).mono ?_
      rintro e w' ⟨rfl, rfl⟩
      go_wp2
      go_ret
      exact ⟨ret_bool (tt_congr (by
        unfold IsOdds InR
        constructor
        · intro h; exact ⟨by omega, H1.out⟩
        · intro h; omega)), rfl⟩
end Go.Proofs.Ytimkgplabbcklaa
