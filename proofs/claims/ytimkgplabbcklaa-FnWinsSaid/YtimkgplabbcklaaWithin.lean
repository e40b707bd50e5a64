/- The program's within. -/
import Derived.Test.YtimkgplabbcklaaProg
import Derived.Test.YtimkgplabbcklaaMem
namespace Go.Proofs.Ytimkgplabbcklaa
set_option linter.unusedVariables false
open Go.RowKit

def AllR (m : Nat) (X : Nat → Int) (lo hi : Int) : Prop := ∀ k, k < m → InR (X k) lo hi

set_option maxHeartbeats 800000 in
theorem within_any (m c : Nat) (a : Option Addr) (X : Nat → Int) (lo hi : Int) (w : World) (hm : m ≤ 1048576) (ha : Rd w a m X) :
    Calls Try.prog 52 #[.slice a m c, .int .i64 lo, .int .i64 hi] w fun e w' => e = .returned (.bool (tt (AllR m X lo hi))) ∧ w = w' := by
  go_enter Try.func52, Try.ntmps52
  go_wp2
  go_loop [6, 8, 11] (fun r _ i => ∃ k : Nat, k ≤ m ∧ i = .int .i64 k ∧ r = .bool false ∧ AllR k X lo hi) (fun _ _ i => m - (intOf i).toNat)
  case atStart => exact ⟨0, Nat.zero_le _, rfl, rfl, fun j hj => absurd hj (Nat.not_lt_zero _)⟩
  case round =>
    obtain ⟨k, hk, rfl, rfl, hall⟩ := hrel
    have H1 := Lib.hid hall
    clear hall
    by_cases hlt : k < m
    · obtain ⟨ba, oa, rfl, hca⟩ := ha k hlt
      clear ha
      by_cases h0 : X k < lo
      · have hno := Lib.hid (show ¬ AllR m X lo hi from fun h => by have := (h k hlt).1; omega)
        have hd : decide (X k < lo) = true := by simpa using h0
        go_wp2
        go_ret
        exact ⟨by rw [tt_no hno.out]; rfl, rfl⟩
      · by_cases h1 : hi < X k
        · have hno := Lib.hid (show ¬ AllR m X lo hi from fun h => by have := (h k hlt).2; omega)
          have hd : decide (hi < X k) = true := by simpa using h1
          go_wp2
          go_ret
          exact ⟨by rw [tt_no hno.out]; rfl, rfl⟩
        · have HI := Lib.hid (show InR (X k) lo hi from ⟨by omega, by omega⟩)
          go_wp2
          go_round
          case rel =>
            exact ⟨k + 1, by omega, by go_num, rfl, fun j hj => by
              by_cases e : j = k
              · subst e; exact HI.out
              · exact H1.out j (by omega)⟩
          case measure => simp [intOf]; omega
    · obtain rfl : k = m := by omega
      clear ha
      go_wp2
      go_ret
      exact ⟨by rw [tt_of H1.out]; rfl, rfl⟩
end Go.Proofs.Ytimkgplabbcklaa
