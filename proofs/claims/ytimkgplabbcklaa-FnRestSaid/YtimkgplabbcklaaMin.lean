/- The library's slices.Min at integers. -/
import Derived.Test.YtimkgplabbcklaaInfoInts
import Derived.Test.YtimkgplabbcklaaMem
import Derived.Lib.MinMax
namespace Go.Proofs.Ytimkgplabbcklaa
set_option linter.unusedVariables false
open Go.RowKit

theorem minF_is (X : Nat → Int) (k : Nat) : ∃ i, i ≤ k ∧ minF X k = X i := by
  induction k with
  | zero => exact ⟨0, Nat.le_refl _, rfl⟩
  | succ k ih =>
    obtain ⟨i, hi, e⟩ := ih
    by_cases h : X (k + 1) ≤ minF X k
    · exact ⟨k + 1, Nat.le_refl _, by show min (minF X k) (X (k + 1)) = _; omega⟩
    · exact ⟨i, by omega, by show min (minF X k) (X (k + 1)) = _; omega⟩

set_option maxHeartbeats 400000 in
theorem min_any (m c : Nat) (a : Option Addr) (X : Nat → Int) (w : World) (hm1 : 1 ≤ m) (hm : m ≤ 1048576) (ha : Rd w a m X) :
    Calls Try.prog 48 #[.slice a m c] w fun e w' => e = .returned (.int .i64 (minF X (m - 1))) ∧ w = w' := by
  obtain ⟨ba, oa, rfl, hlt, hc0⟩ := ha.lt (show 0 < m by omega)
  rw [Nat.add_zero] at hc0
  have hi1 : 0 < m := by omega
  have hd : decide ((m : Int) < 1) = false := by simp; omega
  have HA := Lib.hid ha
  clear ha hlt
  go_enter Try.func48, Try.ntmps48
  go_wp2
  go_loop [3, 4] (fun s i => ∃ k : Nat, k + 1 ≤ m ∧ i = .int .i64 ((k : Int) + 1) ∧ s = .int .i64 (minF X k)) (fun _ i => m - (intOf i).toNat)
  case atStart => exact ⟨0, by omega, rfl, rfl⟩
  case round =>
    obtain ⟨k, hk, rfl, rfl⟩ := hrel
    clear hc0
    by_cases hklt : k + 1 < m
    · obtain ⟨bb, ob, he, hc1⟩ := HA.out (k + 1) hklt
      obtain ⟨rfl, rfl⟩ : bb = ba ∧ ob = oa := by simpa using he.symm
      have hd1 : decide ((k : Int) + 1 < m) = true := by simp; omega
      have hi2 : (0 : Int) ≤ (k : Int) + 1 := by omega
      have hi3 : (k : Int) + 1 < m := by omega
      have hi4 : ((k : Int) + 1).toNat = k + 1 := by omega
      clear he
      go_wp2
      go_round
      case rel => exact ⟨k + 1, by omega, by go_num, rfl⟩
      case measure => simp [intOf]; omega
    · have hd1 : decide ((k : Int) + 1 < m) = false := by simp; omega
      obtain rfl : k + 1 = m := by omega
      go_wp2
      go_ret
      exact ⟨ret_int rfl, rfl⟩
end Go.Proofs.Ytimkgplabbcklaa
