/- The library's slices.Max at integers. -/
import Derived.Test.YtimkgplabbcklaaInfoInts
import Derived.Test.YtimkgplabbcklaaMem
import Derived.Lib.MinMax
namespace Go.Proofs.Ytimkgplabbcklaa
set_option linter.unusedVariables false
open Go.RowKit

/-- The greatest number of a list, up to the place k. -/
def maxF (X : Nat → Int) : Nat → Int
  | 0 => X 0
  | k + 1 => max (maxF X k) (X (k + 1))
theorem maxF_ge (X : Nat → Int) (k : Nat) : ∀ i, i ≤ k → X i ≤ maxF X k := by
  induction k with
  | zero => intro i hi; obtain rfl : i = 0 := by omega
            exact Int.le_refl _
  | succ k ih =>
    intro i hi
    show X i ≤ max (maxF X k) (X (k + 1))
    by_cases e : i = k + 1
    · subst e; exact Int.le_max_right _ _
    · have := ih i (by omega); omega
theorem maxF_is (X : Nat → Int) (k : Nat) : ∃ i, i ≤ k ∧ maxF X k = X i := by
  induction k with
  | zero => exact ⟨0, Nat.le_refl _, rfl⟩
  | succ k ih =>
    obtain ⟨i, hi, e⟩ := ih
    by_cases h : maxF X k ≤ X (k + 1)
    · exact ⟨k + 1, Nat.le_refl _, by show max (maxF X k) (X (k + 1)) = _; omega⟩
    · exact ⟨i, by omega, by show max (maxF X k) (X (k + 1)) = _; omega⟩

set_option maxHeartbeats 400000 in
theorem max_any (m c : Nat) (a : Option Addr) (X : Nat → Int) (w : World) (hm1 : 1 ≤ m) (hm : m ≤ 1048576) (ha : Rd w a m X) :
    Calls Try.prog 49 #[.slice a m c] w fun e w' => e = .returned (.int .i64 (maxF X (m - 1))) ∧ w = w' := by
  obtain ⟨ba, oa, rfl, hlt, hc0⟩ := ha.lt (show 0 < m by omega)
  rw [Nat.add_zero] at hc0
  have hi1 : 0 < m := by omega
  have hd : decide ((m : Int) < 1) = false := by simp; omega
  have HA := Lib.hid ha
  clear ha hlt
  go_enter Try.func49, Try.ntmps49
  go_wp2
  go_loop [3, 4] (fun s i => ∃ k : Nat, k + 1 ≤ m ∧ i = .int .i64 ((k : Int) + 1) ∧ s = .int .i64 (maxF X k)) (fun _ i => m - (intOf i).toNat)
  case atStart => exact ⟨0, by omega, rfl, rfl⟩
  case round =>
    obtain ⟨k, hk, rfl, rfl⟩ := hrel
    clear hc0
    by_cases hklt : k + 1 < m
    · obtain ⟨bb, ob, he, hc1⟩ := HA.out (k + 1) hklt
      obtain ⟨rfl, rfl⟩ : bb = ba ∧ ob = oa := by simpa using he.symm
      have hd1 : decide ((k : Int) + 1 < m) = true := by simp; omega
      have hi2 : (0 : Int) ≤ (k : Int) + 1 := by omega
      have hi3 : (k : Int) + 1 < m := by omega
      have hi4 : ((k : Int) + 1).toNat = k + 1 := by omega
      clear he
      go_wp2
      go_round
      case rel => exact ⟨k + 1, by omega, by go_num, rfl⟩
      case measure => simp [intOf]; omega
    · have hd1 : decide ((k : Int) + 1 < m) = false := by simp; omega
      obtain rfl : k + 1 = m := by omega
      go_wp2
      go_ret
      exact ⟨ret_int rfl, rfl⟩
end Go.Proofs.Ytimkgplabbcklaa
