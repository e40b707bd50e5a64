/- Powers of 12 and values along lists of moneys, in plain mathematics. -/
import Derived.Test.YtlidobacehbecaaDiff
import Derived.Test.YtlidobacehbecaaRates
namespace Go.Proofs.Ytlidobacehbecaa
set_option linter.unusedVariables false

def p12 : Nat → Int
  | 0 => 1
  | k + 1 => p12 k * 12

theorem p12_le (k : Nat) (h : k ≤ 10) : 1 ≤ p12 k ∧ p12 k ≤ 61917364224 := by
  have : k = 0 ∨ k = 1 ∨ k = 2 ∨ k = 3 ∨ k = 4 ∨ k = 5 ∨ k = 6 ∨ k = 7 ∨ k = 8 ∨ k = 9 ∨ k = 10 := by omega
  rcases this with rfl | rfl | rfl | rfl | rfl | rfl | rfl | rfl | rfl | rfl | rfl <;> decide

/-- The value behind k changes along a list, begun with v. -/
def valF (Z : Nat → Nat → Int) (W : Nat → Int) (v : Int) : Nat → Int
  | 0 => v
  | k + 1 => valF Z W v k * Z (W k).toNat (W (k + 1)).toNat

theorem valF_le {Z : Nat → Nat → Int} {W : Nat → Int} {v : Int} (k : Nat) (hk : k ≤ 5) (hv : 0 ≤ v ∧ v ≤ 2985984) (h : ∀ j, j < k → 0 ≤ Z (W j).toNat (W (j + 1)).toNat ∧ Z (W j).toNat (W (j + 1)).toNat ≤ 144) :
    0 ≤ valF Z W v k ∧ valF Z W v k ≤ 2985984 * 144 ^ k := by
  induction k with
  | zero => exact ⟨hv.1, by simpa [valF] using hv.2⟩
  | succ k ih =>
    obtain ⟨h1, h2⟩ := ih (by omega) (fun j hj => h j (by omega))
    obtain ⟨h3, h4⟩ := h k (by omega)
    refine ⟨Int.mul_nonneg h1 h3, ?_⟩
    show valF Z W v k * Z (W k).toNat (W (k + 1)).toNat ≤ _
    calc valF Z W v k * Z (W k).toNat (W (k + 1)).toNat ≤ (2985984 * 144 ^ k) * 144 := Int.mul_le_mul h2 h4 h3 (Int.mul_nonneg (by decide) (Int.pow_nonneg (by decide)))
      _ = 2985984 * 144 ^ (k + 1) := by rw [Int.mul_assoc, Int.pow_succ]

theorem pow144_le (k : Nat) (h : k ≤ 5) : (144 : Int) ^ k ≤ 61917364224 := by
  have : k = 0 ∨ k = 1 ∨ k = 2 ∨ k = 3 ∨ k = 4 ∨ k = 5 := by omega
  rcases this with rfl | rfl | rfl | rfl | rfl | rfl <;> decide

theorem valF_bound {Z : Nat → Nat → Int} {W : Nat → Int} {v : Int} (k : Nat) (hk : k ≤ 5) (hv : 0 ≤ v ∧ v ≤ 2985984) (h : ∀ j, j < k → 0 ≤ Z (W j).toNat (W (j + 1)).toNat ∧ Z (W j).toNat (W (j + 1)).toNat ≤ 144) :
    0 ≤ valF Z W v k ∧ valF Z W v k ≤ 1000000000000000000 := by
  obtain ⟨h1, h2⟩ := valF_le k hk hv h
  have := pow144_le k hk
  exact ⟨h1, by omega⟩
theorem p12_small (k : Nat) (h : k ≤ 6) : 0 ≤ p12 k ∧ p12 k ≤ 2985984 := by
  have : k = 0 ∨ k = 1 ∨ k = 2 ∨ k = 3 ∨ k = 4 ∨ k = 5 ∨ k = 6 := by omega
  rcases this with rfl | rfl | rfl | rfl | rfl | rfl | rfl <;> decide
theorem valF_congr {Z Y : Nat → Nat → Int} {W : Nat → Int} {v : Int} (k : Nat) (h : ∀ j, j < k → Z (W j).toNat (W (j + 1)).toNat = Y (W j).toNat (W (j + 1)).toNat) : valF Z W v k = valF Y W v k := by
  induction k with
  | zero => rfl
  | succ k ih =>
    show valF Z W v k * _ = valF Y W v k * _
    rw [ih (fun j hj => h j (by omega)), h k (by omega)]
end Go.Proofs.Ytlidobacehbecaa
