/- The greatest common divisor of a list, and the list divided by it. -/
import Derived.Test.YtakipaehoeapcaaMem
namespace Go.Proofs.Ytakipaehoeapcaa
set_option linter.unusedVariables false

section
open Go.RowKit
/-- The greatest common divisor of the first k numbers. -/
def gcdT (X : Nat → Int) : Nat → Nat
  | 0 => 0
  | k + 1 => Nat.gcd (gcdT X k) (X k).toNat
/-- The numbers divided by it. -/
def leastF (X : Nat → Int) (n k : Nat) : Int := X k / (gcdT X n : Int)

theorem gcdT_le {X : Nat → Int} {M : Nat} (k : Nat) (h : ∀ j, j < k → 1 ≤ X j ∧ X j ≤ M) : gcdT X k ≤ M := by
  cases k with
  | zero => exact Nat.zero_le _
  | succ k =>
    have h1 := h k (by omega)
    have h2 := Nat.gcd_le_right (gcdT X k) (show 0 < (X k).toNat by omega)
    show Nat.gcd (gcdT X k) (X k).toNat ≤ M
    omega
theorem gcdT_pos {X : Nat → Int} {k : Nat} (hk : 1 ≤ k) (h : ∀ j, j < k → 1 ≤ X j) : 0 < gcdT X k := by
  cases k with
  | zero => omega
  | succ k =>
    have h1 := h k (by omega)
    exact Nat.gcd_pos_of_pos_right _ (by omega)
theorem gcdT_dvd {X : Nat → Int} {k j : Nat} (hj : j < k) : gcdT X k ∣ (X j).toNat := by
  induction k with
  | zero => omega
  | succ k ih =>
    by_cases e : j = k
    · subst e; exact Nat.gcd_dvd_right _ _
    · exact Nat.dvd_trans (Nat.gcd_dvd_left _ _) (ih (by omega))
theorem gcdT_congr {X Y : Nat → Int} (k : Nat) (h : ∀ j, j < k → X j = Y j) : gcdT X k = gcdT Y k := by
  induction k with
  | zero => rfl
  | succ k ih =>
    show Nat.gcd (gcdT X k) (X k).toNat = Nat.gcd (gcdT Y k) (Y k).toNat
    rw [ih (fun j hj => h j (by omega)), h k (by omega)]
theorem leastF_mul {X : Nat → Int} {n k : Nat} (hk : k < n) (h : 1 ≤ X k) : leastF X n k * (gcdT X n : Int) = X k := by
  have h1 : ((gcdT X n : Nat) : Int) ∣ X k := by
    have h2 := Int.natCast_dvd_natCast.2 (gcdT_dvd (X := X) hk)
    rwa [Int.toNat_of_nonneg (by omega)] at h2
  exact Int.ediv_mul_cancel h1
theorem leastF_range {X : Nat → Int} {n k : Nat} {M : Int} (hk : k < n) (h : ∀ j, j < n → 1 ≤ X j ∧ X j ≤ M) : 1 ≤ leastF X n k ∧ leastF X n k ≤ M := by
  have h0 := h k hk
  have h1 := leastF_mul hk h0.1
  have h2 := gcdT_pos (k := n) (by omega) (fun j hj => (h j hj).1)
  generalize leastF X n k = x at h1 ⊢
  have hx : 1 ≤ x := by
    rcases Int.lt_or_le x 1 with h' | h'
    · have : x * (gcdT X n : Int) ≤ 0 := Int.mul_nonpos_of_nonpos_of_nonneg (by omega) (by omega)
      omega
    · exact h'
  have h3 : x * 1 ≤ x * (gcdT X n : Int) := Int.mul_le_mul_of_nonneg_left (by omega) (by omega)
  exact ⟨hx, by omega⟩
theorem gcd_turn (a b : Nat) : Nat.gcd b (a % b) = Nat.gcd a b := by
  rw [Nat.gcd_comm a b, Nat.gcd_rec b a, Nat.gcd_comm]
end

end Go.Proofs.Ytakipaehoeapcaa
