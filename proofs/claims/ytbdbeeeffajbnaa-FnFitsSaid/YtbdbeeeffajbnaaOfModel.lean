/- Numbers divided by their greatest common divisor, in plain mathematics. -/
/- Prices of fair tables, in plain mathematics. -/
import Derived.Test.YtbdbeeeffajbnaaMem
import Derived.Test.YtbdbeeeffajbnaaFit
import Derived.Test.YtbdbeeeffajbnaaFairModel
namespace Go.Proofs.Ytbdbeeeffajbnaa
set_option linter.unusedVariables false

section
open Go.RowKit
/-- The greatest common divisor of the first k numbers. -/
def gcdT (X : Nat → Int) : Nat → Nat
  | 0 => 0
  | k + 1 => Nat.gcd (gcdT X k) (X k).toNat
/-- The numbers divided by it. -/
def leastF (X : Nat → Int) (n k : Nat) : Int := X k / (gcdT X n : Int)

theorem gcdT_le {X : Nat → Int} {M : Nat} (k : Nat) (h : ∀ j, j < k → 1 ≤ X j ∧ X j ≤ M) : gcdT X k ≤ M := by
  cases k with
  | zero => exact Nat.zero_le _
  | succ k =>
    have h1 := h k (by omega)
    have h2 := Nat.gcd_le_right (gcdT X k) (show 0 < (X k).toNat by omega)
    show Nat.gcd (gcdT X k) (X k).toNat ≤ M
    omega
theorem gcdT_pos {X : Nat → Int} {k : Nat} (hk : 1 ≤ k) (h : ∀ j, j < k → 1 ≤ X j) : 0 < gcdT X k := by
  cases k with
  | zero => omega
  | succ k =>
    have h1 := h k (by omega)
    exact Nat.gcd_pos_of_pos_right _ (by omega)
theorem gcdT_dvd {X : Nat → Int} {k j : Nat} (hj : j < k) : gcdT X k ∣ (X j).toNat := by
  induction k with
  | zero => omega
  | succ k ih =>
    by_cases e : j = k
    · subst e; exact Nat.gcd_dvd_right _ _
    · exact Nat.dvd_trans (Nat.gcd_dvd_left _ _) (ih (by omega))
theorem gcdT_congr {X Y : Nat → Int} (k : Nat) (h : ∀ j, j < k → X j = Y j) : gcdT X k = gcdT Y k := by
  induction k with
  | zero => rfl
  | succ k ih =>
    show Nat.gcd (gcdT X k) (X k).toNat = Nat.gcd (gcdT Y k) (Y k).toNat
    rw [ih (fun j hj => h j (by omega)), h k (by omega)]
theorem leastF_mul {X : Nat → Int} {n k : Nat} (hk : k < n) (h : 1 ≤ X k) : leastF X n k * (gcdT X n : Int) = X k := by
  have h1 : ((gcdT X n : Nat) : Int) ∣ X k := by
    have h2 := Int.natCast_dvd_natCast.2 (gcdT_dvd (X := X) hk)
    rwa [Int.toNat_of_nonneg (by omega)] at h2
  exact Int.ediv_mul_cancel h1
theorem leastF_range {X : Nat → Int} {n k : Nat} {M : Int} (hk : k < n) (h : ∀ j, j < n → 1 ≤ X j ∧ X j ≤ M) : 1 ≤ leastF X n k ∧ leastF X n k ≤ M := by
  have h0 := h k hk
  have h1 := leastF_mul hk h0.1
  have h2 := gcdT_pos (k := n) (by omega) (fun j hj => (h j hj).1)
  generalize leastF X n k = x at h1 ⊢
  have hx : 1 ≤ x := by
    rcases Int.lt_or_le x 1 with h' | h'
    · have : x * (gcdT X n : Int) ≤ 0 := Int.mul_nonpos_of_nonpos_of_nonneg (by omega) (by omega)
      omega
    · exact h'
  have h3 : x * 1 ≤ x * (gcdT X n : Int) := Int.mul_le_mul_of_nonneg_left (by omega) (by omega)
  exact ⟨hx, by omega⟩
theorem gcd_turn (a b : Nat) : Nat.gcd b (a % b) = Nat.gcd a b := by
  rw [Nat.gcd_comm a b, Nat.gcd_rec b a, Nat.gcd_comm]
end

section
open Go.RowKit
/-- What each money gives of the money 0. -/
def colF (Z : Nat → Nat → Int) (i : Nat) : Int := Z i 0
noncomputable def ofN (n : Nat) (L : Nat → Nat) (Z : Nat → Nat → Int) : Nat := if tt (FairOk n L Z) = true then n else 0
section
variable {n : Nat} {L : Nat → Nat} {Z : Nat → Nat → Int}
theorem ofN_yes (h : FairOk n L Z) : ofN n L Z = n := by unfold ofN; rw [tt_of h]; rfl
theorem ofN_no (h : ¬ FairOk n L Z) : ofN n L Z = 0 := by unfold ofN; rw [tt_no h]; rfl
theorem of_small (n : Nat) (L : Nat → Nat) (Z : Nat → Nat → Int) : ofN n L Z ≤ 1048576 := by
  by_cases h : FairOk n L Z
  · rw [ofN_yes h]; have := h.1.1.2; omega
  · rw [ofN_no h]; omega
theorem col_range (hr : IsRates n L Z) (k : Nat) (hk : k < n) : 1 ≤ colF Z k ∧ colF Z k ≤ 144 := ((hr.2 k hk).2 0 (by have := hr.1.1; omega)).1
theorem col_prices (hr : IsRates n L Z) : IsPrices n (leastF (colF Z) n) := by
  refine ⟨hr.1, fun k hk => ?_⟩
  have := leastF_range (M := 144) hk (fun j hj => col_range hr j hj)
  omega

theorem fit_col (hr : IsRates n L Z) : FitF n (rateF n L Z) (leastF (colF Z) n) ↔ FairMid n Z := by
  rw [fitF_iff hr (col_prices hr)]
  have h2 := hr.1.1
  have one : ∀ i, i < n → Z i i = 12 := fun i hi => ((hr.2 i hi).2 i hi).2 rfl
  have hg : ((gcdT (colF Z) n : Nat) : Int) ≠ 0 := by
    have := gcdT_pos (X := colF Z) (k := n) (by omega) (fun j hj => (col_range hr j hj).1)
    omega
  have hm : ∀ k, k < n → leastF (colF Z) n k * (gcdT (colF Z) n : Int) = Z k 0 := fun k hk => leastF_mul hk (col_range hr k hk).1
  have e : ∀ i, i < n → ∀ k, k < n → (Z i k * leastF (colF Z) n k = 12 * leastF (colF Z) n i ↔ Z i k * Z k 0 = 12 * Z i 0) := by
    intro i hi k hk
    rw [← hm k hk, ← hm i hi, ← Int.mul_assoc, ← Int.mul_assoc]
    exact ⟨fun h => by rw [h], fun h => Int.eq_of_mul_eq_mul_right hg h⟩
  constructor
  · intro h i hi k hk
    have h1 := (e i hi k hk).1 (h i hi k hk)
    have h3 := (e 0 (by omega) k hk).1 (h 0 (by omega) k hk)
    rw [one 0 (by omega)] at h3
    have h4 : 12 * (Z i 0 * Z 0 k) = 12 * (12 * Z i k) := by
      calc 12 * (Z i 0 * Z 0 k) = (12 * Z i 0) * Z 0 k := by ac_rfl
        _ = Z i k * Z k 0 * Z 0 k := by rw [h1]
        _ = Z i k * (Z 0 k * Z k 0) := by ac_rfl
        _ = 12 * (12 * Z i k) := by rw [h3]; omega
    omega
  · intro h i hi k hk
    refine (e i hi k hk).2 ?_
    have h1 := h i hi k hk
    have h3 := mid_back hr h hk
    have h4 : 12 * (Z i k * Z k 0) = 12 * (12 * Z i 0) := by
      calc 12 * (Z i k * Z k 0) = (12 * Z i k) * Z k 0 := by ac_rfl
        _ = Z i 0 * Z 0 k * Z k 0 := by rw [h1]
        _ = Z i 0 * (Z 0 k * Z k 0) := by ac_rfl
        _ = 12 * (12 * Z i 0) := by rw [h3]; omega
    omega
end
end

end Go.Proofs.Ytbdbeeeffajbnaa
