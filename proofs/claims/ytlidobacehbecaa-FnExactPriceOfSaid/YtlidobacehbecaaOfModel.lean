/- Prices of fair tables, in plain mathematics. -/
import Derived.Test.YtlidobacehbecaaFit
import Derived.Test.YtlidobacehbecaaFairModel
import Derived.Test.YtlidobacehbecaaLeastModel
namespace Go.Proofs.Ytlidobacehbecaa
set_option linter.unusedVariables false
open Go.RowKit

/-- What each money gives of the money 0. -/
def colF (Z : Nat → Nat → Int) (i : Nat) : Int := Z i 0
noncomputable def ofN (n : Nat) (L : Nat → Nat) (Z : Nat → Nat → Int) : Nat := if tt (FairOk n L Z) = true then n else 0
section
variable {n : Nat} {L : Nat → Nat} {Z : Nat → Nat → Int}
theorem ofN_yes (h : FairOk n L Z) : ofN n L Z = n := by unfold ofN; rw [tt_of h]; rfl
theorem ofN_no (h : ¬ FairOk n L Z) : ofN n L Z = 0 := by unfold ofN; rw [tt_no h]; rfl
theorem of_small (n : Nat) (L : Nat → Nat) (Z : Nat → Nat → Int) : ofN n L Z ≤ 1048576 := by
  by_cases h : FairOk n L Z
  · rw [ofN_yes h]; have := h.1.1.2; omega
  · rw [ofN_no h]; omega
theorem col_range (hr : IsRates n L Z) (k : Nat) (hk : k < n) : 1 ≤ colF Z k ∧ colF Z k ≤ 144 := ((hr.2 k hk).2 0 (by have := hr.1.1; omega)).1
theorem col_prices (hr : IsRates n L Z) : IsPrices n (leastF (colF Z) n) := by
  refine ⟨hr.1, fun k hk => ?_⟩
  have := leastF_range (M := 144) hk (fun j hj => col_range hr j hj)
  omega

theorem fit_col (hr : IsRates n L Z) : FitF n (rateF n L Z) (leastF (colF Z) n) ↔ FairMid n Z := by
  rw [fitF_iff hr (col_prices hr)]
  have h2 := hr.1.1
  have one : ∀ i, i < n → Z i i = 12 := fun i hi => ((hr.2 i hi).2 i hi).2 rfl
  have hg : ((gcdT (colF Z) n : Nat) : Int) ≠ 0 := by
    have := gcdT_pos (X := colF Z) (k := n) (by omega) (fun j hj => (col_range hr j hj).1)
    omega
  have hm : ∀ k, k < n → leastF (colF Z) n k * (gcdT (colF Z) n : Int) = Z k 0 := fun k hk => leastF_mul hk (col_range hr k hk).1
  have e : ∀ i, i < n → ∀ k, k < n → (Z i k * leastF (colF Z) n k = 12 * leastF (colF Z) n i ↔ Z i k * Z k 0 = 12 * Z i 0) := by
    intro i hi k hk
    rw [← hm k hk, ← hm i hi, ← Int.mul_assoc, ← Int.mul_assoc]
    exact ⟨fun h => by rw [h], fun h => Int.eq_of_mul_eq_mul_right hg h⟩
  constructor
  · intro h i hi k hk
    have h1 := (e i hi k hk).1 (h i hi k hk)
    have h3 := (e 0 (by omega) k hk).1 (h 0 (by omega) k hk)
    rw [one 0 (by omega)] at h3
    have h4 : 12 * (Z i 0 * Z 0 k) = 12 * (12 * Z i k) := by
      calc 12 * (Z i 0 * Z 0 k) = (12 * Z i 0) * Z 0 k := by ac_rfl
        _ = Z i k * Z k 0 * Z 0 k := by rw [h1]
        _ = Z i k * (Z 0 k * Z k 0) := by ac_rfl
        _ = 12 * (12 * Z i k) := by rw [h3]; omega
    omega
  · intro h i hi k hk
    refine (e i hi k hk).2 ?_
    have h1 := h i hi k hk
    have h3 := mid_back hr h hk
    have h4 : 12 * (Z i k * Z k 0) = 12 * (12 * Z i 0) := by
      calc 12 * (Z i k * Z k 0) = (12 * Z i k) * Z k 0 := by ac_rfl
        _ = Z i 0 * Z 0 k * Z k 0 := by rw [h1]
        _ = Z i 0 * (Z 0 k * Z k 0) := by ac_rfl
        _ = 12 * (12 * Z i 0) := by rw [h3]; omega
    omega
end
end Go.Proofs.Ytlidobacehbecaa
