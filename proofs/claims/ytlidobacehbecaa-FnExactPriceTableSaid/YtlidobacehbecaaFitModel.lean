/- Prices fit just if the table of them is there and is the one given. -/
import Derived.Test.YtlidobacehbecaaFit
namespace Go.Proofs.Ytlidobacehbecaa
set_option linter.unusedVariables false
open Go.RowKit

theorem quo_iff {z x y : Int} (hy : 1 ≤ y) : z * y = 12 * x ↔ 12 * x % y = 0 ∧ 12 * x / y = z := by
  constructor
  · intro h
    rw [← h]
    exact ⟨Int.mul_emod_left _ _, Int.mul_ediv_cancel _ (by omega)⟩
  · rintro ⟨h1, h2⟩
    rw [← h2]
    exact Int.ediv_mul_cancel (Int.dvd_of_emod_eq_zero h1)

theorem fitF_iff {n : Nat} {L : Nat → Nat} {Z : Nat → Nat → Int} {W : Nat → Int} (hr : IsRates n L Z) (hp : IsPrices n W) :
    FitF n (rateF n L Z) W ↔ ∀ i, i < n → ∀ k, k < n → Z i k * W k = 12 * W i := by
  have h5 := hr.1.2
  constructor
  · rintro ⟨h1, h2⟩ i hi k hk
    have h3 := h2 i (by omega) k (by omega)
    rw [tabQ_yes (tt_of h1)] at h3
    have e1 : (i * 5 + k) / 5 = i := by omega
    have e2 : (i * 5 + k) % 5 = k := by omega
    unfold partQ at h3
    rw [e1, e2, if_pos (by omega)] at h3
    have h4 : rateF n L Z (i * 5 + k) = Z i k := atF_rate hr hi hk
    rw [h4] at h3
    exact (quo_iff (hp.2 k hk).1).2 ⟨h1 i hi k hk, h3⟩
  · intro h
    have h1 : Divs n W := fun i hi k hk => ((quo_iff (hp.2 k hk).1).1 (h i hi k hk)).1
    refine ⟨h1, fun i hi k hk => ?_⟩
    rw [tabQ_yes (tt_of h1)]
    have e1 : (i * 5 + k) / 5 = i := by omega
    have e2 : (i * 5 + k) % 5 = k := by omega
    rw [← rateF_yes hr]
    unfold partQ
    rw [e1, e2]
    by_cases hin : i < n ∧ k < n
    · rw [if_pos (by omega), if_pos hin]
      exact ((quo_iff (hp.2 k hin.2).1).1 (h i hin.1 k hin.2)).2
    · rw [if_neg (by omega), if_neg hin]

theorem priceFits_eq {n : Nat} {L : Nat → Nat} {Z : Nat → Nat → Int} {W : Nat → Int} (h : BothOk n L Z n W) : tt (FitsOk n L Z n W) = tt (FitF n (rateF n L Z) W) :=
  tt_congr ⟨fun h' => (fitF_iff h.1.1 h.1.2).2 h'.2, fun h' => ⟨h, (fitF_iff h.1.1 h.1.2).1 h'⟩⟩
end Go.Proofs.Ytlidobacehbecaa
