/- What RateTurn answers, in plain mathematics. -/
import Derived.Test.YtakipaehoeapcaaMem
namespace Go.Proofs.Ytakipaehoeapcaa
set_option linter.unusedVariables false

noncomputable def turnN (n : Nat) (L : Nat → Nat) (Z : Nat → Nat → Int) : Nat := if tt (IsRates n L Z) = true then n else 0
theorem turnN_yes {n : Nat} {L : Nat → Nat} {Z : Nat → Nat → Int} (h : IsRates n L Z) : turnN n L Z = n := by unfold turnN; rw [tt_of h]; rfl
theorem turnN_no {n : Nat} {L : Nat → Nat} {Z : Nat → Nat → Int} (h : ¬ IsRates n L Z) : turnN n L Z = 0 := by unfold turnN; rw [tt_no h]; rfl
theorem tot_same (m : Nat) (k : Nat) : tot (fun _ => m) k = k * m := by
  induction k with
  | zero => simp [tot]
  | succ k ih => simp only [tot]; rw [ih, Nat.succ_mul]
theorem turn_small (n : Nat) (L : Nat → Nat) (Z : Nat → Nat → Int) : turnN n L Z ≤ 1048576 ∧ tot (fun _ => n) (turnN n L Z) ≤ 1048576 := by
  by_cases h : IsRates n L Z
  · rw [turnN_yes h, tot_same]
    have := h.1.2
    have h2 : n * n ≤ 5 * 5 := Nat.mul_le_mul this this
    omega
  · rw [turnN_no h]; simp [tot]
def turnX (Z : Nat → Nat → Int) (i k : Nat) : Int := Z k i
end Go.Proofs.Ytakipaehoeapcaa
