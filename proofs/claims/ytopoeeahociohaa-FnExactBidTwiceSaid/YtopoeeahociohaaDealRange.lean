/- A deal's total stays small. -/
import Derived.Test.YtopoeeahociohaaDealsWay
namespace Go.Proofs.Ytopoeeahociohaa
set_option linter.unusedVariables false
set_option linter.unusedSimpArgs false
open Go.RowKit

/-- The sum stays small. -/
theorem dealT_range {Z : Nat → Nat → Int} {D : Nat → Int} {M : Int} (hM : 0 ≤ M) : ∀ (q : Nat), (∀ i, i < q → D i ≠ -1 → 0 ≤ Z i (D i).toNat ∧ Z i (D i).toNat ≤ M) → 0 ≤ dealT Z D q ∧ dealT Z D q ≤ M * (q : Int)
  | 0, _ => ⟨Int.le_refl _, by show (0 : Int) ≤ _; simp⟩
  | q + 1, h => by
    obtain ⟨h1, h2⟩ := dealT_range hM q fun i hi => h i (by omega)
    show 0 ≤ dealT Z D q + _ ∧ dealT Z D q + _ ≤ M * ((q + 1 : Nat) : Int)
    have e : M * ((q + 1 : Nat) : Int) = M * (q : Int) + M := by rw [Int.natCast_add, Int.mul_add]; simp
    rw [e]
    by_cases hd : D q = -1
    · rw [if_pos hd]; omega
    · rw [if_neg hd]; have := h q (by omega) hd; omega

end Go.Proofs.Ytopoeeahociohaa
