/- What a table of rates is, in plain mathematics. -/
import Derived.Test.YtlidobacehbecaaMem
namespace Go.Proofs.Ytlidobacehbecaa
set_option linter.unusedVariables false

def IsRates (n : Nat) (L : Nat → Nat) (Z : Nat → Nat → Int) : Prop :=
  (2 ≤ n ∧ n ≤ 5) ∧ ∀ i, i < n → L i = n ∧ ∀ k, k < n → (1 ≤ Z i k ∧ Z i k ≤ 144) ∧ (i = k → Z i k = 12)

end Go.Proofs.Ytlidobacehbecaa
