/- Rows and tables that are the same. -/
import Derived.Test.YtbdbeeeffajbnaaMem
namespace Go.Proofs.Ytbdbeeeffajbnaa
set_option linter.unusedVariables false

def SameB (n m : Nat) (X Y : Nat → Int) : Prop := n = m ∧ ∀ k, k < n → X k = Y k
def SameT (n m : Nat) (L K : Nat → Nat) (X Y : Nat → Nat → Int) : Prop := n = m ∧ ∀ r, r < n → SameB (L r) (K r) (X r) (Y r)
end Go.Proofs.Ytbdbeeeffajbnaa
