/- Rows and tables that are the same: the words. -/
import Derived.Test.YtnaegnjgpnakfaaDoorMem
namespace Go.Proofs.YtnaegnjgpnakfaaDoor
set_option linter.unusedVariables false

section
open Go.RowKit
def SameB (n m : Nat) (X Y : Nat → Int) : Prop := n = m ∧ ∀ k, k < n → X k = Y k
def SameT (n m : Nat) (L K : Nat → Nat) (X Y : Nat → Nat → Int) : Prop := n = m ∧ ∀ r, r < n → SameB (L r) (K r) (X r) (Y r)
end

end Go.Proofs.YtnaegnjgpnakfaaDoor
