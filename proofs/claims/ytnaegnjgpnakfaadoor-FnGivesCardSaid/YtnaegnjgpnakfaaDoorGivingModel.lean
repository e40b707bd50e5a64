/- What a giving for so many is. -/
import Derived.Test.YtnaegnjgpnakfaaDoorPeopleP
namespace Go.Proofs.YtnaegnjgpnakfaaDoor
set_option linter.unusedVariables false
open Go.RowKit

/-- Is it a giving for so many? -/
def GivingOk (x : Int) (m : Nat) (X : Nat → Int) : Prop := People x ∧ ((m : Int) = x ∧ IsDiff m m X)
end Go.Proofs.YtnaegnjgpnakfaaDoor
