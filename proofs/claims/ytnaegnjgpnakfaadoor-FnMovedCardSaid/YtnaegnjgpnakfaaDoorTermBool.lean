/- Is a text a term for so many people? -/
import Derived.Test.YtnaegnjgpnakfaaDoorSpecOf
import Derived.Test.YtnaegnjgpnakfaaDoorTermReadP
namespace Go.Proofs.YtnaegnjgpnakfaaDoor
set_option linter.unusedVariables false

/-- Is a text a term for so many? -/
noncomputable def termB (n : Int) (s : ByteArray) : Bool := (termN n s).isSome
end Go.Proofs.YtnaegnjgpnakfaaDoor
