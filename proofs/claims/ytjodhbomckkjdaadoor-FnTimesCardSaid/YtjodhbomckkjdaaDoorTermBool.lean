/- Is a text a term for so many people? -/
import Derived.Test.YtjodhbomckkjdaaDoorSpecOf
import Derived.Test.YtjodhbomckkjdaaDoorTermReadP
namespace Go.Proofs.YtjodhbomckkjdaaDoor
set_option linter.unusedVariables false

/-- Is a text a term for so many? -/
noncomputable def termB (n : Int) (s : ByteArray) : Bool := (termN n s).isSome
end Go.Proofs.YtjodhbomckkjdaaDoor
