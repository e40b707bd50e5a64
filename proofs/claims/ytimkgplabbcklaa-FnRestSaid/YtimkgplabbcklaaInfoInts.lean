/- What the program's types int and []int are. -/
import Derived.Test.YtimkgplabbcklaaProg
import Derived.Test.YtimkgplabbcklaaMem
import Derived.Deep.OwnRows
namespace Go.Proofs.Ytimkgplabbcklaa
set_option linter.unusedVariables false

theorem Try.infoInt : (Try.prog.info? 3).map (fun i => (i.zero, i.size, i.bytes)) = some (some (.int .i64 0), 1, 8) := by kernel_rfl

theorem Try.infoInts : (Try.prog.info? 23).map (fun i => (i.zero, i.size, i.bytes)) = some (some (.slice none 0 0), 1, 24) := by kernel_rfl
end Go.Proofs.Ytimkgplabbcklaa
