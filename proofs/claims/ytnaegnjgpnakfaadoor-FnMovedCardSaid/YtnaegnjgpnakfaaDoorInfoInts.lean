/- What the program's types int and []int are. -/
import Derived.Test.YtnaegnjgpnakfaaDoorProg
import Derived.Test.YtnaegnjgpnakfaaDoorMem
import Derived.Deep.OwnRows
namespace Go.Proofs.YtnaegnjgpnakfaaDoor
set_option linter.unusedVariables false

theorem Tryd.infoInt : (Tryd.prog.info? 3).map (fun i => (i.zero, i.size, i.bytes)) = some (some (.int .i64 0), 1, 8) := by kernel_rfl

theorem Tryd.infoInts : (Tryd.prog.info? 23).map (fun i => (i.zero, i.size, i.bytes)) = some (some (.slice none 0 0), 1, 24) := by kernel_rfl
end Go.Proofs.YtnaegnjgpnakfaaDoor
