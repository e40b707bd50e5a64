/- Arrays of five integers: their zero value, their size. -/
import Derived.Test.YtmjbocgoinfamaaProg
import Derived.Test.YtmjbocgoinfamaaMem
namespace Go.Proofs.Ytmjbocgoinfamaa
set_option linter.unusedVariables false
open Go.RowKit

theorem Try.zeroFive (w : World) : (zeroValue 56).run Try.prog w = .ok (.agg (cellsV 5 fun _ => 0)) w := by kernel_rfl
theorem Try.sizeFive : (Try.prog.info? 56).map (·.size) = some 5 := by kernel_rfl
theorem Try.sizeInt : (Try.prog.info? 3).map (·.size) = some 1 := by kernel_rfl
end Go.Proofs.Ytmjbocgoinfamaa
