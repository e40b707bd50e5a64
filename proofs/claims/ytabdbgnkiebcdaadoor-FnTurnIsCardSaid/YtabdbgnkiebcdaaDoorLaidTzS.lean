/- From the rows' condition, seven listed variables, to the table of lowest bits. -/
import Derived.Test.YtabdbgnkiebcdaaDoorLaidSeven
import Derived.Test.YtabdbgnkiebcdaaDoorPartR12
namespace Go.Proofs.YtabdbgnkiebcdaaDoor
set_option linter.unusedVariables false
open Go.RowKit

theorem tz_of_laid7 {W : World} (h : laidMet Tryd.prog laid7 W) : TzAt W := by
  have ht := tab_head h.tail tz64_laid tz64_g tz64_ty tz64_u tz64_ue tz64_ce tz64_c
  intro j hj
  rw [← tz64_at]
  exact ht.cell tz64_g j (by rw [tz64_len]; exact hj)
end Go.Proofs.YtabdbgnkiebcdaaDoor
