/- From the rows' condition to the library's variables; worlds that meet it. -/
import Derived.Test.YtabdbgnkiebcdaaDoorRows
import Derived.Test.YtabdbgnkiebcdaaDoorPartR1
import Derived.Lib.LaidTab
import Derived.LaidLaws
import Derived.Stop.LaidErr
import Derived.Shelf.Spec.TrailingZeros
namespace Go.Proofs.YtabdbgnkiebcdaaDoor
open Go.RowKit
set_option linter.unusedVariables false

theorem tab_head {P : Program} {n : String} {d : DataW Unit} {k : IntKind} {zs : List Int} {r : List (String × DataW Unit)} {W : World} {g t e m : Nat} (h : laidMet P ((n, d) :: r) W) (hd : d = Lib.tabData k zs) (hg : P.globalNamed n = some g) (ht : (P.globals[g]?).map (·.type) = some t)
    (hu : P.underlying t = some (.array m e)) (he : P.underlying e = some (.int k)) (hce : P.cellsOf e = 1) (hct : P.cellsOf t = m) : Lib.TabIs P W n k zs := by
  obtain ⟨ps, ⟨g1, t1, cs1, f1, p1, q1, a1, a2, a3, a4, _, _⟩, _⟩ := h
  obtain rfl := Option.some.inj (hg.symm.trans a1)
  obtain rfl := Option.some.inj (ht.symm.trans a2)
  rw [hd] at a4
  have e := Lib.cells_of_tab hu he hce hct a4
  unfold Lib.TabIs
  rw [a3, ← e]

theorem pow_laid : (Rows.laid_internal_strconv_uint64pow10 : DataW Unit) = Lib.tabData .u64 Lib.pow10Tab := by kernel_rfl
theorem pow_ty : (Tryd.prog.globals[2]?).map (·.type) = some 168 := by kernel_rfl
theorem pow_u : Tryd.prog.underlying 168 = some (.array 20 150) := by kernel_rfl
theorem pow_ue : Tryd.prog.underlying 150 = some (.int .u64) := by kernel_rfl
theorem pow_c : Tryd.prog.cellsOf 168 = 20 := by kernel_rfl
theorem pow_ce : Tryd.prog.cellsOf 150 = 1 := by kernel_rfl

abbrev laid3 : List (String × DataW Unit) := [("math/bits.deBruijn32tab", Rows.laid_math_bits_deBruijn32tab), ("math/bits.deBruijn64tab", Rows.laid_math_bits_deBruijn64tab), ("internal/strconv.uint64pow10", Rows.laid_internal_strconv_uint64pow10)]
theorem pow_of_laid3 {W : World} (h : laidMet Tryd.prog laid3 W) : PowAt W := tab_head h.tail.tail pow_laid pow_g pow_ty pow_u pow_ue pow_ce pow_c

def db32 : List Int := [0, 1, 28, 2, 29, 14, 24, 3, 30, 22, 20, 15, 25, 17, 4, 8, 31, 27, 13, 23, 21, 19, 16, 7, 26, 12, 18, 6, 11, 5, 10, 9]
def db64 : List Int := Lib.deBruijn64tab.map fun (x : Nat) => (x : Int)
/-- The settled world, the three tables laid. -/
noncomputable def laidWorld3 (os : Os) : World :=
  let w0 := World.holding Tryd.prog os ⟨#[], #[], []⟩
  { w0 with heap := ((w0.heap.modify 0 fun
      | .cells _ t frozen => .cells ((db32.map fun x => Value.int .u8 x).toArray) t frozen
      | o => o).modify 1 fun
      | .cells _ t frozen => .cells ((db64.map fun x => Value.int .u8 x).toArray) t frozen
      | o => o).modify 2 fun
      | .cells _ t frozen => .cells ((Lib.pow10Tab.map fun x => Value.int .u64 x).toArray) t frozen
      | o => o }
theorem laidWorld3_met (os : Os) (args : Array Value) : laidMet Tryd.prog laid3 ((laidWorld3 os).forCall (fun _ _ => 0) ⟨#[], args, []⟩).memory :=
  laidMet_of_run' 8 (by kernel_rfl) (by kernel_rfl)
end Go.Proofs.YtabdbgnkiebcdaaDoor
