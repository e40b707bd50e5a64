/- From the rows' condition to the table of de Bruijn's word; a world that meets it. -/
import Derived.Test.YtgjegpponchdaaaDoorRows
import Derived.Test.YtgjegpponchdaaaDoorFirm
import Derived.Lib.LaidTab
import Derived.LaidLaws
namespace Go.Proofs.YtgjegpponchdaaaDoor
open Go.RowKit
set_option linter.unusedVariables false

def tz64L : List Int := Lib.deBruijn64tab.map fun (x : Nat) => (x : Int)
theorem tz64_len : tz64L.length = 64 := by kernel_rfl
theorem tz64_laid : (Rows.laid_math_bits_deBruijn64tab : DataW Unit) = Lib.tabData .u8 tz64L := by kernel_rfl
theorem tz64_at (j : Nat) : tz64L.getD j 0 = ((Lib.deBruijn64tab.getD j 0 : Nat) : Int) := by
  unfold tz64L
  rw [List.getD_eq_getElem?_getD, List.getD_eq_getElem?_getD, List.getElem?_map]
  cases Lib.deBruijn64tab[j]? <;> rfl
theorem tz64_g : Tryd.prog.globalNamed "math/bits.deBruijn64tab" = some 1 := by kernel_rfl
theorem tz64_ty : (Tryd.prog.globals[1]?).map (·.type) = some 124 := by kernel_rfl
theorem tz64_u : Tryd.prog.underlying 124 = some (.array 64 5) := by kernel_rfl
theorem tz64_ue : Tryd.prog.underlying 5 = some (.int .u8) := by kernel_rfl
theorem tz64_c : Tryd.prog.cellsOf 124 = 64 := by kernel_rfl
theorem tz64_ce : Tryd.prog.cellsOf 5 = 1 := by kernel_rfl
abbrev laidL : List (String × DataW Unit) := [("math/bits.deBruijn32tab", Rows.laid_math_bits_deBruijn32tab), ("math/bits.deBruijn64tab", Rows.laid_math_bits_deBruijn64tab)]
/-- What the condition gives a walk: the table's cells. -/
theorem tz_of_laid {W : World} (h : laidMet Tryd.prog laidL W) : TzAt W := by
  obtain ⟨ps, ⟨g1, t1, cs1, f1, p1, q1, a1, a2, a3, a4, h2, _⟩, _⟩ := h
  obtain ⟨g2, t2, cs2, f2, p2, q2, b1, b2, b3, b4, _, _⟩ := h2
  obtain rfl := Option.some.inj (tz64_g.symm.trans b1)
  obtain rfl := Option.some.inj (tz64_ty.symm.trans b2)
  rw [tz64_laid] at b4
  have e := Lib.cells_of_tab tz64_u tz64_ue tz64_ce tz64_c b4
  have ht : Lib.TabIs Tryd.prog W "math/bits.deBruijn64tab" .u8 tz64L := by
    unfold Lib.TabIs
    rw [b3, ← e]
  intro j hj
  rw [← tz64_at]
  exact ht.cell tz64_g j (by rw [tz64_len]; exact hj)

/-- The settled world, both tables laid. -/
noncomputable def laidWorld (os : Os) : World :=
  let w0 := World.holding Tryd.prog os ⟨#[], #[], []⟩
  { w0 with heap := (w0.heap.modify 0 fun
      | .cells _ t frozen => .cells (([0, 1, 28, 2, 29, 14, 24, 3, 30, 22, 20, 15, 25, 17, 4, 8, 31, 27, 13, 23, 21, 19, 16, 7, 26, 12, 18, 6, 11, 5, 10, 9].map fun (x : Int) => Value.int .u8 x).toArray) t frozen
      | o => o).modify 1 fun
      | .cells _ t frozen => .cells ((tz64L.map fun x => Value.int .u8 x).toArray) t frozen
      | o => o }
theorem laidWorld_met (os : Os) (args : Array Value) : laidMet Tryd.prog laidL ((laidWorld os).forCall (fun _ _ => 0) ⟨#[], args, []⟩).memory :=
  laidMet_of_run' 8 (by kernel_rfl) (by kernel_rfl)
end Go.Proofs.YtgjegpponchdaaaDoor
