/- From the rows' condition, seven listed variables, to the library's tables and errors; a world that meets it. -/
import Derived.Test.YtabdbgnkiebcdaaDoorLaidVars
import Derived.Test.YtabdbgnkiebcdaaDoorPartR6
namespace Go.Proofs.YtabdbgnkiebcdaaDoor
open Go.RowKit
set_option linter.unusedVariables false

abbrev laid7 : List (String × DataW Unit) := [("math/bits.deBruijn32tab", Rows.laid_math_bits_deBruijn32tab), ("math/bits.deBruijn64tab", Rows.laid_math_bits_deBruijn64tab), ("internal/strconv.uint64pow10", Rows.laid_internal_strconv_uint64pow10), ("unicode/utf8.acceptRanges", Rows.laid_unicode_utf8_acceptRanges), ("strconv.ErrRange", Rows.laid_strconv_ErrRange), ("strconv.ErrSyntax", Rows.laid_strconv_ErrSyntax), ("unicode/utf8.first", Rows.laid_unicode_utf8_first)]
theorem pow_of_laid7 {W : World} (h : laidMet Tryd.prog laid7 W) : PowAt W := tab_head h.tail.tail pow_laid pow_g pow_ty pow_u pow_ue pow_ce pow_c

theorem erg_g : Tryd.prog.globalNamed "strconv.ErrRange" = some 5 := by kernel_rfl
theorem erg_ty : (Tryd.prog.globals[5]?).map (·.type) = some 99 := by kernel_rfl
theorem ers_g : Tryd.prog.globalNamed "strconv.ErrSyntax" = some 4 := by kernel_rfl
theorem ers_ty : (Tryd.prog.globals[4]?).map (·.type) = some 99 := by kernel_rfl
theorem er_star : "*" ++ "errors.errorString" = "*errors.errorString" := by decide
theorem er_row (u : TypeId) (h : Tryd.prog.typeName? 3 u = some "*errors.errorString") : u = 184 :=
  typeName_ptr_named (nm := "errors.errorString") (by rw [er_star]; kernel_rfl) (by kernel_rfl) (by decide) u (by rw [er_star]; exact h)
theorem er_c : Tryd.prog.cellsOf 186 = 1 := by kernel_rfl
theorem er_cs : Tryd.prog.cellsOf 9 = 1 := by kernel_rfl

theorem err_of_laid7 {W : World} (h : laidMet Tryd.prog laid7 W) : NumErrAt W := by
  obtain ⟨a, s, h1, _⟩ := laid_sentinel h.tail.tail.tail.tail erg_g erg_ty Tryd.underlying99 er_row Tryd.underlying184 Tryd.underlying186 rfl rfl Tryd.underlying9 er_c er_cs
  obtain ⟨b, z, h2, _⟩ := laid_sentinel h.tail.tail.tail.tail.tail ers_g ers_ty Tryd.underlying99 er_row Tryd.underlying184 Tryd.underlying186 rfl rfl Tryd.underlying9 er_c er_cs
  exact ⟨⟨_, _, by simpa using World.var?_cell ers_g h2 0⟩, ⟨_, _, by simpa using World.var?_cell erg_g h1 0⟩⟩

def accZ : List Int := [128, 191, 160, 191, 128, 159, 144, 191, 128, 143, 0, 0, 0, 0, 0, 0, 0, 0, 0, 0, 0, 0, 0, 0, 0, 0, 0, 0, 0, 0, 0, 0]
noncomputable def lowW : Nat := (World.holding Tryd.prog default ⟨#[], #[], []⟩).heap.size
/-- The settled world, the seven laid. -/
noncomputable def laidWorld7 (os : Os) : World :=
  let w0 := World.holding Tryd.prog os ⟨#[.cells #[.string ⟨#[118, 97, 108, 117, 101, 32, 111, 117, 116, 32, 111, 102, 32, 114, 97, 110, 103, 101]⟩] 186, .cells #[.string ⟨#[105, 110, 118, 97, 108, 105, 100, 32, 115, 121, 110, 116, 97, 120]⟩] 186], #[], []⟩
  { w0 with heap := ((((((w0.heap.modify 0 fun
      | .cells _ t frozen => .cells ((db32.map fun x => Value.int .u8 x).toArray) t frozen
      | o => o).modify 1 fun
      | .cells _ t frozen => .cells ((db64.map fun x => Value.int .u8 x).toArray) t frozen
      | o => o).modify 2 fun
      | .cells _ t frozen => .cells ((Lib.pow10Tab.map fun x => Value.int .u64 x).toArray) t frozen
      | o => o).modify 7 fun
      | .cells _ t frozen => .cells ((accZ.map fun x => Value.int .u8 x).toArray) t frozen
      | o => o).modify 6 fun
      | .cells _ t frozen => .cells ((Pinned.utf8FirstZ.map fun (x : Nat) => Value.int .u8 (x : Int)).toArray) t frozen
      | o => o).modify 5 fun
      | .cells _ t frozen => .cells #[.iface 184 (.pointer (some ⟨lowW, 0, none⟩))] t frozen
      | o => o).modify 4 fun
      | .cells _ t frozen => .cells #[.iface 184 (.pointer (some ⟨lowW + 1, 0, none⟩))] t frozen
      | o => o }
theorem laidWorld7_met (os : Os) (args : Array Value) : laidMet Tryd.prog laid7 ((laidWorld7 os).forCall (fun _ _ => 0) ⟨#[], args, []⟩).memory :=
  laidMet_of_run' 8 (by kernel_rfl) (by kernel_rfl)
end Go.Proofs.YtabdbgnkiebcdaaDoor
