/- What WantMost, WantFirst and WantAll answer, in plain mathematics. -/
import Derived.Test.YteigenmagifplaaMostModel
import Derived.Test.YteigenmagifplaaL6wGiven
namespace Go.Proofs.Yteigenmagifplaa
set_option linter.unusedVariables false
set_option linter.unusedSimpArgs false
open Go.RowKit

noncomputable def mostA (n : Nat) (W : Nat → Int) (k : Int) : Int := if tt (WantK n W k) = true then (mostN' n W k.toNat : Nat) else 0
noncomputable def firstN (n : Nat) (W : Nat → Int) (k : Int) : Nat := if tt (WantK n W k) = true then n else 0
def AllOk (n : Nat) (W : Nat → Int) (k : Int) : Prop := WantK n W k ∧ mostN' n W k.toNat = n
section
variable {n : Nat} {W : Nat → Int} {k : Int}
theorem mostA_yes (h : WantK n W k) : mostA n W k = (mostN' n W k.toNat : Nat) := by unfold mostA; rw [tt_of h]; rfl
theorem mostA_no (h : ¬ WantK n W k) : mostA n W k = 0 := by unfold mostA; rw [tt_no h]; rfl
theorem firstN_yes (h : WantK n W k) : firstN n W k = n := by unfold firstN; rw [tt_of h]; rfl
theorem firstN_no (h : ¬ WantK n W k) : firstN n W k = 0 := by unfold firstN; rw [tt_no h]; rfl
theorem firstN_le (n : Nat) (W : Nat → Int) (k : Int) : firstN n W k ≤ 1048576 := by
  by_cases h : WantK n W k
  · rw [firstN_yes h]; have := h.1.1.2; omega
  · rw [firstN_no h]; omega
end
end Go.Proofs.Yteigenmagifplaa
