/- What the functions of item prices answer. -/
import Derived.Test.YtaipodnhnekpjaaSomeRows
import Derived.Test.YtaipodnhnekpjaaBidFirstF
namespace Go.Proofs.Ytaipodnhnekpjaa
set_option linter.unusedVariables false
set_option linter.unusedSimpArgs false
open Go.RowKit

def FairOk (n : Nat) (L : Nat → Nat) (Z : Nat → Nat → Int) (q : Nat) (P : Nat → Int) (r : Nat) (D : Nat → Int) : Prop := (IsBids n L Z ∧ ItemP q (L 0) P) ∧ (IsDeal r (L 0) D ∧ r = n) ∧ FairP n (L 0) Z P D
def SomeOk (n : Nat) (L : Nat → Nat) (Z : Nat → Nat → Int) (q : Nat) (P : Nat → Int) : Prop := (IsBids n L Z ∧ ItemP q (L 0) P) ∧ SomeP n (L 0) Z P
def GainOk (n : Nat) (L : Nat → Nat) (Z : Nat → Nat → Int) (q : Nat) (P : Nat → Int) (x : Int) : Prop := (IsBids n L Z ∧ ItemP q (L 0) P) ∧ 0 ≤ x ∧ x < (n : Int)
def CountOk (n : Nat) (L : Nat → Nat) (Z : Nat → Nat → Int) : Prop := IsBids n L Z ∧ L 0 ≤ 2
noncomputable def itemsN (n : Nat) (L : Nat → Nat) (Z : Nat → Nat → Int) : Nat := if tt (IsBids n L Z) = true then L 0 else 0
section
variable {n : Nat} {L : Nat → Nat} {Z : Nat → Nat → Int}
theorem itemsN_yes (h : IsBids n L Z) : itemsN n L Z = L 0 := by unfold itemsN; rw [tt_of h]; rfl
theorem itemsN_no (h : ¬ IsBids n L Z) : itemsN n L Z = 0 := by unfold itemsN; rw [tt_no h]; rfl
theorem itemsN_small (n : Nat) (L : Nat → Nat) (Z : Nat → Nat → Int) : itemsN n L Z ≤ 1048576 := by
  by_cases h : IsBids n L Z
  · rw [itemsN_yes h]; have := h.1.2.2; omega
  · rw [itemsN_no h]; omega
theorem firstD_is (h : IsBids n L Z) : IsDeal n (L 0) (nth (firstD n (L 0) Z)) ∧ dealT Z (nth (firstD n (L 0) Z)) n = bestV n (L 0) Z := by
  have hp := bests_pos (Z := Z) (dealsP_none (m := L 0) n)
  have hin : (bestsL n Z (dealsP (L 0) n)).getD 0 [] ∈ bestsL n Z (dealsP (L 0) n) := by
    rw [List.getD_eq_getElem?_getD, List.getElem?_eq_getElem hp]; exact List.getElem_mem hp
  obtain ⟨h1, h2⟩ := bests_total hin
  refine ⟨(dealsP_ok.1 h1).2, ?_⟩
  unfold firstD
  rw [h2]
  unfold bestV
  rw [deals_way]
end
end Go.Proofs.Ytaipodnhnekpjaa
