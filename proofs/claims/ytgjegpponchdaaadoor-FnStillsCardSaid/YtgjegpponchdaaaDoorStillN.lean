/- How many givings are still, in plain mathematics. -/
import Derived.Test.YtgjegpponchdaaaDoorMayModel
import Derived.Test.YtgjegpponchdaaaDoorGivsModel
namespace Go.Proofs.YtgjegpponchdaaaDoor
set_option linter.unusedVariables false
set_option linter.unusedSimpArgs false
open Go.RowKit

/-- Those of a list that are still. -/
noncomputable def stillL (n : Nat) (Z : Nat → Nat → Int) (LL : List (List Int)) : List (List Int) := LL.filter fun D => tt (StillP n Z (nth D))
theorem stillL_yes {n : Nat} {Z : Nat → Nat → Int} {A : List (List Int)} {D : List Int} (h : StillP n Z (nth D)) : stillL n Z (A ++ [D]) = stillL n Z A ++ [D] := by
  unfold stillL
  rw [List.filter_append]
  simp [tt_of h]
theorem stillL_no {n : Nat} {Z : Nat → Nat → Int} {A : List (List Int)} {D : List Int} (h : ¬ StillP n Z (nth D)) : stillL n Z (A ++ [D]) = stillL n Z A := by
  unfold stillL
  rw [List.filter_append]
  simp [tt_no h]
theorem stillL_le (n : Nat) (Z : Nat → Nat → Int) (LL : List (List Int)) : (stillL n Z LL).length ≤ LL.length := List.length_filter_le _ _
noncomputable def stillN (n : Nat) (L : Nat → Nat) (Z : Nat → Nat → Int) : Nat := if tt (IsWishes n L Z) = true then (stillL n Z (givs n n [])).length else 0
theorem stillN_yes {n : Nat} {L : Nat → Nat} {Z : Nat → Nat → Int} (h : IsWishes n L Z) : stillN n L Z = (stillL n Z (givs n n [])).length := by unfold stillN; rw [tt_of h]; rfl
theorem stillN_no {n : Nat} {L : Nat → Nat} {Z : Nat → Nat → Int} (h : ¬ IsWishes n L Z) : stillN n L Z = 0 := by unfold stillN; rw [tt_no h]; rfl
theorem givsAll_le {n : Nat} (hn : n ≤ 5) : (givs n n []).length ≤ 7776 := Nat.le_trans (givs_le hn n []) (Nat.pow_le_pow_right (show 0 < 6 by omega) hn)
/-- Each of them is a giving. -/
theorem givs_given {n : Nat} {L : Nat → Nat} {Z : Nat → Nat → Int} {D : List Int} (h : IsWishes n L Z) (hD : D ∈ givs n n []) : GivenOk n L Z n (nth D) := by
  have h2 := (mem_givs n [] (Diff.nil n) (by simp) _).1 hD
  refine ⟨h, rfl, ?_⟩
  have := h2.1
  unfold Diff at this
  rwa [h2.2.1] at this
end Go.Proofs.YtgjegpponchdaaaDoor
