/- The ends of swaps and the most swaps, as the model answers them. -/
import Derived.Test.YtgjegpponchdaaaDoorLedModel
namespace Go.Proofs.YtgjegpponchdaaaDoor
set_option linter.unusedVariables false
set_option linter.unusedSimpArgs false
open Go.RowKit

/-- The greatest of the first k numbers, or 0. -/
def maxTo (X : Nat → Int) : Nat → Int
  | 0 => 0
  | k + 1 => max (maxTo X k) (X k)
/-- The most swaps. -/
noncomputable def mostN (n : Nat) (L : Nat → Nat) (Z : Nat → Nat → Int) : Int := if tt (IsWishes n L Z) = true then maxTo (fun i => longF n Z ((givs n n []).getD i [])) (givs n n []).length else 0
theorem mostN_yes {n : Nat} {L : Nat → Nat} {Z : Nat → Nat → Int} (h : IsWishes n L Z) : mostN n L Z = maxTo (fun i => longF n Z ((givs n n []).getD i [])) (givs n n []).length := by unfold mostN; rw [tt_of h]; rfl
theorem mostN_no {n : Nat} {L : Nat → Nat} {Z : Nat → Nat → Int} (h : ¬ IsWishes n L Z) : mostN n L Z = 0 := by unfold mostN; rw [tt_no h]; rfl
/-- Swaps lead there and none goes on. -/
def EndP (n : Nat) (Z : Nat → Nat → Int) (D : List Int) : Prop := 0 ≤ longF n Z D ∧ StillP n Z (nth D)
noncomputable def endsL (n : Nat) (Z : Nat → Nat → Int) (LL : List (List Int)) : List (List Int) := LL.filter fun D => tt (EndP n Z D)
theorem endsL_yes {n : Nat} {Z : Nat → Nat → Int} {A : List (List Int)} {D : List Int} (h : EndP n Z D) : endsL n Z (A ++ [D]) = endsL n Z A ++ [D] := by
  unfold endsL
  rw [List.filter_append]
  simp [tt_of h]
theorem endsL_no {n : Nat} {Z : Nat → Nat → Int} {A : List (List Int)} {D : List Int} (h : ¬ EndP n Z D) : endsL n Z (A ++ [D]) = endsL n Z A := by
  unfold endsL
  rw [List.filter_append]
  simp [tt_no h]
theorem endsL_le (n : Nat) (Z : Nat → Nat → Int) (LL : List (List Int)) : (endsL n Z LL).length ≤ LL.length := List.length_filter_le _ _
/-- What SwapEnds answers. -/
noncomputable def endsAll (n : Nat) (L : Nat → Nat) (Z : Nat → Nat → Int) : List (List Int) := if tt (IsWishes n L Z) = true then endsL n Z (givs n n []) else []
theorem endsAll_yes {n : Nat} {L : Nat → Nat} {Z : Nat → Nat → Int} (h : IsWishes n L Z) : endsAll n L Z = endsL n Z (givs n n []) := by unfold endsAll; rw [tt_of h]; rfl
theorem endsAll_no {n : Nat} {L : Nat → Nat} {Z : Nat → Nat → Int} (h : ¬ IsWishes n L Z) : endsAll n L Z = [] := by unfold endsAll; rw [tt_no h]; rfl
theorem long_range {n : Nat} {L : Nat → Nat} {Z : Nat → Nat → Int} (hW : IsWishes n L Z) (D : List Int) : -1 ≤ longF n Z D ∧ longF n Z D ≤ 10 := by
  by_cases h : ∃ x, IsLong n Z D x
  · obtain ⟨x, hx⟩ := h
    rw [longF_of hx]
    rcases hx with ⟨e, _⟩ | ⟨t, e, ht, _⟩
    · omega
    · have := led_ten hW ht; omega
  · unfold longF
    rw [dif_neg h]; omega
theorem maxTo_range {X : Nat → Int} (h : ∀ i, X i ≤ 10) : ∀ k, 0 ≤ maxTo X k ∧ maxTo X k ≤ 10
  | 0 => by simp [maxTo]
  | k + 1 => by
    have h1 := maxTo_range h k
    have h2 := h k
    show 0 ≤ max (maxTo X k) (X k) ∧ max (maxTo X k) (X k) ≤ 10
    omega
end Go.Proofs.YtgjegpponchdaaaDoor
