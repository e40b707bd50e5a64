/- A swap of a giving is a giving, and taken back it is the giving. -/
import Derived.Test.YtgjegpponchdaaaDoorWishes
namespace Go.Proofs.YtgjegpponchdaaaDoor
set_option linter.unusedVariables false
open Go.RowKit

/-- The place from which a swap takes. -/
def swapI (i k j : Nat) : Nat := if j = i then k else if j = k then i else j
theorem swapF_at (G : Nat → Int) (i k j : Nat) : swapF G i k j = G (swapI i k j) := by
  unfold swapF swapI
  by_cases e1 : j = i
  · rw [if_pos e1, if_pos e1]
  · rw [if_neg e1, if_neg e1]
    by_cases e2 : j = k
    · rw [if_pos e2, if_pos e2]
    · rw [if_neg e2, if_neg e2]
theorem swapI_lt {n i k j : Nat} (hi : i < n) (hk : k < n) (hj : j < n) : swapI i k j < n := by
  unfold swapI
  by_cases e1 : j = i
  · rw [if_pos e1]; exact hk
  · rw [if_neg e1]
    by_cases e2 : j = k
    · rw [if_pos e2]; exact hi
    · rw [if_neg e2]; exact hj
theorem swapI_back (i k j : Nat) : swapI i k (swapI i k j) = j := by
  unfold swapI
  by_cases e1 : j = i
  · rw [if_pos e1]
    by_cases e2 : k = i
    · rw [if_pos e2]; omega
    · rw [if_neg e2, if_pos rfl]; omega
  · rw [if_neg e1]
    by_cases e2 : j = k
    · rw [if_pos e2, if_pos rfl]; omega
    · rw [if_neg e2, if_neg e1, if_neg e2]
theorem swap_back (G : Nat → Int) (i k j : Nat) : swapF (swapF G i k) i k j = G j := by rw [swapF_at, swapF_at, swapI_back]
theorem swap_given {n i k : Nat} {L : Nat → Nat} {Z : Nat → Nat → Int} {G : Nat → Int} (h : GivenOk n L Z n G) (hi : i < n) (hk : k < n) : GivenOk n L Z n (swapF G i k) := by
  refine ⟨h.1, rfl, fun j hj => ?_, fun j l hjl hl => ?_⟩
  · rw [swapF_at]; exact h.2.2.1 _ (swapI_lt hi hk hj)
  · rw [swapF_at, swapF_at]
    have hne : swapI i k j ≠ swapI i k l := fun e => by
      have := congrArg (swapI i k) e
      rw [swapI_back, swapI_back] at this; omega
    rcases Nat.lt_or_gt_of_ne hne with h1 | h1
    · exact h.2.2.2 _ _ h1 (swapI_lt hi hk hl)
    · exact fun e => h.2.2.2 _ _ h1 (swapI_lt hi hk (by omega)) e.symm
theorem given_ne {n : Nat} {L : Nat → Nat} {Z : Nat → Nat → Int} {G : Nat → Int} (h : GivenOk n L Z n G) {i k : Nat} (hi : i < n) (hk : k < n) (hik : i ≠ k) : G i ≠ G k := by
  rcases Nat.lt_or_gt_of_ne hik with h1 | h1
  · exact h.2.2.2 _ _ h1 hk
  · exact fun e => h.2.2.2 _ _ h1 hi e.symm
theorem swapF_i (G : Nat → Int) (i k : Nat) : swapF G i k i = G k := by unfold swapF; rw [if_pos rfl]
theorem swapF_k {i k : Nat} (G : Nat → Int) : swapF G i k k = G i := by
  unfold swapF
  by_cases e : k = i
  · rw [if_pos e, e]
  · rw [if_neg e, if_pos rfl]
theorem swapF_o {i k j : Nat} (G : Nat → Int) (h1 : j ≠ i) (h2 : j ≠ k) : swapF G i k j = G j := by unfold swapF; rw [if_neg h1, if_neg h2]
end Go.Proofs.YtgjegpponchdaaaDoor
