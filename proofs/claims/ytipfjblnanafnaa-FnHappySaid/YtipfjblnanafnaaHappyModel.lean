/- How many get what they like best, in plain mathematics. -/
import Derived.Test.YtipfjblnanafnaaSwapModel
namespace Go.Proofs.Ytipfjblnanafnaa
set_option linter.unusedVariables false
set_option linter.unusedSimpArgs false
open Go.RowKit

/-- How many of the first k get what they like best. -/
def hapF (Z : Nat → Nat → Int) (G : Nat → Int) : Nat → Nat
  | 0 => 0
  | k + 1 => if Z k 0 = G k then hapF Z G k + 1 else hapF Z G k
theorem hapF_yes {Z : Nat → Nat → Int} {G : Nat → Int} {k : Nat} (h : Z k 0 = G k) : hapF Z G (k + 1) = hapF Z G k + 1 := by
  show (if Z k 0 = G k then hapF Z G k + 1 else hapF Z G k) = _
  rw [if_pos h]
theorem hapF_no {Z : Nat → Nat → Int} {G : Nat → Int} {k : Nat} (h : ¬ Z k 0 = G k) : hapF Z G (k + 1) = hapF Z G k := by
  show (if Z k 0 = G k then hapF Z G k + 1 else hapF Z G k) = _
  rw [if_neg h]
theorem hapF_le (Z : Nat → Nat → Int) (G : Nat → Int) : ∀ k, hapF Z G k ≤ k
  | 0 => Nat.le_refl _
  | k + 1 => by
    have := hapF_le Z G k
    by_cases h : Z k 0 = G k
    · rw [hapF_yes h]; omega
    · rw [hapF_no h]; omega
/-- All of them do just if each does. -/
theorem hapF_all {Z : Nat → Nat → Int} {G : Nat → Int} : ∀ k, hapF Z G k = k ↔ ∀ i, i < k → Z i 0 = G i
  | 0 => by simp [hapF]
  | k + 1 => by
    have h1 := hapF_all (Z := Z) (G := G) k
    have h2 := hapF_le Z G k
    by_cases h : Z k 0 = G k
    · rw [hapF_yes h]
      constructor
      · intro e i hi
        by_cases e2 : i = k
        · subst e2; exact h
        · exact h1.1 (by omega) i (by omega)
      · intro e
        rw [h1.2 fun i hi => e i (by omega)]
    · rw [hapF_no h]
      constructor
      · intro e; omega
      · intro e; exact absurd (e k (by omega)) h
noncomputable def happyN (n : Nat) (L : Nat → Nat) (Z : Nat → Nat → Int) (m : Nat) (G : Nat → Int) : Nat := if tt (GivenOk n L Z m G) = true then hapF Z G n else 0
theorem happyN_yes {n m : Nat} {L : Nat → Nat} {Z : Nat → Nat → Int} {G : Nat → Int} (h : GivenOk n L Z m G) : happyN n L Z m G = hapF Z G n := by unfold happyN; rw [tt_of h]; rfl
theorem happyN_no {n m : Nat} {L : Nat → Nat} {Z : Nat → Nat → Int} {G : Nat → Int} (h : ¬ GivenOk n L Z m G) : happyN n L Z m G = 0 := by unfold happyN; rw [tt_no h]; rfl
end Go.Proofs.Ytipfjblnanafnaa
