/- A function done again and again; the first place; a set as a number; in plain mathematics. -/
import Derived.Test.YteigenmagifplaaMem
namespace Go.Proofs.Yteigenmagifplaa
set_option linter.unusedVariables false
set_option linter.unusedSimpArgs false
open Go.RowKit

/-- Among m + 1 numbers out of m two are the same. -/
theorem twice_of (m : Nat) : ∀ (l : List Nat) (x : Nat → Nat), l.length ≤ m → (∀ i, i ≤ m → x i ∈ l) → ∃ a b, a < b ∧ b ≤ m ∧ x a = x b := by
  induction m with
  | zero =>
    intro l x hl h
    have := h 0 (Nat.le_refl _)
    cases l with
    | nil => simp at this
    | cons => simp at hl
  | succ m ih =>
    intro l x hl h
    by_cases e : ∃ a, a < m + 1 ∧ x a = x (m + 1)
    · obtain ⟨a, h1, h2⟩ := e
      exact ⟨a, m + 1, h1, Nat.le_refl _, h2⟩
    · have hm := h (m + 1) (Nat.le_refl _)
      obtain ⟨a, b, h1, h2, h3⟩ := ih (l.erase (x (m + 1))) x (by rw [List.length_erase_of_mem hm]; omega) (fun i hi => (List.mem_erase_of_ne (fun e' => e ⟨i, by omega, e'⟩)).2 (h i (by omega)))
      exact ⟨a, b, h1, by omega, h3⟩

/-- f done k times. -/
def itW (f : Nat → Nat) : Nat → Nat → Nat
  | 0, i => i
  | k + 1, i => f (itW f k i)
/-- The first place of a set. -/
theorem least_place {P : Nat → Prop} {n k : Nat} (hk : k < n) (h : P k) : ∃ j, j ≤ k ∧ P j ∧ ∀ i, i < j → ¬ P i := by
  induction k using Nat.strongRecOn with
  | _ k ih =>
    by_cases e : ∃ i, i < k ∧ P i
    · obtain ⟨i, h1, h2⟩ := e
      obtain ⟨j, h3, h4, h5⟩ := ih i h1 (by omega) h2
      exact ⟨j, by omega, h4, h5⟩
    · exact ⟨k, Nat.le_refl _, h, fun i hi hp => e ⟨i, hi, hp⟩⟩
def maskW (S : Nat → Bool) : Nat → Nat
  | 0 => 0
  | k + 1 => if S k = true then maskW S k ||| 2 ^ k else maskW S k
theorem maskW_bit (S : Nat → Bool) (k y : Nat) : (maskW S k).testBit y = (decide (y < k) && S y) := by
  induction k with
  | zero => simp [maskW]
  | succ k ih =>
    unfold maskW
    by_cases h : S k = true
    · rw [if_pos h, Nat.testBit_or, ih, Nat.testBit_two_pow]
      by_cases e : y = k
      · subst e; simp [h]
      · have e1 : decide (k = y) = false := by simpa using fun h => e h.symm
        have e2 : decide (y < k) = decide (y < k + 1) := by rw [decide_eq_decide]; omega
        rw [e1, e2, Bool.or_false]
    · rw [if_neg h, ih]
      by_cases e : y = k
      · subst e; simp [h]
      · have e2 : decide (y < k) = decide (y < k + 1) := by rw [decide_eq_decide]; omega
        rw [e2]
end Go.Proofs.Yteigenmagifplaa
