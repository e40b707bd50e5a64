/- Where a number first stands in a list, in plain mathematics. -/
import Derived.Test.YtaipodnhnekpjaaMem
namespace Go.Proofs.Ytaipodnhnekpjaa
set_option linter.unusedVariables false
set_option linter.unusedSimpArgs false
open Go.RowKit

/-- Where x first stands among the first n; -1 if nowhere. -/
noncomputable def idxF (X : Nat → Int) (x : Int) : Nat → Int
  | 0 => -1
  | k + 1 => if idxF X x k = -1 then (if X k = x then (k : Int) else -1) else idxF X x k
theorem idxF_none {X : Nat → Int} {x : Int} {n : Nat} (h : ∀ k, k < n → X k ≠ x) : idxF X x n = -1 := by
  induction n with
  | zero => rfl
  | succ n ih =>
    unfold idxF
    rw [if_pos (ih fun k hk => h k (by omega)), if_neg (h n (by omega))]
theorem idxF_some {X : Nat → Int} {x : Int} {n k : Nat} (h : ∀ j, j < k → X j ≠ x) (hk : X k = x) (hn : k < n) : idxF X x n = k := by
  induction n with
  | zero => omega
  | succ n ih =>
    unfold idxF
    by_cases e : k = n
    · subst e
      rw [if_pos (idxF_none h), if_pos hk]
    · rw [ih (by omega), if_neg (by omega)]
/-- Does x stand among the first n? -/
def HasI (n : Nat) (X : Nat → Int) (x : Int) : Prop := ∃ k, k < n ∧ X k = x
theorem idxF_has {X : Nat → Int} {x : Int} {n : Nat} : HasI n X x ↔ 0 ≤ idxF X x n := by
  induction n with
  | zero => constructor
            · rintro ⟨k, h, _⟩; omega
            · intro h; simp [idxF] at h
  | succ n ih =>
    unfold idxF
    constructor
    · rintro ⟨k, hk, e⟩
      by_cases h1 : HasI n X x
      · have := ih.1 h1
        rw [if_neg (by omega)]; exact this
      · have hkn : k = n := by
          by_cases h2 : k < n
          · exact absurd ⟨k, h2, e⟩ h1
          · omega
        subst hkn
        rw [if_pos (idxF_none fun j hj e' => h1 ⟨j, hj, e'⟩), if_pos e]; omega
    · intro h
      by_cases h1 : idxF X x n = -1
      · rw [if_pos h1] at h
        by_cases h2 : X n = x
        · exact ⟨n, by omega, h2⟩
        · rw [if_neg h2] at h; omega
      · rw [if_neg h1] at h
        obtain ⟨k, hk, e⟩ := ih.2 h
        exact ⟨k, by omega, e⟩
end Go.Proofs.Ytaipodnhnekpjaa
