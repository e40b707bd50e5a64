/- Where a number first stands in a list, in plain mathematics. -/
import Derived.Test.YtgjegpponchdaaaDoorWishes
namespace Go.Proofs.YtgjegpponchdaaaDoor
set_option linter.unusedVariables false
set_option linter.unusedSimpArgs false
open Go.RowKit

/-- Where x first stands among the first n; -1 if nowhere. -/
noncomputable def idxF (X : Nat → Int) (x : Int) : Nat → Int
  | 0 => -1
  | k + 1 => if idxF X x k = -1 then (if X k = x then (k : Int) else -1) else idxF X x k
theorem idxF_none {X : Nat → Int} {x : Int} {n : Nat} (h : ∀ k, k < n → X k ≠ x) : idxF X x n = -1 := by
  induction n with
  | zero => rfl
  | succ n ih =>
    unfold idxF
    rw [if_pos (ih fun k hk => h k (by omega)), if_neg (h n (by omega))]
theorem idxF_some {X : Nat → Int} {x : Int} {n k : Nat} (h : ∀ j, j < k → X j ≠ x) (hk : X k = x) (hn : k < n) : idxF X x n = k := by
  induction n with
  | zero => omega
  | succ n ih =>
    unfold idxF
    by_cases e : k = n
    · subst e
      rw [if_pos (idxF_none h), if_pos hk]
    · rw [ih (by omega), if_neg (by omega)]
/-- Does x stand among the first n? -/
def HasI (n : Nat) (X : Nat → Int) (x : Int) : Prop := ∃ k, k < n ∧ X k = x
theorem idxF_has {X : Nat → Int} {x : Int} {n : Nat} : HasI n X x ↔ 0 ≤ idxF X x n := by
  induction n with
  | zero => constructor
            · rintro ⟨k, h, _⟩; omega
            · intro h; simp [idxF] at h
  | succ n ih =>
    unfold idxF
    constructor
    · rintro ⟨k, hk, e⟩
      by_cases h1 : HasI n X x
      · have := ih.1 h1
        rw [if_neg (by omega)]; exact this
      · have hkn : k = n := by
          by_cases h2 : k < n
          · exact absurd ⟨k, h2, e⟩ h1
          · omega
        subst hkn
        rw [if_pos (idxF_none fun j hj e' => h1 ⟨j, hj, e'⟩), if_pos e]; omega
    · intro h
      by_cases h1 : idxF X x n = -1
      · rw [if_pos h1] at h
        by_cases h2 : X n = x
        · exact ⟨n, by omega, h2⟩
        · rw [if_neg h2] at h; omega
      · rw [if_neg h1] at h
        obtain ⟨k, hk, e⟩ := ih.2 h
        exact ⟨k, by omega, e⟩

/-- Where x first stands among the first n; n if nowhere. -/
noncomputable def atL (X : Nat → Int) (x : Int) (n : Nat) : Int := if idxF X x n = -1 then n else idxF X x n
theorem atL_first {X : Nat → Int} {x : Int} {n k : Nat} (h : ∀ j, j < k → X j ≠ x) (hk : X k = x) (hn : k < n) : atL X x n = k := by
  unfold atL
  rw [idxF_some h hk hn, if_neg (by omega)]
theorem atL_none {X : Nat → Int} {x : Int} {n : Nat} (h : ∀ k, k < n → X k ≠ x) : atL X x n = n := by
  unfold atL
  rw [idxF_none h, if_pos rfl]
theorem atL_has {X : Nat → Int} {x : Int} {n : Nat} (h : HasI n X x) : atL X x n = idxF X x n := by
  have := idxF_has.1 h
  unfold atL
  rw [if_neg (by omega)]
/-- Does a person like x better than y? -/
def LikesOk (n : Nat) (L : Nat → Nat) (Z : Nat → Nat → Int) (p x y : Int) : Prop :=
  IsWishes n L Z ∧ InR p 0 (n - 1) ∧ InR x 0 (n - 1) ∧ InR y 0 (n - 1) ∧ idxF (Z p.toNat) x n < idxF (Z p.toNat) y n

theorem wishes_has {n : Nat} {L : Nat → Nat} {Z : Nat → Nat → Int} (h : IsWishes n L Z) {p : Nat} (hp : p < n) {x : Int} (hx : InR x 0 ((n : Int) - 1)) : HasI n (Z p) x := by
  obtain ⟨y, rfl⟩ := Int.eq_ofNat_of_zero_le hx.1
  obtain ⟨i, hi, e⟩ := (h.2 p hp).2.all (r := y) (by have := hx.2; omega)
  exact ⟨i, hi, e⟩
end Go.Proofs.YtgjegpponchdaaaDoor
