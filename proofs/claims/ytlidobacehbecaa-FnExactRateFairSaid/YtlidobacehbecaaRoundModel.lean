/- What RateRound answers, in plain mathematics. -/
import Derived.Test.YtlidobacehbecaaPowers
namespace Go.Proofs.Ytlidobacehbecaa
set_option linter.unusedVariables false

/-- A round: a way that begins with its least money. -/
def IsRing (n m : Nat) (X : Nat → Int) : Prop := IsWay n m X ∧ ∀ i, 1 ≤ i → i < m → X 0 < X i
def RoundOk (n : Nat) (L : Nat → Nat) (Z : Nat → Nat → Int) (m : Nat) (X : Nat → Int) : Prop := IsRates n L Z ∧ IsRing n m X
/-- The round closed: its first money behind it. -/
def closeF (m : Nat) (X : Nat → Int) (k : Nat) : Int := if k < m then X k else X 0
def roundV (n : Nat) (Z : Nat → Nat → Int) (m : Nat) (X : Nat → Int) : Int := valF Z (closeF m X) (p12 ((n : Int) - (m + 1 : Nat) + 1).toNat) m
noncomputable def roundAns (n : Nat) (L : Nat → Nat) (Z : Nat → Nat → Int) (m : Nat) (X : Nat → Int) : Int := if tt (RoundOk n L Z m X) = true then roundV n Z m X else 0
theorem roundAns_no {n : Nat} {L : Nat → Nat} {Z : Nat → Nat → Int} {m : Nat} {X : Nat → Int} (h : ¬ RoundOk n L Z m X) : roundAns n L Z m X = 0 := by unfold roundAns; rw [tt_no h]; rfl
theorem roundAns_yes {n : Nat} {L : Nat → Nat} {Z : Nat → Nat → Int} {m : Nat} {X : Nat → Int} (h : RoundOk n L Z m X) : roundAns n L Z m X = roundV n Z m X := by unfold roundAns; rw [tt_of h]; rfl
theorem closeF_in {n m : Nat} {X : Nat → Int} (h : IsWay n m X) (i : Nat) : 0 ≤ closeF m X i ∧ closeF m X i < n := by
  have := h.2
  unfold closeF
  by_cases hi : i < m
  · rw [if_pos hi]; exact h.1.1 i hi
  · rw [if_neg hi]; exact h.1.1 0 (by omega)

/-- The least of X 0, .. X k. -/
def minF (X : Nat → Int) : Nat → Int
  | 0 => X 0
  | k + 1 => min (minF X k) (X (k + 1))
theorem minF_le (X : Nat → Int) (k : Nat) : ∀ i, i ≤ k → minF X k ≤ X i := by
  induction k with
  | zero => intro i hi; have : i = 0 := by omega
            subst this; exact Int.le_refl _
  | succ k ih =>
    intro i hi
    by_cases e : i = k + 1
    · subst e; exact Int.min_le_right _ _
    · exact Int.le_trans (Int.min_le_left _ _) (ih i (by omega))
theorem minF_first (X : Nat → Int) (k : Nat) (h : ∀ i, i ≤ k → X 0 ≤ X i) : minF X k = X 0 := by
  induction k with
  | zero => rfl
  | succ k ih =>
    show min (minF X k) (X (k + 1)) = X 0
    rw [ih (fun i hi => h i (by omega))]
    exact Int.min_eq_left (h (k + 1) (by omega))
theorem ring_iff {n m : Nat} {X : Nat → Int} (h : IsWay n m X) : X 0 = minF X (m - 1) ↔ IsRing n m X := by
  have hm := h.2
  constructor
  · intro e
    refine ⟨h, fun i h1 h2 => ?_⟩
    have h3 := minF_le X (m - 1) i (by omega)
    have h4 := h.1.2 0 i (by omega) h2
    omega
  · intro hr
    refine (minF_first X (m - 1) fun i hi => ?_).symm
    by_cases e : i = 0
    · subst e; exact Int.le_refl _
    · exact Int.le_of_lt (hr.2 i (by omega) (by omega))
end Go.Proofs.Ytlidobacehbecaa
