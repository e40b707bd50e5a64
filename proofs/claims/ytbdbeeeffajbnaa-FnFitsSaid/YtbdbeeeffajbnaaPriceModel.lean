/- What prices are, in plain mathematics. -/
import Derived.Test.YtbdbeeeffajbnaaMem
namespace Go.Proofs.Ytbdbeeeffajbnaa
set_option linter.unusedVariables false

/-- n prices. -/
def IsPrices (n : Nat) (X : Nat → Int) : Prop := (2 ≤ n ∧ n ≤ 5) ∧ ∀ k, k < n → 1 ≤ X k ∧ X k ≤ 1000000000
/-- A table of rates and prices for it. -/
def BothOk (n : Nat) (L : Nat → Nat) (Z : Nat → Nat → Int) (m : Nat) (W : Nat → Int) : Prop := (IsRates n L Z ∧ IsPrices m W) ∧ n = m
/-- The prices fit. -/
def FitsOk (n : Nat) (L : Nat → Nat) (Z : Nat → Nat → Int) (m : Nat) (W : Nat → Int) : Prop := BothOk n L Z m W ∧ ∀ i, i < n → ∀ k, k < n → Z i k * W k = 12 * W i
/-- The prices hold. -/
def HoldsOk (n : Nat) (L : Nat → Nat) (Z : Nat → Nat → Int) (m : Nat) (W : Nat → Int) : Prop := BothOk n L Z m W ∧ ∀ i, i < n → ∀ k, k < n → Z i k * W k ≤ 12 * W i
/-- Units for prices. -/
def WorthOk (m : Nat) (X : Nat → Int) (m' : Nat) (Y : Nat → Int) : Prop := (IsPrices m X ∧ m' = m) ∧ ∀ k, k < m → X k ≤ 1000000 ∧ 0 ≤ Y k ∧ Y k ≤ 1000
/-- The first k prices by their units. -/
def sumP (X Y : Nat → Int) : Nat → Int
  | 0 => 0
  | k + 1 => sumP X Y k + X k * Y k
noncomputable def worthAns (m : Nat) (X : Nat → Int) (m' : Nat) (Y : Nat → Int) : Int := if tt (WorthOk m X m' Y) = true then sumP X Y m else 0
theorem worthAns_yes {m m' : Nat} {X Y : Nat → Int} (h : WorthOk m X m' Y) : worthAns m X m' Y = sumP X Y m := by unfold worthAns; rw [tt_of h]; rfl
theorem worthAns_no {m m' : Nat} {X Y : Nat → Int} (h : ¬ WorthOk m X m' Y) : worthAns m X m' Y = 0 := by unfold worthAns; rw [tt_no h]; rfl
theorem sumP_le {X Y : Nat → Int} {m k : Nat} (h : ∀ j, j < m → (1 ≤ X j ∧ X j ≤ 1000000) ∧ 0 ≤ Y j ∧ Y j ≤ 1000) (hk : k ≤ m) : 0 ≤ sumP X Y k ∧ sumP X Y k ≤ 1000000000 * (k : Int) := by
  induction k with
  | zero => simp [sumP]
  | succ k ih =>
    have h1 := ih (by omega)
    obtain ⟨⟨h2, h3⟩, h4, h5⟩ := h k (by omega)
    have h6 : 0 ≤ X k * Y k := Int.mul_nonneg (by omega) h4
    have h7 : X k * Y k ≤ 1000000 * 1000 := Int.mul_le_mul h3 h5 h4 (by omega)
    show 0 ≤ sumP X Y k + X k * Y k ∧ sumP X Y k + X k * Y k ≤ 1000000000 * ((k + 1 : Nat) : Int)
    omega

/-- Changing there and back loses. -/
def lossB (Z : Nat → Nat → Int) (i k : Nat) : Bool := decide (Z i k * Z k i < 144)
/-- How many of the first k moneys lose with i. -/
def lossI (Z : Nat → Nat → Int) (i : Nat) : Nat → Nat
  | 0 => 0
  | k + 1 => lossI Z i k + (lossB Z i k).toNat
/-- How many pairs lose among the first n moneys. -/
def lossN (Z : Nat → Nat → Int) : Nat → Nat
  | 0 => 0
  | i + 1 => lossN Z i + lossI Z i i
theorem lossI_le (Z : Nat → Nat → Int) (i k : Nat) : lossI Z i k ≤ k := by
  induction k with
  | zero => exact Nat.le_refl _
  | succ k ih => show lossI Z i k + (lossB Z i k).toNat ≤ k + 1; have : (lossB Z i k).toNat ≤ 1 := by cases lossB Z i k <;> decide
                 omega
theorem lossN_le (Z : Nat → Nat → Int) (n : Nat) (hn : n ≤ 5) : lossN Z n ≤ 5 * n := by
  induction n with
  | zero => exact Nat.le_refl _
  | succ n ih => have := ih (by omega); have := lossI_le Z n n; show lossN Z n + lossI Z n n ≤ 5 * (n + 1); omega
noncomputable def spreadAns (n : Nat) (L : Nat → Nat) (Z : Nat → Nat → Int) : Int := if tt (IsRates n L Z) = true then (lossN Z n : Int) else 0
theorem spreadAns_yes {n : Nat} {L : Nat → Nat} {Z : Nat → Nat → Int} (h : IsRates n L Z) : spreadAns n L Z = lossN Z n := by unfold spreadAns; rw [tt_of h]; rfl
theorem spreadAns_no {n : Nat} {L : Nat → Nat} {Z : Nat → Nat → Int} (h : ¬ IsRates n L Z) : spreadAns n L Z = 0 := by unfold spreadAns; rw [tt_no h]; rfl
theorem prod_le {n m : Nat} {L : Nat → Nat} {Z : Nat → Nat → Int} {W : Nat → Int} (h : BothOk n L Z m W) {i k : Nat} (hi : i < n) (hk : k < n) : 0 ≤ Z i k * W k ∧ Z i k * W k ≤ 144000000000 := by
  obtain ⟨⟨hr, hp⟩, rfl⟩ := h
  obtain ⟨h1, h2⟩ := ((hr.2 i hi).2 k hk).1
  obtain ⟨h3, h4⟩ := hp.2 k hk
  have h5 : Z i k * W k ≤ 144 * 1000000000 := Int.mul_le_mul h2 h4 (by omega) (by omega)
  exact ⟨Int.mul_nonneg (by omega) (by omega), by omega⟩
theorem rates_le {n : Nat} {L : Nat → Nat} {Z : Nat → Nat → Int} (h : IsRates n L Z) {i k : Nat} (hi : i < n) (hk : k < n) : 0 ≤ Z i k * Z k i ∧ Z i k * Z k i ≤ 20736 := by
  obtain ⟨h1, h2⟩ := ((h.2 i hi).2 k hk).1
  obtain ⟨h3, h4⟩ := ((h.2 k hk).2 i hi).1
  have h5 : Z i k * Z k i ≤ 144 * 144 := Int.mul_le_mul h2 h4 (by omega) (by omega)
  exact ⟨Int.mul_nonneg (by omega) (by omega), by omega⟩
end Go.Proofs.Ytbdbeeeffajbnaa
