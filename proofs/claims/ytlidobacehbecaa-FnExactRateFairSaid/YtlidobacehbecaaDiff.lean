/- Lists of different numbers, in plain mathematics. -/
import Derived.Test.YtlidobacehbecaaBits
namespace Go.Proofs.Ytlidobacehbecaa
set_option linter.unusedVariables false

/-- m numbers from 0 to n - 1, none of them twice. -/
def IsDiff (n m : Nat) (X : Nat → Int) : Prop := (∀ i, i < m → 0 ≤ X i ∧ X i < n) ∧ ∀ i j, i < j → j < m → X i ≠ X j

/-- A way: different moneys, two at least. -/
def IsWay (n m : Nat) (X : Nat → Int) : Prop := IsDiff n m X ∧ 2 ≤ m ∧ m ≤ n

/-- The set of the first k numbers. -/
def SetOf (S k : Nat) (X : Nat → Int) : Prop := ∀ y : Nat, S.testBit y = true ↔ ∃ j, j < k ∧ X j = y

theorem SetOf.nil (X : Nat → Int) : SetOf 0 0 X := by
  intro y
  simp
theorem SetOf.put {S k x : Nat} {X : Nat → Int} (h : SetOf S k X) (hx : X k = x) : SetOf (S ||| 2 ^ x) (k + 1) X := by
  intro y
  rw [bit_put_has, h y]
  constructor
  · rintro (⟨j, hj, e⟩ | rfl)
    · exact ⟨j, by omega, e⟩
    · exact ⟨k, by omega, hx⟩
  · rintro ⟨j, hj, e⟩
    by_cases ek : j = k
    · subst ek; right; omega
    · exact .inl ⟨j, by omega, e⟩

theorem IsDiff.nil (n : Nat) (X : Nat → Int) : IsDiff n 0 X := ⟨fun i hi => absurd hi (Nat.not_lt_zero _), fun i j _ hj => absurd hj (Nat.not_lt_zero _)⟩
theorem IsDiff.snoc {n k S x : Nat} {X : Nat → Int} (h : IsDiff n k X) (hs : SetOf S k X) (hx : X k = x) (hlt : x < n) (hno : S.testBit x = false) : IsDiff n (k + 1) X := by
  refine ⟨fun i hi => ?_, fun i j hij hj => ?_⟩
  · by_cases e : i = k
    · subst e; omega
    · exact h.1 i (by omega)
  · by_cases e : j = k
    · subst e
      intro e'
      have := (hs x).2 ⟨i, hij, by rw [e', hx]⟩
      rw [hno] at this
      cases this
    · exact h.2 i j hij (by omega)
theorem not_diff_twice {n m k S x : Nat} {X : Nat → Int} (hs : SetOf S k X) (hk : k < m) (hx : X k = x) (hyes : S.testBit x = true) : ¬ IsDiff n m X := by
  intro h
  obtain ⟨j, hj, e⟩ := (hs x).1 hyes
  exact h.2 j k hj hk (by rw [e, hx])
theorem not_diff_range {n m k : Nat} {X : Nat → Int} (hk : k < m) (h : X k < 0 ∨ (n : Int) ≤ X k) : ¬ IsDiff n m X := by
  intro hd
  have := hd.1 k hk
  omega
end Go.Proofs.Ytlidobacehbecaa
