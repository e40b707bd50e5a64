/- Wants as sets, in plain mathematics. -/
import Derived.Test.YtnaegnjgpnakfaaDoorMem
namespace Go.Proofs.YtnaegnjgpnakfaaDoor
set_option linter.unusedVariables false
set_option linter.unusedSimpArgs false
open Go.RowKit

/-- The i-th one wants the thing of k. -/
def WantsB (W : Nat → Int) (i k : Nat) : Bool := (W i).toNat.testBit k
/-- A list is wants. -/
def IsWants (n : Nat) (W : Nat → Int) : Prop := (2 ≤ n ∧ n ≤ 6) ∧ ∀ i, i < n → 0 ≤ W i ∧ W i < (2 ^ n : Nat) ∧ WantsB W i i = false
theorem wants_top {n : Nat} (h : n ≤ 6) : wrap64 (wrap64 (2 ^ min n 64) - 1) = ((2 ^ n - 1 : Nat) : Int) := by
  rw [show min n 64 = n from by omega]
  have h1 := Nat.two_pow_pos n
  have h2 : 2 ^ n ≤ 2 ^ 6 := Nat.pow_le_pow_right (by omega) h
  rw [wrap_pow (show n < 62 by omega), IntWalk.wrap64_in _ (by omega)]
  omega
theorem IsWants.lt {n : Nat} {W : Nat → Int} (h : IsWants n W) {i : Nat} (hi : i < n) : 0 ≤ W i ∧ W i ≤ 63 := by
  have h1 := h.2 i hi
  have h2 : 2 ^ n ≤ 2 ^ 6 := Nat.pow_le_pow_right (by omega) h.1.2
  exact ⟨h1.1, by have := h1.2.1; omega⟩
/-- Nobody else is wanted. -/
theorem IsWants.bit {n : Nat} {W : Nat → Int} (h : IsWants n W) {i k : Nat} (hi : i < n) (hb : WantsB W i k = true) : k < n ∧ k ≠ i := by
  have h1 := h.2 i hi
  constructor
  · rcases Nat.lt_or_ge k n with h' | h'
    · exact h'
    · have h3 : (W i).toNat < 2 ^ k := Nat.lt_of_lt_of_le (by omega : (W i).toNat < 2 ^ n) (Nat.pow_le_pow_right (by omega) h')
      unfold WantsB at hb
      rw [Nat.testBit_lt_two_pow h3] at hb; cases hb
  · rintro rfl
    rw [h1.2.2] at hb; cases hb
/-- x isn't in the set? As the walk asks. -/
theorem bit_hasnt (S x : Nat) (hS : S < 2 ^ 62) : (bits .and .i64 ((S : Int) / 2 ^ x) 1 == 0) = !S.testBit x := by
  have e : ((S : Int) / 2 ^ x) = ((S / 2 ^ x : Nat) : Int) := by simp
  have hle : S / 2 ^ x ≤ S := Nat.div_le_self _ _
  rw [e, show (1 : Int) = ((1 : Nat) : Int) from rfl, bits_and_i64 _ _ (by omega) (by omega)]
  rw [Nat.testBit, Nat.shiftRight_eq_div_pow, Nat.and_comm 1]
  have h2 : S / 2 ^ x &&& 1 = 0 ∨ S / 2 ^ x &&& 1 = 1 := by rw [Nat.and_one_is_mod]; omega
  rcases h2 with h | h <;> rw [h] <;> rfl
/-- A list is a circle of wants. -/
def IsCirc (n : Nat) (W : Nat → Int) (m : Nat) (C : Nat → Int) : Prop :=
  IsDiff n m C ∧ (∀ i, 0 < i → i < m → C 0 < C i) ∧ (∀ i, i < m → WantsB W (C i).toNat (C ((i + 1) % m)).toNat = true) ∧ 2 ≤ m
/-- The set of the first k numbers of a list. -/
def setN (C : Nat → Int) : Nat → Nat
  | 0 => 0
  | k + 1 => setN C k ||| 2 ^ (C k).toNat
theorem setN_bit {C : Nat → Int} {y : Nat} : ∀ {k : Nat}, (∀ j, j < k → 0 ≤ C j) → ((setN C k).testBit y = true ↔ ∃ j, j < k ∧ C j = y)
  | 0, _ => by simp [setN]
  | k + 1, h => by
    have ih := setN_bit (C := C) (y := y) (k := k) fun j hj => h j (by omega)
    have h0 := h k (by omega)
    show (setN C k ||| 2 ^ (C k).toNat).testBit y = true ↔ _
    rw [bit_put_has, ih]
    constructor
    · rintro (⟨j, hj, e⟩ | e)
      · exact ⟨j, by omega, e⟩
      · exact ⟨k, by omega, by omega⟩
    · rintro ⟨j, hj, e⟩
      by_cases e1 : j = k
      · subst e1; right; omega
      · exact .inl ⟨j, by omega, e⟩
theorem setN_lt {C : Nat → Int} {n : Nat} : ∀ {k : Nat}, (∀ j, j < k → 0 ≤ C j ∧ C j < n) → setN C k < 2 ^ n
  | 0, _ => Nat.two_pow_pos n
  | k + 1, h => by
    have ih := setN_lt (C := C) (n := n) (k := k) fun j hj => h j (by omega)
    have h0 := h k (by omega)
    exact bit_put_lt ih (by omega)
/-- How many of the first k people take something. -/
def movedN (T : Nat → Int) : Nat → Nat
  | 0 => 0
  | k + 1 => movedN T k + if T k = k then 0 else 1
theorem movedN_le (T : Nat → Int) : ∀ k, movedN T k ≤ k
  | 0 => Nat.le_refl _
  | k + 1 => by
    have := movedN_le T k
    show movedN T k + (if T k = k then 0 else 1) ≤ k + 1
    by_cases e : T k = k
    · rw [if_pos e]; omega
    · rw [if_neg e]; omega
/-- One list of n numbers stands ahead of another one. -/
def LessP (n : Nat) (X Y : Nat → Int) : Prop := ∃ j, j < n ∧ (∀ i, i < j → X i = Y i) ∧ X j < Y j
end Go.Proofs.YtnaegnjgpnakfaaDoor
