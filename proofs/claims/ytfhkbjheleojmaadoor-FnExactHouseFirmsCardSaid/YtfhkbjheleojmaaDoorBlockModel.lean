/- Sets that block a giving, in plain mathematics: what the program's search finds. -/
import Derived.Test.YtfhkbjheleojmaaDoorSwapModel
namespace Go.Proofs.YtfhkbjheleojmaaDoor
set_option linter.unusedVariables false
set_option linter.unusedSimpArgs false
open Go.RowKit

/-- May the people of S be given different houses of H, none liked less than what G gives, and one better (or b)? -/
def ImpP (n : Nat) (Z : Nat → Nat → Int) (G : Nat → Int) (S H : Nat) (b : Bool) : Prop :=
  ∃ h : Nat → Nat, (∀ i, S.testBit i = true → H.testBit (h i) = true ∧ idxF (Z i) (h i : Nat) n ≤ idxF (Z i) (G i) n) ∧
    (∀ i j, S.testBit i = true → S.testBit j = true → h i = h j → i = j) ∧ (b = true ∨ ∃ i, S.testBit i = true ∧ ((h i : Nat) : Int) ≠ G i)
theorem impP_zero {n : Nat} {Z : Nat → Nat → Int} {G : Nat → Int} {H : Nat} {b : Bool} : ImpP n Z G 0 H b ↔ b = true := by
  constructor
  · rintro ⟨h, _, _, (h3 | ⟨i, hi, _⟩)⟩
    · exact h3
    · simp at hi
  · intro hb
    exact ⟨fun i => i, fun i hi => by simp at hi, fun i j hi => by simp at hi, .inl hb⟩
/-- One of them takes a house. -/
theorem impP_take {n p x : Nat} {Z : Nat → Nat → Int} {G : Nat → Int} {S H S' H' : Nat} {b : Bool} (hp : S.testBit p = true) (hx : H.testBit x = true) (hS : ∀ y, S'.testBit y = (S.testBit y && !decide (y = p))) (hH : ∀ y, H'.testBit y = (H.testBit y && !decide (y = x)))
    (hle : idxF (Z p) (x : Nat) n ≤ idxF (Z p) (G p) n) (h : ImpP n Z G S' H' (b || !(decide ((x : Int) = G p)))) : ImpP n Z G S H b := by
  obtain ⟨h, h1, h2, h3⟩ := h
  have hS1 : ∀ i, i ≠ p → S.testBit i = true → S'.testBit i = true := fun i hi hs => by rw [hS, hs]; simp [hi]
  refine ⟨fun i => if i = p then x else h i, fun i hi => ?_, fun i j hi hj e => ?_, ?_⟩
  · dsimp only
    by_cases e : i = p
    · subst e; rw [if_pos rfl]; exact ⟨hx, hle⟩
    · rw [if_neg e]
      obtain ⟨k1, k2⟩ := h1 i (hS1 i e hi)
      rw [hH] at k1
      exact ⟨by simp at k1; exact k1.1, k2⟩
  · dsimp only at e
    have hne : ∀ i, i ≠ p → S.testBit i = true → h i ≠ x := fun i e hi he => by
      have := (h1 i (hS1 i e hi)).1
      rw [hH, he] at this
      simp at this
    by_cases e1 : i = p
    · by_cases e2 : j = p
      · rw [e1, e2]
      · rw [if_pos e1, if_neg e2] at e
        exact absurd e.symm (hne j e2 hj)
    · by_cases e2 : j = p
      · rw [if_neg e1, if_pos e2] at e
        exact absurd e (hne i e1 hi)
      · rw [if_neg e1, if_neg e2] at e
        exact h2 i j (hS1 i e1 hi) (hS1 j e2 hj) e
  · rcases h3 with h3 | ⟨i, hi, hne⟩
    · rw [Bool.or_eq_true] at h3
      rcases h3 with h3 | h3
      · exact .inl h3
      · exact .inr ⟨p, hp, by dsimp only; rw [if_pos rfl]; simpa using h3⟩
    · rw [hS] at hi
      simp only [Bool.and_eq_true, Bool.not_eq_true', decide_eq_false_iff_not] at hi
      exact .inr ⟨i, hi.1, by dsimp only; rw [if_neg hi.2]; exact hne⟩
/-- .. and there is no other way. -/
theorem impP_some {n p : Nat} {Z : Nat → Nat → Int} {G : Nat → Int} {S H : Nat} {b : Bool} (hp : S.testBit p = true) (h : ImpP n Z G S H b) :
    ∃ x, H.testBit x = true ∧ idxF (Z p) (x : Nat) n ≤ idxF (Z p) (G p) n ∧ ∀ S' H', (∀ y, S'.testBit y = (S.testBit y && !decide (y = p))) → (∀ y, H'.testBit y = (H.testBit y && !decide (y = x))) → ImpP n Z G S' H' (b || !(decide ((x : Int) = G p))) := by
  obtain ⟨h, h1, h2, h3⟩ := h
  refine ⟨h p, (h1 p hp).1, (h1 p hp).2, fun S' H' hS hH => ?_⟩
  have hS1 : ∀ i, S'.testBit i = true → S.testBit i = true ∧ i ≠ p := fun i hi => by
    rw [hS] at hi
    simpa using hi
  refine ⟨h, fun i hi => ?_, fun i j hi hj e => h2 i j (hS1 i hi).1 (hS1 j hj).1 e, ?_⟩
  · obtain ⟨k1, k2⟩ := h1 i (hS1 i hi).1
    refine ⟨?_, k2⟩
    rw [hH, k1]
    have : h i ≠ h p := fun e => (hS1 i hi).2 (h2 i p (hS1 i hi).1 hp e)
    simp [this]
  · rcases h3 with h3 | ⟨i, hi, hne⟩
    · left; rw [h3]; rfl
    · by_cases e : i = p
      · left; subst e
        simp [hne]
      · right
        exact ⟨i, by rw [hS, hi]; simp [e], hne⟩
theorem bit_lt {S i n : Nat} (hS : S < 2 ^ n) (h : S.testBit i = true) : i < n := by
  rcases Nat.lt_or_ge i n with h' | h'
  · exact h'
  · have : S < 2 ^ i := Nat.lt_of_lt_of_le hS (Nat.pow_le_pow_right (by omega) h')
    rw [Nat.testBit_lt_two_pow this] at h; cases h
/-- A set without one. -/
theorem without {S p : Nat} (h : S.testBit p = true) : ∀ y, (S ^^^ 2 ^ p).testBit y = (S.testBit y && !decide (y = p)) := fun y => by
  rw [Nat.testBit_xor, Nat.testBit_two_pow]
  by_cases e : y = p
  · subst e; simp [h]
  · have : ¬ p = y := fun h => e h.symm
    simp [e, this]
/-- Where a number stands in a list of all. -/
theorem idx_diff {n j : Nat} {X : Nat → Int} (hd : IsDiff n n X) (hj : j < n) : idxF X (X j) n = j := idxF_some (fun i hi e => hd.2 i j hi hj e) rfl hj
/-- This house has been tried for p, and it won't do. -/
def Tried (n : Nat) (Z : Nat → Nat → Int) (G : Nat → Int) (S H : Nat) (b : Bool) (p x : Nat) : Prop :=
  ∀ S' H', (∀ y, S'.testBit y = (S.testBit y && !decide (y = p))) → (∀ y, H'.testBit y = (H.testBit y && !decide (y = x))) → H.testBit x = true → ¬ ImpP n Z G S' H' (b || !(decide ((x : Int) = G p)))
theorem tried_no {n p x : Nat} {Z : Nat → Nat → Int} {G : Nat → Int} {S H : Nat} {b : Bool} (h : H.testBit x = false) : Tried n Z G S H b p x := fun S' H' _ _ hx => by rw [h] at hx; cases hx
theorem tried_of {n p x : Nat} {Z : Nat → Nat → Int} {G : Nat → Int} {S H S1 H1 : Nat} {b : Bool} (hS : ∀ y, S1.testBit y = (S.testBit y && !decide (y = p))) (hH : ∀ y, H1.testBit y = (H.testBit y && !decide (y = x))) (h : ¬ ImpP n Z G S1 H1 (b || !(decide ((x : Int) = G p)))) : Tried n Z G S H b p x := fun S' H' hS' hH' _ => by
  have e1 : S' = S1 := Nat.eq_of_testBit_eq fun y => by rw [hS' y, hS y]
  have e2 : H' = H1 := Nat.eq_of_testBit_eq fun y => by rw [hH' y, hH y]
  rw [e1, e2]; exact h
theorem no_imp {n p k : Nat} {Z : Nat → Nat → Int} {G : Nat → Int} {S H : Nat} {b : Bool} (hp : S.testBit p = true) (hH : H < 2 ^ n) (hd : IsDiff n n (Z p)) (hk : k ≤ n) (hF : ∀ j, j < k → Tried n Z G S H b p (Z p j).toNat)
    (hlast : k = n ∨ ∃ j, j + 1 = k ∧ Z p j = G p) : ¬ ImpP n Z G S H b := by
  intro h
  obtain ⟨x, hx, hle, hall⟩ := impP_some hp h
  have hxn := bit_lt hH hx
  obtain ⟨j, hj, hjx⟩ := hd.all hxn
  have hjk : j < k := by
    rcases hlast with rfl | ⟨j0, h0, e0⟩
    · exact hj
    · rw [← e0, idx_diff hd (show j0 < n by omega), ← hjx, idx_diff hd hj] at hle
      omega
  have e : (Z p j).toNat = x := by rw [hjx]; rfl
  have ht := hF j hjk
  rw [e] at ht
  exact ht _ _ (without hp) (without hx) hx (hall _ _ (without hp) (without hx))
/-- A set of people blocks a giving: some other giving gives them their own houses, none of them less, one of them better. -/
def BlocksP (n : Nat) (Z : Nat → Nat → Int) (G : Nat → Int) (S : Nat) : Prop := ImpP n Z G S S false
/-- No set of people blocks a giving. -/
def FirmP (n : Nat) (Z : Nat → Nat → Int) (G : Nat → Int) : Prop := ∀ S, 1 ≤ S → S < 2 ^ n → ¬ BlocksP n Z G S
theorem blocks_pos {n : Nat} {Z : Nat → Nat → Int} {G : Nat → Int} : ¬ BlocksP n Z G 0 := fun h => by
  have := impP_zero.1 h
  cases this
def BlocksOk (n : Nat) (L : Nat → Nat) (Z : Nat → Nat → Int) (m : Nat) (G : Nat → Int) (x : Int) : Prop := GivenOk n L Z m G ∧ InR x 0 ((2 ^ n : Nat) - 1) ∧ BlocksP n Z G x.toNat
def FirmOk (n : Nat) (L : Nat → Nat) (Z : Nat → Nat → Int) (m : Nat) (G : Nat → Int) : Prop := GivenOk n L Z m G ∧ FirmP n Z G
end Go.Proofs.YtfhkbjheleojmaaDoor
