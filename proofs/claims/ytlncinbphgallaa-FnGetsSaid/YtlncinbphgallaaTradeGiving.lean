/- What comes by trading in circles is a giving; the first circles. -/
import Derived.Test.YtlncinbphgallaaTradeEnds
namespace Go.Proofs.Ytlncinbphgallaa
set_option linter.unusedVariables false
open Go.RowKit

section
variable {n : Nat} {L : Nat → Nat} {Z : Nat → Nat → Int}
theorem gF_keep {s i : Nat} (h : circB Z n (tS Z n s) i = true) : ∀ t, s + 1 ≤ t → gF Z n t i = ptS Z n (tS Z n s) i := by
  intro t ht
  induction t with
  | zero => omega
  | succ t ih =>
    show (if circB Z n (tS Z n t) i = true then ptS Z n (tS Z n t) i else gF Z n t i) = _
    by_cases e : t = s
    · subst e; rw [if_pos h]
    · rw [if_neg (fun hc => by
        have h1 := tS_mono (s := s + 1) (by omega) (circB_in hc)
        rw [circB_gone h] at h1; cases h1)]
      exact ih (by omega)
theorem leaves {t i : Nat} (hi : i < n) (ht : tS Z n t i = false) : ∃ s, s < t ∧ circB Z n (tS Z n s) i = true := by
  induction t with
  | zero =>
    have : decide (i < n) = false := ht
    simp at this; omega
  | succ t ih =>
    by_cases e : tS Z n t i = false
    · obtain ⟨s, h1, h2⟩ := ih e
      exact ⟨s, by omega, h2⟩
    · have e' : tS Z n t i = true := by simpa using e
      refine ⟨t, by omega, ?_⟩
      have h2 : (tS Z n t i && !circB Z n (tS Z n t) i) = false := ht
      rw [e'] at h2
      simpa using h2
/-- When i leaves, and what i gets then. -/
theorem give_at (hW : IsWishes n L Z) {i : Nat} (hi : i < n) : ∃ s, circB Z n (tS Z n s) i = true ∧ giveF Z n i = (ptS Z n (tS Z n s) i : Nat) ∧ circB Z n (tS Z n s) (ptS Z n (tS Z n s) i) = true := by
  obtain ⟨hT, _, _⟩ := turns_is hW
  obtain ⟨s, h1, h2⟩ := leaves hi (hT.1 i)
  refine ⟨s, h2, ?_, circB_of (ptS_in hW (tS_ppl Z n s) (circB_in h2)) (circB_circ h2).step⟩
  unfold giveF
  rw [gF_keep h2 _ (by omega)]
theorem give_circ (hW : IsWishes n L Z) {s i : Nat} (hi : circB Z n (tS Z n s) i = true) : giveF Z n i = (ptS Z n (tS Z n s) i : Nat) := by
  obtain ⟨hT, _, _⟩ := turns_is hW
  have hs : s + 1 ≤ turnsN Z n := by
    rcases Nat.lt_or_ge s (turnsN Z n) with h | h
    · exact h
    · have := tS_mono h (circB_in hi)
      rw [hT.1 i] at this; cases this
  unfold giveF
  rw [gF_keep hi _ hs]
theorem circ_once {s t i : Nat} (h : circB Z n (tS Z n s) i = true) (k : circB Z n (tS Z n t) i = true) : s = t := by
  rcases Nat.lt_trichotomy s t with h1 | h1 | h1
  · have := tS_mono (s := s + 1) (by omega) (circB_in k)
    rw [circB_gone h] at this; cases this
  · exact h1
  · have := tS_mono (s := t + 1) (by omega) (circB_in h)
    rw [circB_gone k] at this; cases this
theorem give_range (hW : IsWishes n L Z) {i : Nat} (hi : i < n) : 0 ≤ giveF Z n i ∧ giveF Z n i < n := by
  obtain ⟨s, h1, h2, h3⟩ := give_at hW hi
  have := tS_ppl Z n s _ (circB_in h3)
  omega
theorem trade_giving (hW : IsWishes n L Z) : IsDiff n n (giveF Z n) := by
  refine ⟨fun i hi => give_range hW hi, fun i j hij hj e => ?_⟩
  obtain ⟨s, h1, h2, h3⟩ := give_at hW (show i < n by omega)
  obtain ⟨t, k1, k2, k3⟩ := give_at hW hj
  have e2 : ptS Z n (tS Z n s) i = ptS Z n (tS Z n t) j := by omega
  rw [e2] at h3
  obtain rfl := circ_once h3 k3
  have := (circB_circ h1).inj (circB_circ k1) e2
  omega
/-- When all are there, one points at the first house of the list. -/
theorem ptS_first (hW : IsWishes n L Z) {i : Nat} (hi : i < n) : ((ptS Z n (tS Z n 0) i : Nat) : Int) = Z i 0 := by
  have h0 := (hW.2 i hi).2.1 0 (by omega)
  have : ptS Z n (tS Z n 0) i = (Z i 0).toNat := by
    unfold ptS
    exact ptN_first (k := 0) (fun j hj => absurd hj (Nat.not_lt_zero _)) (by show decide ((Z i 0).toNat < n) = true; simp; omega) (by omega)
  omega
/-- Those on the first circles get what they like best. -/
theorem first_best (hW : IsWishes n L Z) {i : Nat} (h : circB Z n (tS Z n 0) i = true) : giveF Z n i = Z i 0 := by
  rw [give_circ hW h, ptS_first hW (tS_ppl Z n 0 i (circB_in h))]
theorem turns_one (hW : IsWishes n L Z) : turnsN Z n = 1 ↔ ∀ i, i < n → circB Z n (tS Z n 0) i = true := by
  constructor
  · intro h i hi
    obtain ⟨hT, _, _⟩ := turns_is hW
    rw [h] at hT
    obtain ⟨s, h1, h2⟩ := leaves hi (hT.1 i)
    obtain rfl : s = 0 := by omega
    exact h2
  · intro h
    refine turnsN_of ⟨fun y => ?_, fun s hs => ?_⟩
    · cases e : tS Z n 1 y
      · rfl
      · have h1 := tS_ppl Z n 1 y e
        rw [circB_gone (h y h1)] at e; cases e
    · obtain rfl : s = 0 := by omega
      exact ⟨0, by show decide (0 < n) = true; have := hW.1.1; simp; omega⟩
/-- If all like different houses best, all are on the first circles. -/
theorem all_circ (hW : IsWishes n L Z) (h : ∀ y : Nat, y < n → ∃ i, i < n ∧ Z i 0 = y) {i : Nat} (hi : i < n) : circB Z n (tS Z n 0) i = true := by
  rw [circB_image hW (tS_ppl Z n 0)]
  have hs : ∀ k y, y < n → ∃ j, j < n ∧ it (ptS Z n (tS Z n 0)) k j = y := by
    intro k
    induction k with
    | zero => intro y hy; exact ⟨y, hy, rfl⟩
    | succ k ih =>
      intro y hy
      obtain ⟨x, hx, e⟩ := h y hy
      obtain ⟨j, hj, e2⟩ := ih x hx
      refine ⟨j, hj, ?_⟩
      show ptS Z n (tS Z n 0) (it (ptS Z n (tS Z n 0)) k j) = y
      have := ptS_first hW hx
      rw [e2]; omega
  obtain ⟨j, hj, e⟩ := hs n i hi
  exact ⟨j, by show decide (j < n) = true; simpa using hj, e⟩
theorem circleF_bit {i : Nat} (Z : Nat → Nat → Int) (n : Nat) : (maskN (circB Z n (tS Z n 0)) n).testBit i = circB Z n (tS Z n 0) i := (maskN_is (circB_ppl Z (tS_ppl Z n 0))).2 i
theorem circle_pos (hW : IsWishes n L Z) : 0 < maskN (circB Z n (tS Z n 0)) n := by
  obtain ⟨z, hz⟩ := circB_some hW (tS_ppl Z n 0) (show tS Z n 0 0 = true by show decide (0 < n) = true; have := hW.1.1; simp; omega)
  rcases Nat.eq_zero_or_pos (maskN (circB Z n (tS Z n 0)) n) with h | h
  · have := circleF_bit (i := z) Z n
    rw [h, hz] at this; simp at this
  · exact h
theorem circle_full (hW : IsWishes n L Z) : maskN (circB Z n (tS Z n 0)) n = 2 ^ n - 1 ↔ turnsN Z n = 1 := by
  rw [turns_one hW]
  constructor
  · intro h i hi
    have := circleF_bit (i := i) Z n
    rw [h, Nat.testBit_two_pow_sub_one] at this
    rw [← this]; simpa using hi
  · intro h
    refine Nat.eq_of_testBit_eq fun y => ?_
    rw [circleF_bit, Nat.testBit_two_pow_sub_one]
    by_cases hy : y < n
    · rw [h y hy]; simp [hy]
    · cases e : circB Z n (tS Z n 0) y
      · simp [hy]
      · exact absurd (tS_ppl Z n 0 y (circB_in e)) hy
end
end Go.Proofs.Ytlncinbphgallaa
