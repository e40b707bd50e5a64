/- The table that prices fit, in plain mathematics. -/
import Derived.Test.YtakipaehoeapcaaSize
import Derived.Test.YtakipaehoeapcaaMem
namespace Go.Proofs.Ytakipaehoeapcaa
set_option linter.unusedVariables false
open Go.RowKit

/-- Each price twelve times is divided by each. -/
def Divs (n : Nat) (W : Nat → Int) : Prop := ∀ i, i < n → ∀ k, k < n → 12 * W i % W k = 0
/-- What a unit gives. -/
def quoP (W : Nat → Int) (i k : Nat) : Int := 12 * W i / W k
/-- .. as an array; i rows and k numbers of the next one are there. -/
def partQ (n : Nat) (W : Nat → Int) (i k j : Nat) : Int := if (j / 5 < i ∨ j / 5 = i ∧ j % 5 < k) ∧ j % 5 < n then quoP W (j / 5) (j % 5) else 0

theorem partQ_step {n i k : Nat} {W : Nat → Int} (hk : k < n) (hn : n ≤ 5) (j : Nat) : (if j = i * 5 + k then quoP W i k else partQ n W i k j) = partQ n W i (k + 1) j := by
  unfold partQ
  by_cases e : j = i * 5 + k
  · have e1 : j / 5 = i := by omega
    have e2 : j % 5 = k := by omega
    rw [if_pos e, e1, e2, if_pos (by omega)]
  · rw [if_neg e]
    by_cases h : (j / 5 < i ∨ j / 5 = i ∧ j % 5 < k) ∧ j % 5 < n
    · rw [if_pos h, if_pos (by omega)]
    · rw [if_neg h, if_neg (by omega)]
theorem partQ_row {n i : Nat} {W : Nat → Int} (j : Nat) : partQ n W i n j = partQ n W (i + 1) 0 j := by
  unfold partQ
  by_cases h : (j / 5 < i ∨ j / 5 = i ∧ j % 5 < n) ∧ j % 5 < n
  · rw [if_pos h, if_pos (by omega)]
  · rw [if_neg h, if_neg (by omega)]
theorem partQ_zero {n : Nat} {W : Nat → Int} (j : Nat) : 0 = partQ n W 0 0 j := by
  unfold partQ; rw [if_neg (by omega)]

/-- The array: all 0 where there is none. -/
noncomputable def tabQ (n : Nat) (W : Nat → Int) (j : Nat) : Int := if tt (Divs n W) = true then partQ n W n 0 j else 0
theorem tabQ_yes {n : Nat} {W : Nat → Int} (h : tt (Divs n W) = true) (j : Nat) : tabQ n W j = partQ n W n 0 j := by unfold tabQ; rw [if_pos h]
theorem tabQ_no {n : Nat} {W : Nat → Int} (h : tt (Divs n W) = false) (j : Nat) : tabQ n W j = 0 := by unfold tabQ; rw [h]; rfl
theorem quo_iff {z x y : Int} (hy : 1 ≤ y) : z * y = 12 * x ↔ 12 * x % y = 0 ∧ 12 * x / y = z := by
  constructor
  · intro h
    rw [← h]
    exact ⟨Int.mul_emod_left _ _, Int.mul_ediv_cancel _ (by omega)⟩
  · rintro ⟨h1, h2⟩
    rw [← h2]
    exact Int.ediv_mul_cancel (Int.dvd_of_emod_eq_zero h1)

/-- There is a table that the prices fit. -/
def TableOk (m : Nat) (W : Nat → Int) : Prop := IsPrices m W ∧ Divs m W
noncomputable def tableN (m : Nat) (W : Nat → Int) : Nat := if tt (TableOk m W) = true then m else 0
theorem tableN_yes {m : Nat} {W : Nat → Int} (h : TableOk m W) : tableN m W = m := by unfold tableN; rw [tt_of h]; rfl
theorem tableN_no {m : Nat} {W : Nat → Int} (h : ¬ TableOk m W) : tableN m W = 0 := by unfold tableN; rw [tt_no h]; rfl
theorem tableN_le (m : Nat) (W : Nat → Int) : tableN m W ≤ 5 := by
  by_cases h : TableOk m W
  · rw [tableN_yes h]; exact h.1.1.2
  · rw [tableN_no h]; omega

theorem quoP_range {m : Nat} {W : Nat → Int} (h : TableOk m W) {i k : Nat} (hi : i < m) (hk : k < m) : 1 ≤ quoP W i k ∧ quoP W i k ≤ 144 := by
  have hwi := (h.1.2 i hi).1
  have hwk := (h.1.2 k hk).1
  have h1 : quoP W i k * W k = 12 * W i := (quo_iff hwk).2 ⟨h.2 i hi k hk, rfl⟩
  have h2 : quoP W k i * W i = 12 * W k := (quo_iff hwi).2 ⟨h.2 k hk i hi, rfl⟩
  generalize quoP W i k = x at h1 ⊢
  generalize quoP W k i = y at h2
  have hx : 1 ≤ x := by
    rcases Int.lt_or_le x 1 with h' | h'
    · have : x * W k ≤ 0 := Int.mul_nonpos_of_nonpos_of_nonneg (by omega) (by omega)
      omega
    · exact h'
  have hy : 1 ≤ y := by
    rcases Int.lt_or_le y 1 with h' | h'
    · have : y * W i ≤ 0 := Int.mul_nonpos_of_nonpos_of_nonneg (by omega) (by omega)
      omega
    · exact h'
  have h3 : (x * y) * W i = 144 * W i := by
    rw [Int.mul_assoc, h2, ← Int.mul_assoc, Int.mul_comm x 12, Int.mul_assoc, h1]; omega
  have h4 : x * y = 144 := Int.eq_of_mul_eq_mul_right (by omega) h3
  have h5 : x * 1 ≤ x * y := Int.mul_le_mul_of_nonneg_left hy (by omega)
  exact ⟨hx, by omega⟩

theorem atF_tabQ {m : Nat} {W : Nat → Int} (h : TableOk m W) {i k : Nat} (hi : i < 5) (hk : k < 5) : atF (tabQ m W) i k = if i < m ∧ k < m then quoP W i k else 0 := by
  have e1 : (i * 5 + k) / 5 = i := by omega
  have e2 : (i * 5 + k) % 5 = k := by omega
  unfold atF
  rw [tabQ_yes (tt_of h.2)]
  unfold partQ
  rw [e1, e2]
  by_cases hin : i < m ∧ k < m
  · rw [if_pos (by omega), if_pos hin]
  · rw [if_neg (by omega), if_neg hin]

theorem Kept.table {m : Nat} {W : Nat → Int} (h : TableOk m W) : Kept m (tabQ m W) := by
  have h5 := h.1.1.2
  refine ⟨h5, fun i hi => ?_, fun hn => ?_, fun i k hi hk => ?_⟩
  · rw [atF_tabQ h (by omega) (by omega), if_pos ⟨hi, hi⟩]
    have := (quoP_range h hi hi).1
    omega
  · rw [atF_tabQ h (by omega) (by omega), if_neg (by omega)]
  · rw [atF_tabQ h (by omega) (by omega), if_pos ⟨hi, hk⟩]
    have := quoP_range h hi hk
    omega
theorem table_small (m : Nat) (W : Nat → Int) : tableN m W ≤ 1048576 ∧ tot (fun _ => m) (tableN m W) ≤ 1048576 := by
  by_cases h : TableOk m W
  · rw [tableN_yes h, tot_same]
    have := h.1.1.2
    have h2 : m * m ≤ 5 * 5 := Nat.mul_le_mul this this
    omega
  · rw [tableN_no h]; simp [tot]
end Go.Proofs.Ytakipaehoeapcaa
