/- The welcome swaps, in their order, in plain mathematics. -/
import Derived.Test.YtgjegpponchdaaaDoorWishes
namespace Go.Proofs.YtgjegpponchdaaaDoor
set_option linter.unusedVariables false
set_option linter.unusedSimpArgs false
open Go.RowKit

/-- The welcome swaps of i with those below k, greater ones alone. -/
noncomputable def rowMay (n : Nat) (Z : Nat → Nat → Int) (G : Nat → Int) (i k : Nat) : List (Nat × Nat) := ((List.range k).filter fun j => tt (i < j ∧ MayP n Z G i j)).map fun j => (i, j)
/-- The welcome swaps whose lesser one is below i. -/
noncomputable def mayTo (n : Nat) (Z : Nat → Nat → Int) (G : Nat → Int) (i : Nat) : List (Nat × Nat) := (List.range i).flatMap fun r => rowMay n Z G r n
noncomputable def mayL (n : Nat) (Z : Nat → Nat → Int) (G : Nat → Int) : List (Nat × Nat) := mayTo n Z G n

theorem rowMay_yes {n i k : Nat} {Z : Nat → Nat → Int} {G : Nat → Int} (h : i < k ∧ MayP n Z G i k) : rowMay n Z G i (k + 1) = rowMay n Z G i k ++ [(i, k)] := by
  unfold rowMay
  rw [List.range_succ, List.filter_append, List.map_append]
  simp [tt_of h]
theorem rowMay_no {n i k : Nat} {Z : Nat → Nat → Int} {G : Nat → Int} (h : ¬ (i < k ∧ MayP n Z G i k)) : rowMay n Z G i (k + 1) = rowMay n Z G i k := by
  unfold rowMay
  rw [List.range_succ, List.filter_append, List.map_append]
  simp [tt_no h]
theorem rowMay_low {n i : Nat} {Z : Nat → Nat → Int} {G : Nat → Int} : ∀ {k : Nat}, k ≤ i + 1 → rowMay n Z G i k = []
  | 0, _ => rfl
  | k + 1, h => by rw [rowMay_no (fun h' => by have := h'.1; omega), rowMay_low (by omega)]
theorem mayTo_zero (n : Nat) (Z : Nat → Nat → Int) (G : Nat → Int) : mayTo n Z G 0 = [] := rfl
theorem mayTo_succ (n : Nat) (Z : Nat → Nat → Int) (G : Nat → Int) (i : Nat) : mayTo n Z G (i + 1) = mayTo n Z G i ++ rowMay n Z G i n := by
  unfold mayTo
  rw [List.range_succ, List.flatMap_append]
  simp
theorem rowMay_front {n i k m : Nat} {Z : Nat → Nat → Int} {G : Nat → Int} (h : k ≤ m) : rowMay n Z G i k <+: rowMay n Z G i m := by
  induction m with
  | zero => have : k = 0 := by omega
            subst this; exact List.prefix_refl _
  | succ m ih =>
    by_cases e : k = m + 1
    · subst e; exact List.prefix_refl _
    · have h1 := ih (by omega)
      by_cases hn : i < m ∧ MayP n Z G i m
      · rw [rowMay_yes hn]; exact h1.trans (List.prefix_append _ _)
      · rw [rowMay_no hn]; exact h1
theorem mayTo_front {n i m : Nat} {Z : Nat → Nat → Int} {G : Nat → Int} (h : i ≤ m) : mayTo n Z G i <+: mayTo n Z G m := by
  induction m with
  | zero => have : i = 0 := by omega
            subst this; exact List.prefix_refl _
  | succ m ih =>
    by_cases e : i = m + 1
    · subst e; exact List.prefix_refl _
    · rw [mayTo_succ]; exact (ih (by omega)).trans (List.prefix_append _ _)
theorem may_front {n i k : Nat} {Z : Nat → Nat → Int} {G : Nat → Int} (hi : i < n) (hk : k ≤ n) : mayTo n Z G i ++ rowMay n Z G i k <+: mayL n Z G := by
  have h1 : mayTo n Z G i ++ rowMay n Z G i k <+: mayTo n Z G (i + 1) := by
    rw [mayTo_succ]; exact (List.prefix_append_right_inj _).2 (rowMay_front hk)
  exact h1.trans (mayTo_front (by omega))
theorem mem_rowMay {n i k : Nat} {Z : Nat → Nat → Int} {G : Nat → Int} {p : Nat × Nat} : p ∈ rowMay n Z G i k ↔ p.1 = i ∧ i < p.2 ∧ p.2 < k ∧ MayP n Z G i p.2 := by
  unfold rowMay
  rw [List.mem_map]
  constructor
  · rintro ⟨j, hj, rfl⟩
    rw [List.mem_filter, List.mem_range] at hj
    have := tt_iff.1 hj.2
    exact ⟨rfl, this.1, hj.1, this.2⟩
  · rintro ⟨rfl, h1, h2, h3⟩
    exact ⟨p.2, List.mem_filter.2 ⟨List.mem_range.2 h2, tt_of ⟨h1, h3⟩⟩, rfl⟩
theorem mem_mayL {n : Nat} {Z : Nat → Nat → Int} {G : Nat → Int} {p : Nat × Nat} : p ∈ mayL n Z G ↔ p.1 < p.2 ∧ p.2 < n ∧ MayP n Z G p.1 p.2 := by
  unfold mayL mayTo
  rw [List.mem_flatMap]
  constructor
  · rintro ⟨r, hr, h⟩
    obtain ⟨rfl, h1, h2, h3⟩ := mem_rowMay.1 h
    exact ⟨h1, h2, h3⟩
  · rintro ⟨h1, h2, h3⟩
    exact ⟨p.1, List.mem_range.2 (by omega), mem_rowMay.2 ⟨rfl, h1, h2, h3⟩⟩
theorem rowMay_le (n : Nat) (Z : Nat → Nat → Int) (G : Nat → Int) (i k : Nat) : (rowMay n Z G i k).length ≤ k := by
  unfold rowMay
  rw [List.length_map]
  exact Nat.le_trans (List.length_filter_le _ _) (by simp)
theorem mayTo_le (n : Nat) (Z : Nat → Nat → Int) (G : Nat → Int) : ∀ i, (mayTo n Z G i).length ≤ i * n
  | 0 => by simp [mayTo]
  | i + 1 => by
    have := mayTo_le n Z G i
    have := rowMay_le n Z G i n
    rw [mayTo_succ, List.length_append, Nat.succ_mul]; omega
theorem mayL_le {n : Nat} {Z : Nat → Nat → Int} {G : Nat → Int} (hn : n ≤ 5) : (mayL n Z G).length ≤ 25 := by
  have h1 := mayTo_le n Z G n
  have h2 := Nat.mul_le_mul hn hn
  exact Nat.le_trans h1 h2
/-- No swap is welcome. -/
def StillP (n : Nat) (Z : Nat → Nat → Int) (G : Nat → Int) : Prop := ∀ i k, i < n → k < n → ¬ MayP n Z G i k
theorem mayL_nil {n : Nat} {Z : Nat → Nat → Int} {G : Nat → Int} : mayL n Z G = [] ↔ StillP n Z G := by
  rw [List.eq_nil_iff_forall_not_mem]
  constructor
  · intro h i k hi hk hm
    have hne := may_ne hm
    by_cases hlt : i < k
    · exact h (i, k) (mem_mayL.2 ⟨hlt, hk, hm⟩)
    · exact h (k, i) (mem_mayL.2 ⟨by omega, hi, may_symm.1 hm⟩)
  · intro h p hp
    obtain ⟨h1, h2, h3⟩ := mem_mayL.1 hp
    exact h _ _ (by omega) h2 h3
/-- Pairs as lists of two. -/
def pairsL (P : List (Nat × Nat)) : List (List Int) := P.map fun p => [(p.1 : Int), (p.2 : Int)]
theorem pairsL_length (P : List (Nat × Nat)) : (pairsL P).length = P.length := List.length_map _
theorem pairsL_snoc (P : List (Nat × Nat)) (i k : Nat) : pairsL (P ++ [(i, k)]) = pairsL P ++ [[(i : Int), (k : Int)]] := by unfold pairsL; rw [List.map_append]; rfl
/-- What SwapAll tells. -/
noncomputable def allL (n : Nat) (L : Nat → Nat) (Z : Nat → Nat → Int) (m : Nat) (G : Nat → Int) : List (List Int) := if tt (GivenOk n L Z m G) = true then pairsL (mayL n Z G) else []
theorem allL_yes {n m : Nat} {L : Nat → Nat} {Z : Nat → Nat → Int} {G : Nat → Int} (h : GivenOk n L Z m G) : allL n L Z m G = pairsL (mayL n Z G) := by unfold allL; rw [tt_of h]; rfl
theorem allL_no {n m : Nat} {L : Nat → Nat} {Z : Nat → Nat → Int} {G : Nat → Int} (h : ¬ GivenOk n L Z m G) : allL n L Z m G = [] := by unfold allL; rw [tt_no h]; rfl
def StillOk (n : Nat) (L : Nat → Nat) (Z : Nat → Nat → Int) (m : Nat) (G : Nat → Int) : Prop := GivenOk n L Z m G ∧ StillP n Z G
end Go.Proofs.YtgjegpponchdaaaDoor
