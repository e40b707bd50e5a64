/- How many rounds gain, and the first of them. -/
import Derived.Test.YtmjbocgoinfamaaSpecRateIn
import Derived.Test.YtmjbocgoinfamaaL1Rounds
namespace Go.Proofs.Ytmjbocgoinfamaa
set_option linter.unusedVariables false
open Go.RowKit

/-- How many rounds gain. -/
noncomputable def gainN (n : Nat) (L : Nat → Nat) (Z : Nat → Nat → Int) : Nat := if tt (IsRates n L Z) = true then (gaining n Z).length else 0
theorem gainN_yes {n : Nat} {L : Nat → Nat} {Z : Nat → Nat → Int} (h : IsRates n L Z) : gainN n L Z = (gaining n Z).length := by unfold gainN; rw [tt_of h]; rfl
theorem gainN_no {n : Nat} {L : Nat → Nat} {Z : Nat → Nat → Int} (h : ¬ IsRates n L Z) : gainN n L Z = 0 := by unfold gainN; rw [tt_no h]; rfl
theorem making_len {tS B i : Nat} {w : World} {v : Value} {G Cp L : Nat → Nat} {X : Nat → Nat → Int} (h : Making tS B w v i G Cp L X) : ∃ a c, v = .slice a i c := by
  obtain ⟨_, (⟨h1, h2⟩ | ⟨g, cap, _, h1, _⟩)⟩ := h.1
  · exact ⟨none, 0, by rw [h1, h2]⟩
  · exact ⟨_, _, h1⟩

/-- The first round that gains; the empty list if there is none. -/
noncomputable def firstL (n : Nat) (L : Nat → Nat) (Z : Nat → Nat → Int) : List Int := if tt (IsRates n L Z) = true then (gaining n Z).getD 0 [] else []
theorem firstL_yes {n : Nat} {L : Nat → Nat} {Z : Nat → Nat → Int} (h : IsRates n L Z) : firstL n L Z = (gaining n Z).getD 0 [] := by unfold firstL; rw [tt_of h]; rfl
theorem firstL_no {n : Nat} {L : Nat → Nat} {Z : Nat → Nat → Int} (h : ¬ IsRates n L Z) : firstL n L Z = [] := by unfold firstL; rw [tt_no h]; rfl
theorem firstL_none {n : Nat} {L : Nat → Nat} {Z : Nat → Nat → Int} (h : IsRates n L Z) (h0 : (gaining n Z).length = 0) : firstL n L Z = [] := by
  rw [firstL_yes h, List.eq_nil_of_length_eq_zero h0]; rfl
theorem gaining_ring {n : Nat} {Z : Nat → Nat → Int} {D : List Int} (h : D ∈ gaining n Z) : Gains n Z D := by
  unfold gaining at h
  rw [List.mem_filter] at h
  exact tt_iff.1 h.2
theorem firstL_ring {n : Nat} {L : Nat → Nat} {Z : Nat → Nat → Int} (h : IsRates n L Z) (h0 : 0 < (gaining n Z).length) : Gains n Z (firstL n L Z) := by
  rw [firstL_yes h]
  refine gaining_ring ?_
  rw [List.getD_eq_getElem?_getD, List.getElem?_eq_getElem h0]
  exact List.getElem_mem h0
theorem firstL_le {n : Nat} {L : Nat → Nat} {Z : Nat → Nat → Int} : (firstL n L Z).length ≤ 1048576 := by
  by_cases h : IsRates n L Z
  · by_cases h0 : 0 < (gaining n Z).length
    · have h1 := (firstL_ring h h0).1.1.2.2
      have := h.1.2
      omega
    · rw [firstL_none h (by omega)]; simp
  · rw [firstL_no h]; simp
end Go.Proofs.Ytmjbocgoinfamaa
