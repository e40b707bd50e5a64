/- The givings that are firm, in plain mathematics. -/
import Derived.Test.YtfhkbjheleojmaaDoorBlockModel
import Derived.Test.YtfhkbjheleojmaaDoorGivsModel
namespace Go.Proofs.YtfhkbjheleojmaaDoor
set_option linter.unusedVariables false
set_option linter.unusedSimpArgs false
open Go.RowKit

/-- Those of a list that are firm. -/
noncomputable def firmsL (n : Nat) (Z : Nat → Nat → Int) (LL : List (List Int)) : List (List Int) := LL.filter fun D => tt (FirmP n Z (nth D))
theorem firmsL_yes {n : Nat} {Z : Nat → Nat → Int} {A : List (List Int)} {D : List Int} (h : FirmP n Z (nth D)) : firmsL n Z (A ++ [D]) = firmsL n Z A ++ [D] := by
  unfold firmsL
  rw [List.filter_append]
  simp [tt_of h]
theorem firmsL_no {n : Nat} {Z : Nat → Nat → Int} {A : List (List Int)} {D : List Int} (h : ¬ FirmP n Z (nth D)) : firmsL n Z (A ++ [D]) = firmsL n Z A := by
  unfold firmsL
  rw [List.filter_append]
  simp [tt_no h]
theorem firmsL_le (n : Nat) (Z : Nat → Nat → Int) (LL : List (List Int)) : (firmsL n Z LL).length ≤ LL.length := List.length_filter_le _ _
/-- What HouseFirms answers. -/
noncomputable def firmsAll (n : Nat) (L : Nat → Nat) (Z : Nat → Nat → Int) : List (List Int) := if tt (IsWishes n L Z) = true then firmsL n Z (givs n n []) else []
theorem firmsAll_yes {n : Nat} {L : Nat → Nat} {Z : Nat → Nat → Int} (h : IsWishes n L Z) : firmsAll n L Z = firmsL n Z (givs n n []) := by unfold firmsAll; rw [tt_of h]; rfl
theorem firmsAll_no {n : Nat} {L : Nat → Nat} {Z : Nat → Nat → Int} (h : ¬ IsWishes n L Z) : firmsAll n L Z = [] := by unfold firmsAll; rw [tt_no h]; rfl
theorem givsN_le {n : Nat} (hn : n ≤ 5) : (givs n n []).length ≤ 7776 := Nat.le_trans (givs_le hn n []) (Nat.pow_le_pow_right (show 0 < 6 by omega) hn)
theorem givsN_given {n : Nat} {L : Nat → Nat} {Z : Nat → Nat → Int} {D : List Int} (h : IsWishes n L Z) (hD : D ∈ givs n n []) : GivenOk n L Z n (nth D) := by
  have h1 := (mem_givs n [] (Diff.nil n) (by simp) D).1 hD
  have h2 := h1.1
  unfold Diff at h2
  rw [h1.2.1] at h2
  exact ⟨h, rfl, fun j hj => by have := h2.1 j hj; exact ⟨this.1, by omega⟩, h2.2⟩
theorem firms_small (n : Nat) (L : Nat → Nat) (Z : Nat → Nat → Int) : (firmsAll n L Z).length ≤ 1048576 ∧ tot (lenL (firmsAll n L Z)) (firmsAll n L Z).length ≤ 1048576 := by
  have htot : ∀ (M : Nat → Nat) (B k : Nat), (∀ r, r < k → M r ≤ B) → tot M k ≤ k * B := by
    intro M B k h
    induction k with
    | zero => simp [tot]
    | succ k ih =>
      have h1 := ih (fun r hr => h r (by omega))
      have h2 := h k (by omega)
      show tot M k + M k ≤ (k + 1) * B
      rw [Nat.succ_mul]; omega
  by_cases h : IsWishes n L Z
  · rw [firmsAll_yes h]
    have hn5 := h.1.2
    have h1 := Nat.le_trans (firmsL_le n Z (givs n n [])) (givsN_le hn5)
    have h2 := htot (lenL (firmsL n Z (givs n n []))) 5 (firmsL n Z (givs n n [])).length (fun r hr => by
      unfold lenL
      rw [List.getD_eq_getElem?_getD, List.getElem?_eq_getElem hr]
      have hm : (firmsL n Z (givs n n []))[r] ∈ givs n n [] := by
        have := List.getElem_mem hr
        unfold firmsL at this
        exact (List.mem_filter.1 this).1
      have := ((mem_givs n [] (Diff.nil n) (by simp) _).1 hm).2.1
      show ((firmsL n Z (givs n n []))[r]).length ≤ 5
      omega)
    omega
  · rw [firmsAll_no h]
    simp [tot]
end Go.Proofs.YtfhkbjheleojmaaDoor
