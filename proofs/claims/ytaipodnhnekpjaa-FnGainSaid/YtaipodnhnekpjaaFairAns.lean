/- What the functions of item prices answer. -/
import Derived.Test.YtaipodnhnekpjaaFairFn
import Derived.Test.YtaipodnhnekpjaaBidMost
import Derived.Test.YtaipodnhnekpjaaBidFirstF
/- Deals as rows: item prices that are fair with one of them. -/
namespace Go.Proofs.Ytaipodnhnekpjaa
set_option linter.unusedVariables false
set_option linter.unusedSimpArgs false
open Go.RowKit

theorem some_rows {n m : Nat} {Z : Nat → Nat → Int} {p : Nat → Int} : SomeP n m Z p ↔ ∃ r, r < (dealsP m n).length ∧ FairP n m Z p (nth (rowD m n r)) := by
  constructor
  · rintro ⟨D, hD, hf⟩
    obtain ⟨r, hr, e⟩ := List.mem_iff_getElem.1 hD
    exact ⟨r, hr, by unfold rowD; rw [List.getD_eq_getElem?_getD, List.getElem?_eq_getElem hr, Option.getD_some, e]; exact hf⟩
  · rintro ⟨r, hr, hf⟩
    exact ⟨rowD m n r, rowD_in hr, hf⟩
theorem row_range {n m r : Nat} (h : r < (dealsP m n).length) : ∀ i, i < n → -1 ≤ nth (rowD m n r) i ∧ nth (rowD m n r) i < m := (dealsP_ok.1 (rowD_in h)).2.1
/-- The rows of a table that holds the deals. -/
theorem making_row {tS B g cap n m : Nat} {w : World} {G Cp : Nat → Nat} (h : Making tS B w (.slice (some ⟨g, 0, none⟩) (dealsP m n).length cap) (dealsP m n).length G Cp (lenL (dealsP m n)) (nthL (dealsP m n))) {r : Nat} (hr : r < (dealsP m n).length) : w.cell? ⟨g, r, none⟩ = some (.slice (some ⟨G r, 0, none⟩) n (Cp r)) ∧ w.frozen? ⟨g, r, none⟩ = false ∧ B ≤ G r ∧ G r < w.heap.size ∧ G r ≠ g ∧ OwnR w (G r) (some ⟨G r, 0, none⟩) n (nth (rowD m n r)) := by
  have hlen : lenL (dealsP m n) r = n := dealsP_len (rowD_in hr)
  have hck := h.1.cells (g := g) rfl r (.slice (some ⟨G r, 0, none⟩) (lenL (dealsP m n) r) (Cp r)) (by simp [hr])
  rw [Go.WideShapes.add_plain, Nat.zero_add, hlen] at hck
  obtain ⟨k1, k2, k3, k4⟩ := h.2.1 r hr
  rw [hlen] at k4
  exact ⟨hck, h.1.frozenAt _, k1, k2, fun e => k3 (by rw [e]; rfl), k4⟩
end Go.Proofs.Ytaipodnhnekpjaa

/- What the functions of item prices answer. -/
namespace Go.Proofs.Ytaipodnhnekpjaa
set_option linter.unusedVariables false
set_option linter.unusedSimpArgs false
open Go.RowKit

def FairOk (n : Nat) (L : Nat → Nat) (Z : Nat → Nat → Int) (q : Nat) (P : Nat → Int) (r : Nat) (D : Nat → Int) : Prop := (IsBids n L Z ∧ ItemP q (L 0) P) ∧ (IsDeal r (L 0) D ∧ r = n) ∧ FairP n (L 0) Z P D
def SomeOk (n : Nat) (L : Nat → Nat) (Z : Nat → Nat → Int) (q : Nat) (P : Nat → Int) : Prop := (IsBids n L Z ∧ ItemP q (L 0) P) ∧ SomeP n (L 0) Z P
def GainOk (n : Nat) (L : Nat → Nat) (Z : Nat → Nat → Int) (q : Nat) (P : Nat → Int) (x : Int) : Prop := (IsBids n L Z ∧ ItemP q (L 0) P) ∧ 0 ≤ x ∧ x < (n : Int)
def CountOk (n : Nat) (L : Nat → Nat) (Z : Nat → Nat → Int) : Prop := IsBids n L Z ∧ L 0 ≤ 2
noncomputable def itemsN (n : Nat) (L : Nat → Nat) (Z : Nat → Nat → Int) : Nat := if tt (IsBids n L Z) = true then L 0 else 0
section
variable {n : Nat} {L : Nat → Nat} {Z : Nat → Nat → Int}
theorem itemsN_yes (h : IsBids n L Z) : itemsN n L Z = L 0 := by unfold itemsN; rw [tt_of h]; rfl
theorem itemsN_no (h : ¬ IsBids n L Z) : itemsN n L Z = 0 := by unfold itemsN; rw [tt_no h]; rfl
theorem itemsN_small (n : Nat) (L : Nat → Nat) (Z : Nat → Nat → Int) : itemsN n L Z ≤ 1048576 := by
  by_cases h : IsBids n L Z
  · rw [itemsN_yes h]; have := h.1.2.2; omega
  · rw [itemsN_no h]; omega
theorem firstD_is (h : IsBids n L Z) : IsDeal n (L 0) (nth (firstD n (L 0) Z)) ∧ dealT Z (nth (firstD n (L 0) Z)) n = bestV n (L 0) Z := by
  have hp := bests_pos (Z := Z) (dealsP_none (m := L 0) n)
  have hin : (bestsL n Z (dealsP (L 0) n)).getD 0 [] ∈ bestsL n Z (dealsP (L 0) n) := by
    rw [List.getD_eq_getElem?_getD, List.getElem?_eq_getElem hp]; exact List.getElem_mem hp
  obtain ⟨h1, h2⟩ := bests_total hin
  refine ⟨(dealsP_ok.1 h1).2, ?_⟩
  unfold firstD
  rw [h2]
  unfold bestV
  rw [deals_way]
end
end Go.Proofs.Ytaipodnhnekpjaa
