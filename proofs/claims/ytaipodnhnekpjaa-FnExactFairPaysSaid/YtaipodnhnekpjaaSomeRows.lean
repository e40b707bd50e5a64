/- Deals as rows: item prices that are fair with one of them. -/
import Derived.Test.YtaipodnhnekpjaaFairFn
import Derived.Test.YtaipodnhnekpjaaBidMost
namespace Go.Proofs.Ytaipodnhnekpjaa
set_option linter.unusedVariables false
set_option linter.unusedSimpArgs false
open Go.RowKit

theorem some_rows {n m : Nat} {Z : Nat → Nat → Int} {p : Nat → Int} : SomeP n m Z p ↔ ∃ r, r < (dealsP m n).length ∧ FairP n m Z p (nth (rowD m n r)) := by
  constructor
  · rintro ⟨D, hD, hf⟩
    obtain ⟨r, hr, e⟩ := List.mem_iff_getElem.1 hD
    exact ⟨r, hr, by unfold rowD; rw [List.getD_eq_getElem?_getD, List.getElem?_eq_getElem hr, Option.getD_some, e]; exact hf⟩
  · rintro ⟨r, hr, hf⟩
    exact ⟨rowD m n r, rowD_in hr, hf⟩
theorem row_range {n m r : Nat} (h : r < (dealsP m n).length) : ∀ i, i < n → -1 ≤ nth (rowD m n r) i ∧ nth (rowD m n r) i < m := (dealsP_ok.1 (rowD_in h)).2.1
/-- The rows of a table that holds the deals. -/
theorem making_row {tS B g cap n m : Nat} {w : World} {G Cp : Nat → Nat} (h : Making tS B w (.slice (some ⟨g, 0, none⟩) (dealsP m n).length cap) (dealsP m n).length G Cp (lenL (dealsP m n)) (nthL (dealsP m n))) {r : Nat} (hr : r < (dealsP m n).length) : w.cell? ⟨g, r, none⟩ = some (.slice (some ⟨G r, 0, none⟩) n (Cp r)) ∧ w.frozen? ⟨g, r, none⟩ = false ∧ B ≤ G r ∧ G r < w.heap.size ∧ G r ≠ g ∧ OwnR w (G r) (some ⟨G r, 0, none⟩) n (nth (rowD m n r)) := by
  have hlen : lenL (dealsP m n) r = n := dealsP_len (rowD_in hr)
  have hck := h.1.cells (g := g) rfl r (.slice (some ⟨G r, 0, none⟩) (lenL (dealsP m n) r) (Cp r)) (by simp [hr])
  rw [Go.WideShapes.add_plain, Nat.zero_add, hlen] at hck
  obtain ⟨k1, k2, k3, k4⟩ := h.2.1 r hr
  rw [hlen] at k4
  exact ⟨hck, h.1.frozenAt _, k1, k2, fun e => k3 (by rw [e]; rfl), k4⟩
end Go.Proofs.Ytaipodnhnekpjaa
