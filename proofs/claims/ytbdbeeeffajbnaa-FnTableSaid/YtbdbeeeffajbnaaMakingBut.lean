/- Tables in the making while a reader goes on. -/
import Derived.Test.YtbdbeeeffajbnaaDrawKit
namespace Go.Proofs.Ytbdbeeeffajbnaa
set_option linter.unusedVariables false
open Go.RowKit

theorem making_but {tS B r i : Nat} {w w' : World} {v : Value} {G Cp L : Nat → Nat} {X : Nat → Nat → Int} (h : Making tS B w v i G Cp L X) (hr : r < B) (hk : Keeps r (r + 1) w w') : Making tS B w' v i G Cp L X := by
  obtain ⟨h1, h2, h3⟩ := h
  refine ⟨owns_but h1 hr hk, fun k hki => ?_, h3⟩
  obtain ⟨k1, k2, k3, k4⟩ := h2 k hki
  exact ⟨k1, by rw [hk.size]; exact k2, k3, k4.of_block (hk.block _ (by omega))⟩
theorem rd_but {w w' : World} {r g m : Nat} {X : Nat → Int} (h : Rd w (some ⟨g, 0, none⟩) m X) (hg : g ≠ r) (hk : Keeps r (r + 1) w w') : Rd w' (some ⟨g, 0, none⟩) m X := by
  intro k hkm
  obtain ⟨b, o, e, hc⟩ := h k hkm
  refine ⟨b, o, e, ?_⟩
  simp only [Option.some.injEq, Addr.mk.injEq, and_true] at e
  obtain ⟨rfl, rfl⟩ := e
  rw [World.cell?_of_block (w := w) (a := ⟨g, 0 + k, none⟩) (hk.block g (by omega))]
  exact hc
/-- One of six numbers from 1 to 12. -/
theorem six {w : World} {g t : Nat} {x : Nat} (h : w.heap[g]? = some (.cells #[.int .i64 1, .int .i64 2, .int .i64 3, .int .i64 4, .int .i64 6, .int .i64 12] t (0, 0))) (hx : x < 6) :
    ∃ v : Nat, (1 ≤ v ∧ v ≤ 12) ∧ w.cell? ⟨g, x, none⟩ = some (.int .i64 (v : Int)) := by
  rw [cell_of_row w g x _ t (0, 0) h]
  have : x = 0 ∨ x = 1 ∨ x = 2 ∨ x = 3 ∨ x = 4 ∨ x = 5 := by omega
  rcases this with rfl | rfl | rfl | rfl | rfl | rfl
  · exact ⟨1, by omega, rfl⟩
  · exact ⟨2, by omega, rfl⟩
  · exact ⟨3, by omega, rfl⟩
  · exact ⟨4, by omega, rfl⟩
  · exact ⟨6, by omega, rfl⟩
  · exact ⟨12, by omega, rfl⟩
end Go.Proofs.Ytbdbeeeffajbnaa
