/- append in a drawn region and in a plain one, and what the draws of rows hand back. -/
import Derived.Test.YtnaegnjgpnakfaaDoorDrawKit
import Derived.Test.YtnaegnjgpnakfaaDoorKeepP
import Derived.Deep.AppendLies
import Derived.Deep.RegionLaw
namespace Go.Proofs.YtnaegnjgpnakfaaDoor
set_option linter.unusedVariables false
open Go.RowKit

theorem owns_empty {W : World} {g base e : Nat} (hh : W.heap[g]? = some (.cells #[] e (0, 0))) (hb : base ≤ g) : W.ownsRow base e 1 (.slice (some ⟨g, 0, none⟩) 0 0) 0 [] :=
  ⟨by simp, .inr ⟨g, 0, #[], rfl, hb, hh, Nat.le_refl _, Nat.zero_le _, by simp, by simp⟩⟩
/-- A list of numbers as cells. -/
theorem list_cells (xs : List Value) (h : ∀ u, u ∈ xs → ∃ z : Int, u = .int .i64 z) : ∃ Y : Nat → Int, xs = cellsL xs.length Y := by
  induction xs with
  | nil => exact ⟨fun _ => 0, rfl⟩
  | cons u xs ih =>
    obtain ⟨z, rfl⟩ := h u (by simp)
    obtain ⟨Y, e⟩ := ih (fun v hv => h v (by simp [hv]))
    refine ⟨fun k => match k with | 0 => z | k + 1 => Y k, ?_⟩
    unfold cellsL at e ⊢
    rw [List.length_cons, List.range_succ_eq_map, List.map_cons, List.map_map]
    congr 1

theorem owns_cells {w : World} {base e N : Nat} {v : Value} {xs : List Value} (h : w.ownsRow base e 1 v N xs) (hall : ∀ u, u ∈ xs → ∃ z : Int, u = .int .i64 z) : ∃ Y : Nat → Int, w.ownsRow base e 1 v N (cellsL N Y) := by
  obtain ⟨Y, e'⟩ := list_cells xs hall
  have hl := h.1
  rw [Nat.mul_one] at hl
  rw [hl] at e'
  exact ⟨Y, e' ▸ h⟩

/-- What it hands back: some row of n + 1 numbers at most, the reader gone on. -/
def DrewAny (r : Nat) (a : Option Addr) (n c p m : Nat) (w : World) (e : Ending) (w' : World) : Prop :=
  ∃ g k cap X p', e = .returned (.slice (some ⟨g, 0, none⟩) k cap) ∧ (w.heap.size ≤ g ∧ g < w'.heap.size ∧ k ≤ cap ∧ k ≤ m + 1) ∧ Rd w' (some ⟨g, 0, none⟩) k X ∧ RdrAt w' r a n c p' ∧ p' ≤ p + m + 2 ∧ ButR r w.heap.size w w'

/-- What it hands back: a table of one to five rows, of five numbers at most, and a row of six numbers at most. -/
def DrewWay (w : World) (e : Ending) (w' : World) : Prop :=
  ∃ ga N gc A L C Z g m cap X, e = .returned (.tuple #[.slice ga N gc, .slice (some ⟨g, 0, none⟩) m cap]) ∧ (1 ≤ N ∧ N ≤ 5 ∧ m ≤ cap ∧ m ≤ 6) ∧ (∀ s, s < N → L s ≤ 5) ∧ Tab w' ga N A L C Z ∧ Rd w' (some ⟨g, 0, none⟩) m X ∧ Below w.heap.size w w'
end Go.Proofs.YtnaegnjgpnakfaaDoor
