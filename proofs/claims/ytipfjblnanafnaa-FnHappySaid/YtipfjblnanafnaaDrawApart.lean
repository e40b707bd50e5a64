/- Drawn wishes and a drawn row: words. -/
import Derived.Test.YtipfjblnanafnaaDrawWishes
import Derived.Test.YtipfjblnanafnaaDrawOrder
import Derived.Test.YtipfjblnanafnaaSpecHouseIn
namespace Go.Proofs.Ytipfjblnanafnaa
set_option linter.unusedVariables false
set_option linter.unusedSimpArgs false
open Go.RowKit

/-- A row that lies from lo on, if it has something. -/
def ApartI (lo m : Nat) (b : Option Addr) : Prop := 0 < m → ∀ g o, b = some ⟨g, o, none⟩ → lo ≤ g
theorem rdA_but {r lo : Nat} {w w' : World} {b : Option Addr} {m : Nat} {X : Nat → Int} (h : Rd w b m X) (hA : ApartI lo m b) (hr : r < lo) (hk : ButR r w.heap.size w w') : Rd w' b m X := by
  intro k hkm
  obtain ⟨g, o, he, hc⟩ := h k hkm
  have h1 := hA (by omega) g o he
  have hl : g < w.heap.size := World.block_lt_of_cell? _ _ hc
  exact ⟨g, o, he, (World.cell?_of_block (w := w) (a := ⟨g, o + k, none⟩) (hk.block g hl (by omega))).trans hc⟩

/-- What l91Given hands back: a table of one to five rows, of five numbers at most, a row of six at most, the reader gone on. -/
def DrewGiven (r : Nat) (a : Option Addr) (n c p : Nat) (w : World) (e : Ending) (w' : World) : Prop :=
  ∃ ga N gc A L C Z b m d X p', e = .returned (.tuple #[.slice ga N gc, .slice b m d]) ∧ ((1 ≤ N ∧ N ≤ 5) ∧ m ≤ d ∧ m ≤ 6) ∧ ((∀ s, s < N → L s ≤ 5) ∧ Apart w.heap.size N ga A ∧ ApartI w.heap.size m b) ∧ Tab w' ga N A L C Z ∧ Rd w' b m X ∧ RdrAt w' r a n c p' ∧ p' ≤ p + 300 ∧ ButR r w.heap.size w w'

/-- The same from a code: wishes and a row, at the top. -/
def DrewGivenTop (w : World) (e : Ending) (w' : World) : Prop :=
  ∃ ga N gc A L C Z b m d X, e = .returned (.tuple #[.slice ga N gc, .slice b m d]) ∧ ((1 ≤ N ∧ N ≤ 5) ∧ m ≤ d ∧ m ≤ 6) ∧ (∀ s, s < N → L s ≤ 5) ∧ Tab w' ga N A L C Z ∧ Rd w' b m X ∧ Below w.heap.size w w'
end Go.Proofs.Ytipfjblnanafnaa
