/- Words for a drawn table. -/
import Derived.Test.YtaipodnhnekpjaaDrawKit
import Derived.Test.YtaipodnhnekpjaaInfoInts
import Derived.Lib.MinMax
import Derived.IntWalk
namespace Go.Proofs.Ytaipodnhnekpjaa
set_option linter.unusedVariables false

section
open Go.RowKit
/-- The blocks of a table lie at or behind lo. -/
def Apart (lo N : Nat) (ga : Option Addr) (A : Nat → Option Addr) : Prop := (∀ b o, ga = some ⟨b, o, none⟩ → lo ≤ b) ∧ ∀ s, s < N → ∀ b o, A s = some ⟨b, o, none⟩ → lo ≤ b
theorem Apart.mono {lo lo' N : Nat} {ga : Option Addr} {A : Nat → Option Addr} (h : Apart lo N ga A) (hl : lo' ≤ lo) : Apart lo' N ga A :=
  ⟨fun b o e => Nat.le_trans hl (h.1 b o e), fun s hs b o e => Nat.le_trans hl (h.2 s hs b o e)⟩

/-- What l91Table hands back: a table of one to five rows, of five numbers at most, the reader gone on. -/
def DrewTab (r : Nat) (a : Option Addr) (n c p : Nat) (w : World) (e : Ending) (w' : World) : Prop :=
  ∃ ga N gc A L C Z p', e = .returned (.slice ga N gc) ∧ (1 ≤ N ∧ N ≤ 5) ∧ ((∀ s, s < N → L s ≤ 5) ∧ Apart w.heap.size N ga A) ∧ Tab w' ga N A L C Z ∧ RdrAt w' r a n c p' ∧ p' ≤ p + 200 ∧ ButR r w.heap.size w w'

theorem making_butR {tS B r i : Nat} {w w' : World} {v : Value} {G Cp L : Nat → Nat} {X : Nat → Nat → Int} (h : Making tS B w v i G Cp L X) (hr : r < B) (hk : ButR r w.heap.size w w') : Making tS B w' v i G Cp L X := by
  obtain ⟨h1, h2, h3⟩ := h
  refine ⟨?_, fun s hs => ?_, h3⟩
  · obtain ⟨k1, (k2 | ⟨g, cap, cur, k3, k4, k5, k6⟩)⟩ := h1
    · exact ⟨k1, .inl k2⟩
    · exact ⟨k1, .inr ⟨g, cap, cur, k3, k4, (hk.block g (Array.getElem?_eq_some_iff.1 k5).1 (by omega)).trans k5, k6⟩⟩
  · obtain ⟨k1, k2, k3, k4⟩ := h2 s hs
    exact ⟨k1, Nat.lt_of_lt_of_le k2 hk.size, k3, k4.of_block (hk.block _ k2 (by omega))⟩
theorem rd_butR {w w' : World} {r g m B : Nat} {X : Nat → Int} (h : Rd w (some ⟨g, 0, none⟩) m X) (hg : g ≠ r) (hB : g < B) (hk : ButR r B w w') : Rd w' (some ⟨g, 0, none⟩) m X := by
  intro k hkm
  obtain ⟨b, o, e, hc⟩ := h k hkm
  refine ⟨b, o, e, ?_⟩
  simp only [Option.some.injEq, Addr.mk.injEq, and_true] at e
  obtain ⟨rfl, rfl⟩ := e
  rw [World.cell?_of_block (w := w) (a := ⟨g, 0 + k, none⟩) (hk.block g hB hg)]
  exact hc
theorem making_same {tS B i : Nat} {w : World} {v : Value} {G Cp L : Nat → Nat} {X X' : Nat → Nat → Int} (h : Making tS B w v i G Cp L X) (e : ∀ s, s < i → X s = X' s) : Making tS B w v i G Cp L X' :=
  ⟨h.1, fun s hs => by rw [← e s hs]; exact h.2.1 s hs, h.2.2⟩

/-- What they hand back: a table of one to five rows, of five numbers at most. -/
def DrewTabTop (w : World) (e : Ending) (w' : World) : Prop :=
  ∃ ga N gc A L C Z, e = .returned (.slice ga N gc) ∧ (1 ≤ N ∧ N ≤ 5) ∧ (∀ s, s < N → L s ≤ 5) ∧ Tab w' ga N A L C Z ∧ Below w.heap.size w w'
end

section
open Go.RowKit
/-- What it hands back: a table of one to five rows, of five numbers at most, and a row of as many prices. -/
def DrewBoth (w : World) (e : Ending) (w' : World) : Prop :=
  ∃ ga N gc A L C Z b d W, e = .returned (.tuple #[.slice ga N gc, .slice b N d]) ∧ (1 ≤ N ∧ N ≤ 5 ∧ N ≤ d) ∧ (∀ s, s < N → L s ≤ 5) ∧ Tab w' ga N A L C Z ∧ Rd w' b N W ∧ Below w.heap.size w w'

theorem tab_but {r lo : Nat} {w w' : World} {a : Option Addr} {n : Nat} {A : Nat → Option Addr} {L C : Nat → Nat} {X : Nat → Nat → Int} (h : Tab w a n A L C X) (hA : Apart lo n a A) (hr : r < lo) (hk : ButR r w.heap.size w w') : Tab w' a n A L C X := by
  intro s hs
  obtain ⟨b, o, he, hc, hd⟩ := h s hs
  have h1 := hA.1 b o he
  have hl : b < w.heap.size := World.block_lt_of_cell? _ _ hc
  refine ⟨b, o, he, (World.cell?_of_block (w := w) (a := ⟨b, o + s, none⟩) (hk.block b hl (by omega))).trans hc, fun k hk' => ?_⟩
  obtain ⟨b2, o2, he2, hc2⟩ := hd k hk'
  have h2 := hA.2 s hs b2 o2 he2
  have hl2 : b2 < w.heap.size := World.block_lt_of_cell? _ _ hc2
  exact ⟨b2, o2, he2, (World.cell?_of_block (w := w) (a := ⟨b2, o2 + k, none⟩) (hk.block b2 hl2 (by omega))).trans hc2⟩
end
end Go.Proofs.Ytaipodnhnekpjaa
