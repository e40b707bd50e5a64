/- Slices that a call makes by append, in regions that draw their order: words and small laws. -/
import Derived.Test.YtakipaehoeapcaaMem
import Derived.Deep.RegionHeld3
import Derived.Deep.RegionLawGrows
import Derived.Deep.AppendLies
namespace Go.Proofs.Ytakipaehoeapcaa
set_option linter.unusedVariables false
open Go.RowKit

/-- What is held of the world in such a region: a cell, and that all that was there in w is as it was. -/
theorem keep_drew {w : World} {a : Addr} {v : Value} {W : World} (h : W.cell? a = some v ∧ Below w.heap.size w W) : W.drew.cell? a = some v ∧ Below w.heap.size w W.drew := ⟨by simpa using h.1, h.2.drew⟩
theorem keep_alloc {w : World} {a : Addr} {v : Value} {W : World} (h : W.cell? a = some v ∧ Below w.heap.size w W) (o : Obj) : (W.alloc o).cell? a = some v ∧ Below w.heap.size w (W.alloc o) :=
  ⟨by rw [World.cell?_of_block (w := W) (Below.heap_alloc W o a.block (World.block_lt_of_cell? _ _ h.1))]; exact h.1, h.2.alloc h.2.size o⟩
theorem keep_grown {w : World} {a : Addr} {v : Value} {W w1 : World} {row : Option Nat} (h : W.cell? a = some v ∧ Below w.heap.size w W) (ha : a.block < w.heap.size) (hg : W.grownBy w1 row) (hr : ∀ k, row = some k → w.heap.size ≤ k) : w1.cell? a = some v ∧ Below w.heap.size w w1 := by
  refine ⟨hg.cell h.1 ?_, h.2.grown hg h.2.size hr⟩
  intro e
  have := hr _ e.symm
  omega

theorem keep_below {w : World} {a : Addr} {v : Value} {W w1 : World} (h : W.cell? a = some v ∧ Below w.heap.size w W) (ha : a.block < w.heap.size) (hb : Below W.heap.size W w1) : w1.cell? a = some v ∧ Below w.heap.size w w1 :=
  ⟨(hb.cell (Nat.lt_of_lt_of_le ha h.2.size)).trans h.1, h.2.trans (hb.mono h.2.size)⟩
theorem below_alloc {w W : World} (h : Below w.heap.size w W) (o : Obj) : Below w.heap.size w (W.alloc o) := h.alloc h.size o
theorem owns_base {w : World} {base base' e size n : Nat} {v : Value} {xs : List Value} (h : w.ownsRow base e size v n xs) (hb : base' ≤ base) : w.ownsRow base' e size v n xs := by
  obtain ⟨h1, (h2 | ⟨g, cap, cur, hv, hg, hr⟩)⟩ := h
  · exact ⟨h1, .inl h2⟩
  · exact ⟨h1, .inr ⟨g, cap, cur, hv, Nat.le_trans hb hg, hr⟩⟩
theorem news_one {W : World} {g : Nat} {x : Value} (h : W.cell? ⟨g, 0, none⟩ = some x) : ∀ j u, [x][j]? = some u → W.cell? ((⟨g, 0, none⟩ : Addr).add j) = some u := by
  intro j u hu
  cases j with
  | zero =>
    simp only [List.getElem?_cons_zero, Option.some.injEq] at hu
    subst hu
    simpa [Addr.add] using h
  | succ j => simp at hu

/-- The cells of a row of integers, as an append asks for them. -/
def cellsL (n : Nat) (X : Nat → Int) : List Value := (List.range n).map fun k => .int .i64 (X k)
theorem cellsL_length (n : Nat) (X : Nat → Int) : (cellsL n X).length = n := by simp [cellsL]
theorem cellsL_get {n j : Nat} (X : Nat → Int) (h : j < n) : (cellsL n X)[j]? = some (.int .i64 (X j)) := by simp [cellsL, h]
theorem cellsL_one (n : Nat) (X : Nat → Int) : ∀ u ∈ cellsL n X, u.oneCell' = true := by
  intro u hu
  simp only [cellsL, List.mem_map] at hu
  obtain ⟨k, _, rfl⟩ := hu
  rfl
theorem Rd.news {w W : World} {b o n : Nat} {X : Nat → Int} (h : Rd w (some ⟨b, o, none⟩) n X) (hb : Below w.heap.size w W) : ∀ j u, (cellsL n X)[j]? = some u → W.cell? ((⟨b, o, none⟩ : Addr).add j) = some u := by
  intro j u hu
  have hj : j < n := by
    rcases Nat.lt_or_ge j n with h' | h'
    · exact h'
    · rw [List.getElem?_eq_none (by rw [cellsL_length]; exact h')] at hu; cases hu
  obtain ⟨b', o', ha, hc⟩ := (h.below (Nat.le_refl _) hb) j hj
  simp only [Option.some.injEq, Addr.mk.injEq] at ha
  obtain ⟨rfl, rfl, -⟩ := ha
  rw [Go.WideShapes.add_plain, hc, ← hu, cellsL_get X hj]

/-- What a call hands back that makes a slice of n integers X of its own, with room behind or none. -/
def RetList (tI n : Nat) (X : Nat → Int) (w : World) (e : Ending) (w' : World) : Prop :=
  ∃ g cap, e = .returned (.slice (some ⟨g, 0, none⟩) n cap) ∧ w'.ownsRow w.heap.size tI 1 (.slice (some ⟨g, 0, none⟩) n cap) n (cellsL n X) ∧ Below w.heap.size w w'

theorem owns_rd {w : World} {base tI n g cap : Nat} {X : Nat → Int} (h : w.ownsRow base tI 1 (.slice (some ⟨g, 0, none⟩) n cap) n (cellsL n X)) : Rd w (some ⟨g, 0, none⟩) n X := by
  intro k hk
  refine ⟨g, 0, rfl, ?_⟩
  have := h.cells (g := g) rfl k (.int .i64 (X k)) (cellsL_get X hk)
  rwa [Go.WideShapes.add_plain] at this
theorem owns_cap {w : World} {base tI n g cap : Nat} {xs : List Value} (h : w.ownsRow base tI 1 (.slice (some ⟨g, 0, none⟩) n cap) n xs) : n ≤ cap ∧ base ≤ g ∧ g < w.heap.size := by
  obtain ⟨_, (⟨he, _⟩ | ⟨g', cap', cur, hv, hb, hh, hn, _⟩)⟩ := h
  · cases he
  · cases hv
    exact ⟨hn, hb, (Array.getElem?_eq_some_iff.1 hh).1⟩
theorem cellsL_snoc (n : Nat) (X : Nat → Int) (x : Int) : cellsL n X ++ [.int .i64 x] = cellsL (n + 1) (fun k => if k < n then X k else x) := by
  unfold cellsL
  rw [List.range_succ, List.map_append, List.map_cons, List.map_nil]
  show _ = _ ++ [Value.int .i64 (if n < n then X n else x)]
  rw [if_neg (Nat.lt_irrefl _)]
  congr 1
  exact List.map_congr_left fun k hk => by show _ = Value.int .i64 (if k < n then X k else x); rw [if_pos (List.mem_range.1 hk)]
theorem cellsL_congr {n : Nat} {X Y : Nat → Int} (h : ∀ k, k < n → X k = Y k) : cellsL n X = cellsL n Y := List.map_congr_left fun k hk => by rw [h k (List.mem_range.1 hk)]
end Go.Proofs.Ytakipaehoeapcaa
