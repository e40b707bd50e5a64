/- A table that a function gathers in a cell, its rows left as they are: what is held of it. -/
import Derived.Test.YtimkgplabbcklaaLists
import Derived.Test.YtimkgplabbcklaaRange
namespace Go.Proofs.Ytimkgplabbcklaa
set_option linter.unusedVariables false
set_option linter.unusedSimpArgs false
open Go.RowKit

/-- What is written: the cell, the table's top row. -/
def TopV (b : Nat) (v : Value) (k : Nat) : Prop := k = b ∨ v.ownBlock = some k
/-- Cell b holds v, a table of a call's own that tells LL; its rows lie in the blocks R. -/
def TabK (tS b : Nat) (w : World) (LL : List (List Int)) (v : Value) (R : Nat → Prop) (Wx : World) : Prop :=
  ∃ G Cp, Below w.heap.size w Wx ∧ w.heap.size ≤ b ∧ Wx.cell? ⟨b, 0, none⟩ = some v ∧ Wx.frozen? ⟨b, 0, none⟩ = false ∧ Making tS (b + 1) Wx v LL.length G Cp (lenL LL) (nthL LL) ∧ ∀ k, R k ↔ ∃ r, r < LL.length ∧ G r = k
section
variable {tS b : Nat} {w : World} {LL : List (List Int)} {v : Value} {R : Nat → Prop} {Wx : World}
theorem TabK.rows (h : TabK tS b w LL v R Wx) : ∀ k, R k → b < k ∧ k < Wx.heap.size ∧ v.ownBlock ≠ some k := by
  obtain ⟨G, Cp, h1, h2, h3, h4, h5, h6⟩ := h
  intro k hk
  obtain ⟨r, hr, rfl⟩ := (h6 k).1 hk
  obtain ⟨m1, m2, m3, _⟩ := h5.2.1 r hr
  exact ⟨m1, m2, m3⟩
theorem TabK.top (h : TabK tS b w LL v R Wx) : ∀ k, v.ownBlock = some k → b < k ∧ k < Wx.heap.size := by
  obtain ⟨G, Cp, h1, h2, h3, h4, h5, h6⟩ := h
  intro k hk
  have := h5.1.lt k hk
  exact ⟨by omega, this.2⟩
theorem TabK.base (h : TabK tS b w LL v R Wx) : Below w.heap.size w Wx ∧ w.heap.size ≤ b ∧ Wx.cell? ⟨b, 0, none⟩ = some v ∧ Wx.frozen? ⟨b, 0, none⟩ = false := by
  obtain ⟨G, Cp, h1, h2, h3, h4, h5, h6⟩ := h
  exact ⟨h1, h2, h3, h4⟩
theorem TabK.below {B : World} (h : TabK tS b w LL v R Wx) (hb : Below Wx.heap.size Wx B) : TabK tS b w LL v R B := by
  obtain ⟨G, Cp, h1, h2, h3, h4, h5, h6⟩ := h
  have hbx : b < Wx.heap.size := World.block_lt_of_cell? _ _ h3
  exact ⟨G, Cp, h1.trans (hb.mono h1.size), h2, (hb.cell (p := ⟨b, 0, none⟩) hbx).trans h3, (hb.frozen (p := ⟨b, 0, none⟩) hbx).trans h4, h5.below hb, h6⟩
/-- One row more, appended, and the table put back into its cell. -/
theorem TabK.push {w1 w2 : World} {G Cp : Nat → Nat} {x : List Int} {gr cr g2 cap2 : Nat} (h1 : Below w.heap.size w Wx) (h2 : w.heap.size ≤ b) (h3 : Wx.cell? ⟨b, 0, none⟩ = some v) (h4 : Wx.frozen? ⟨b, 0, none⟩ = false)
    (hM : Making tS (b + 1) Wx v LL.length G Cp (lenL LL) (nthL LL)) (hR : ∀ k, R k ↔ ∃ r, r < LL.length ∧ G r = k) (hb1 : Below Wx.heap.size Wx w1) (hr : OwnR w1 gr (some ⟨gr, 0, none⟩) x.length (nth x)) (hgr1 : b + 1 ≤ gr) (hgr2 : gr < w1.heap.size) (hgr3 : ¬ R gr) (hgr4 : v.ownBlock ≠ some gr)
    (N2 : w2.ownsRow (b + 1) tS 1 (.slice (some ⟨g2, 0, none⟩) (LL.length + 1) cap2) (LL.length + 1) (((List.range LL.length).map fun r => Value.slice (some ⟨G r, 0, none⟩) (lenL LL r) (Cp r)) ++ [.slice (some ⟨gr, 0, none⟩) x.length cr]))
    (G2 : w1.grownBy w2 v.ownBlock) (A2 : v.ownBlock = some g2 ∨ g2 = w1.heap.size) :
    Outside (TopV b v) Wx (w2.setCell ⟨b, 0, none⟩ (.slice (some ⟨g2, 0, none⟩) (LL.length + 1) cap2)) ∧
      TabK tS b w (LL ++ [x]) (.slice (some ⟨g2, 0, none⟩) (LL.length + 1) cap2) (fun k => R k ∨ k = gr) (w2.setCell ⟨b, 0, none⟩ (.slice (some ⟨g2, 0, none⟩) (LL.length + 1) cap2)) := by
  have hbx : b < Wx.heap.size := World.block_lt_of_cell? _ _ h3
  have hbv : v.ownBlock ≠ some b := fun e => by have := (hM.1.lt b e).1; omega
  have hc1 : w1.cell? ⟨b, 0, none⟩ = some v := (hb1.cell (p := ⟨b, 0, none⟩) hbx).trans h3
  have hf1 : w1.frozen? ⟨b, 0, none⟩ = false := (hb1.frozen (p := ⟨b, 0, none⟩) hbx).trans h4
  have hb1' : b < w1.heap.size := Nat.lt_of_lt_of_le hbx hb1.size
  have hblk : w2.heap[b]? = w1.heap[b]? := G2.block b hb1' (fun e => hbv e.symm)
  have hc2 : w2.cell? ⟨b, 0, none⟩ = some v := (World.cell?_of_block (w := w1) hblk).trans hc1
  have hf2 : w2.frozen? ⟨b, 0, none⟩ = false := (World.frozen?_of_block (w := w1) hblk).trans hf1
  have hM1 := (hM.below hb1).snoc x
  have hNx := hM1.next (gr := gr) (cr := cr) (g := g2) (cap := cap2) (w1 := w2) (by rw [lists_snoc.1, lists_snoc.2]; exact hr) hgr1 hgr2 hgr4 (fun r hr e => hgr3 ((hR gr).2 ⟨r, hr, e⟩))
    (by
      have e : ((List.range LL.length).map fun r => Value.slice (some ⟨G r, 0, none⟩) (lenL (LL ++ [x]) r) (Cp r)) = (List.range LL.length).map fun r => Value.slice (some ⟨G r, 0, none⟩) (lenL LL r) (Cp r) := List.map_congr_left fun r hr => by rw [(lists_left (List.mem_range.1 hr)).1]
      rw [e, lists_snoc.1]
      exact N2) G2 A2 (Nat.le_refl _)
  have hg2b : g2 ≠ b := fun e => by rcases A2 with h | h; exact hbv (by rw [h, e]); omega
  refine ⟨?_, (fun r => if r < LL.length then G r else gr), (fun r => if r < LL.length then Cp r else cr), ?_, h2, ?_, ?_, ?_, fun k => ?_⟩
  · have o1 : Outside (TopV b v) Wx w1 := Outside.of_below hb1
    have o2 : Outside (TopV b v) w1 w2 := Outside.of_grown G2 (fun k hk => .inr hk)
    exact (o1.trans' o2 (fun _ _ h => h)).setCell (.inl rfl) _
  · exact ((h1.trans (hb1.mono h1.size)).grown G2 (Nat.le_trans h1.size hb1.size) (fun k hk => by have := (hM.1.lt k hk).1; omega)).setCell h2 _
  · exact World.cell?_setCell_same' _ _ _ (by rw [hc2]; rfl)
  · exact frozen_set hf2
  · rw [List.length_append]
    refine hNx.of_blocks (by simp [World.setCell]) ?_
    rintro k (hk | ⟨r, hr', rfl⟩)
    · have hk' : g2 = k := by simpa [Value.ownBlock] using hk
      exact Below.heap_setCell _ _ _ _ (by rw [← hk']; exact hg2b)
    · refine Below.heap_setCell _ _ _ _ ?_
      dsimp only
      by_cases e : r < LL.length
      · rw [if_pos e]; have := (hM.2.1 r e).1; omega
      · rw [if_neg e]; omega
  · show (R k ∨ k = gr) ↔ _
    rw [List.length_append, List.length_singleton, hR k]
    constructor
    · rintro (⟨r, h5, e⟩ | rfl)
      · exact ⟨r, by omega, by dsimp only; rw [if_pos h5]; exact e⟩
      · exact ⟨LL.length, by omega, by dsimp only; rw [if_neg (by omega)]⟩
    · rintro ⟨r, h5, e⟩
      dsimp only at e
      by_cases h6 : r < LL.length
      · rw [if_pos h6] at e; exact .inl ⟨r, h6, e⟩
      · rw [if_neg h6] at e; exact .inr e.symm
end

theorem keepg_drew {a : Addr} {v : Value} {W : World} (h : W.cell? a = some v) : W.drew.cell? a = some v := by simpa using h
theorem keepg_alloc {a : Addr} {v : Value} {W : World} (h : W.cell? a = some v) (o : Obj) : (W.alloc o).cell? a = some v := by
  rw [World.cell?_of_block (w := W) (Below.heap_alloc W o a.block (World.block_lt_of_cell? _ _ h))]; exact h
theorem keepg_grown {a : Addr} {v : Value} {W w1 : World} (h : W.cell? a = some v) (hg : W.grownBy w1 none) : w1.cell? a = some v := hg.cell h (fun e => by cases e)
theorem owns_shape {w : World} {B tI n : Nat} {v : Value} {xs : List Value} (h : w.ownsRow B tI 1 v n xs) (hn : 0 < n) : ∃ g cap, v = .slice (some ⟨g, 0, none⟩) n cap ∧ B ≤ g ∧ g < w.heap.size ∧ n ≤ cap := by
  obtain ⟨_, (⟨_, h0⟩ | ⟨g, cap, cur, h1, h2, h3, h4, _⟩)⟩ := h
  · omega
  · exact ⟨g, cap, h1, h2, (Array.getElem?_eq_some_iff.1 h3).1, h4⟩
theorem fit_next {L c f N : Nat} (h1 : 1 ≤ f) (h : L + 7 ^ (f + 1) ≤ N) (hc : c ≤ 7 ^ (f - 1 + 1)) : L + c + 7 ^ (f - 1 + 1) ≤ N := by
  rw [show f - 1 + 1 = f by omega] at hc ⊢
  have : 7 ^ (f + 1) = 7 ^ f * 7 := Nat.pow_succ 7 f
  omega
end Go.Proofs.Ytimkgplabbcklaa
