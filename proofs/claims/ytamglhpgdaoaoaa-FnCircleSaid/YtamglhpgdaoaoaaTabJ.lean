/- A table that a range over a function gathers in a cell: what is held of it between two rounds. -/
import Derived.Test.YtamglhpgdaoaoaaLists
import Derived.Test.YtamglhpgdaoaoaaRange
namespace Go.Proofs.Ytamglhpgdaoaoaa
set_option linter.unusedVariables false
set_option linter.unusedSimpArgs false
open Go.RowKit

/-- What such a table's rounds may write: its cell, its top row, its rows. -/
def tabV (b : Nat) (v : Value) (N : Nat) (G : Nat → Nat) (k : Nat) : Prop := k = b ∨ v.ownBlock = some k ∨ ∃ r, r < N ∧ G r = k
/-- Cell b holds a table of a call's own that tells LL. -/
def TabJ (tS b : Nat) (w : World) (LL : List (List Int)) (V : Nat → Prop) (Wx : World) : Prop :=
  ∃ v G Cp, Below w.heap.size w Wx ∧ w.heap.size ≤ b ∧ Wx.cell? ⟨b, 0, none⟩ = some v ∧ Wx.frozen? ⟨b, 0, none⟩ = false ∧ Making tS (b + 1) Wx v LL.length G Cp (lenL LL) (nthL LL) ∧ V = tabV b v LL.length G
theorem TabJ.lies {tS b : Nat} {w : World} {LL : List (List Int)} {V : Nat → Prop} {Wx : World} (h : TabJ tS b w LL V Wx) : ∀ k, V k → k < Wx.heap.size := by
  obtain ⟨v, G, Cp, h1, h2, h3, h4, h5, rfl⟩ := h
  rintro k (rfl | hk | ⟨r, hr, rfl⟩)
  · exact World.block_lt_of_cell? _ _ h3
  · exact (h5.1.lt k hk).2
  · exact (h5.2.1 r hr).2.1
theorem TabJ.inside {tS b : Nat} {w : World} {LL : List (List Int)} {V : Nat → Prop} {A B : World} (h : TabJ tS b w LL V A) (hin : Inside (fun k => V k ∨ k < w.heap.size) A B) : TabJ tS b w LL V B := by
  obtain ⟨v, G, Cp, h1, h2, h3, h4, h5, rfl⟩ := h
  exact ⟨v, G, Cp, ⟨hin.os.trans h1.os, hin.tape.trans h1.tape, hin.output.trans h1.output, Nat.le_trans h1.size hin.size, fun k hk => (hin.block k (.inr hk)).trans (h1.block k hk)⟩, h2, hin.cell (p := ⟨b, 0, none⟩) (.inl (.inl rfl)) h3, (World.frozen?_of_block (w := A) (hin.block b (.inl (.inl rfl)))).trans h4, h5.of_blocks hin.size (fun k hk => hin.block k (.inl (.inr hk))), rfl⟩
/-- One row more, appended, and the table put back into its cell. -/
theorem TabJ.push {tS b : Nat} {w Wx w1 w2 : World} {LL : List (List Int)} {v : Value} {G Cp : Nat → Nat} {x : List Int} {gr cr g2 cap2 : Nat} (h1 : Below w.heap.size w Wx) (h2 : w.heap.size ≤ b) (h3 : Wx.cell? ⟨b, 0, none⟩ = some v) (h4 : Wx.frozen? ⟨b, 0, none⟩ = false)
    (hM : Making tS (b + 1) Wx v LL.length G Cp (lenL LL) (nthL LL)) (hb1 : Below Wx.heap.size Wx w1) (hr : OwnR w1 gr (some ⟨gr, 0, none⟩) x.length (nth x)) (hgr1 : b + 1 ≤ gr) (hgr2 : gr < w1.heap.size) (hgr3 : ¬ tabV b v LL.length G gr)
    (N2 : w2.ownsRow (b + 1) tS 1 (.slice (some ⟨g2, 0, none⟩) (LL.length + 1) cap2) (LL.length + 1) (((List.range LL.length).map fun r => Value.slice (some ⟨G r, 0, none⟩) (lenL LL r) (Cp r)) ++ [.slice (some ⟨gr, 0, none⟩) x.length cr]))
    (G2 : w1.grownBy w2 v.ownBlock) (A2 : v.ownBlock = some g2 ∨ g2 = w1.heap.size) :
    Outside (tabV b v LL.length G) Wx (w2.setCell ⟨b, 0, none⟩ (.slice (some ⟨g2, 0, none⟩) (LL.length + 1) cap2)) ∧
      ∃ V', (∀ k, V' k → tabV b v LL.length G k ∨ k = gr ∨ Wx.heap.size ≤ k) ∧ TabJ tS b w (LL ++ [x]) V' (w2.setCell ⟨b, 0, none⟩ (.slice (some ⟨g2, 0, none⟩) (LL.length + 1) cap2)) := by
  have hbx := World.block_lt_of_cell? _ _ h3
  have hbx' : b < Wx.heap.size := hbx
  have hbv : v.ownBlock ≠ some b := fun e => by have := (hM.1.lt b e).1; omega
  have hc1 : w1.cell? ⟨b, 0, none⟩ = some v := (hb1.cell (p := ⟨b, 0, none⟩) hbx').trans h3
  have hf1 : w1.frozen? ⟨b, 0, none⟩ = false := (hb1.frozen (p := ⟨b, 0, none⟩) hbx').trans h4
  have hb1' : b < w1.heap.size := Nat.lt_of_lt_of_le hbx' hb1.size
  have hblk : w2.heap[b]? = w1.heap[b]? := G2.block b hb1' (fun e => hbv e.symm)
  have hc2 : w2.cell? ⟨b, 0, none⟩ = some v := (World.cell?_of_block (w := w1) hblk).trans hc1
  have hf2 : w2.frozen? ⟨b, 0, none⟩ = false := (World.frozen?_of_block (w := w1) hblk).trans hf1
  have hM1 := (hM.below hb1).snoc x
  have hNx := hM1.next (gr := gr) (cr := cr) (g := g2) (cap := cap2) (w1 := w2) (by rw [lists_snoc.1, lists_snoc.2]; exact hr) hgr1 hgr2 (fun e => hgr3 (.inr (.inl e))) (fun r hr e => hgr3 (.inr (.inr ⟨r, hr, e⟩)))
    (by
      have e : ((List.range LL.length).map fun r => Value.slice (some ⟨G r, 0, none⟩) (lenL (LL ++ [x]) r) (Cp r)) = (List.range LL.length).map fun r => Value.slice (some ⟨G r, 0, none⟩) (lenL LL r) (Cp r) := List.map_congr_left fun r hr => by rw [(lists_left (List.mem_range.1 hr)).1]
      rw [e, lists_snoc.1]
      exact N2) G2 A2 (Nat.le_refl _)
  have hg2b : g2 ≠ b := fun e => by rcases A2 with h | h; exact hbv (by rw [h, e]); omega
  refine ⟨?_, tabV b (.slice (some ⟨g2, 0, none⟩) (LL.length + 1) cap2) (LL.length + 1) (fun r => if r < LL.length then G r else gr), ?_, ⟨_, (fun r => if r < LL.length then G r else gr), (fun r => if r < LL.length then Cp r else cr), ?_, h2, ?_, ?_, ?_, by rw [List.length_append]; rfl⟩⟩
  · have o1 : Outside (tabV b v LL.length G) Wx w1 := Outside.of_below hb1
    have o2 : Outside (tabV b v LL.length G) w1 w2 := Outside.of_grown G2 (fun k hk => .inr (.inl hk))
    exact (o1.trans' o2 (fun _ _ h => h)).setCell (.inl rfl) _
  · rintro k (rfl | hk | ⟨r, hr', rfl⟩)
    · exact .inl (.inl rfl)
    · have hk' : g2 = k := by simpa [Value.ownBlock] using hk
      subst hk'
      rcases A2 with h | h
      · exact .inl (.inr (.inl h))
      · have := hb1.size; exact .inr (.inr (by omega))
    · dsimp only
      by_cases e : r < LL.length
      · rw [if_pos e]; exact .inl (.inr (.inr ⟨r, e, rfl⟩))
      · rw [if_neg e]; exact .inr (.inl rfl)
  · exact ((h1.trans (hb1.mono h1.size)).grown G2 (Nat.le_trans h1.size hb1.size) (fun k hk => by have := (hM.1.lt k hk).1; omega)).setCell h2 _
  · exact World.cell?_setCell_same' _ _ _ (by rw [hc2]; rfl)
  · exact frozen_set hf2
  · rw [List.length_append]
    refine hNx.of_blocks (by simp [World.setCell]) ?_
    rintro k (hk | ⟨r, hr', rfl⟩)
    · have hk' : g2 = k := by simpa [Value.ownBlock] using hk
      exact Below.heap_setCell _ _ _ _ (by rw [← hk']; exact hg2b)
    · refine Below.heap_setCell _ _ _ _ ?_
      dsimp only
      by_cases e : r < LL.length
      · rw [if_pos e]; have := (hM.2.1 r e).1; omega
      · rw [if_neg e]; omega
/-- What a call hands back: a table of its own that tells a list of lists. -/
def RetTT (LL : List (List Int)) (w : World) (e : Ending) (w' : World) : Prop :=
  ∃ a1 c1 A1 C1, e = .returned (.slice a1 LL.length c1) ∧ OwnT w' w.heap.size w'.heap.size a1 LL.length A1 (lenL LL) C1 (nthL LL) ∧ Below w.heap.size w w'
end Go.Proofs.Ytamglhpgdaoaoaa
