/- A table in the making: its base lowered; one row more, its top row nil or not. -/
import Derived.Test.YtopoeeahociohaaLists
namespace Go.Proofs.Ytopoeeahociohaa
set_option linter.unusedVariables false
set_option linter.unusedSimpArgs false
open Go.RowKit

theorem Making.lower {tS B B' i : Nat} {w : World} {v : Value} {G Cp L : Nat → Nat} {X : Nat → Nat → Int} (h : Making tS B w v i G Cp L X) (hB : B' ≤ B) : Making tS B' w v i G Cp L X := by
  obtain ⟨⟨k0, k1⟩, h2, h3⟩ := h
  refine ⟨⟨k0, ?_⟩, fun r hr => ⟨Nat.le_trans hB (h2 r hr).1, (h2 r hr).2⟩, h3⟩
  rcases k1 with k1 | ⟨g, cap, cur, e1, e2, e3⟩
  · exact .inl k1
  · exact .inr ⟨g, cap, cur, e1, Nat.le_trans hB e2, e3⟩
/-- One row more, appended. -/
theorem Making.push {tS B gr cr : Nat} {w w2 : World} {v v2 : Value} {LL : List (List Int)} {x : List Int} {G Cp : Nat → Nat} (hM : Making tS B w v LL.length G Cp (lenL LL) (nthL LL)) (hr : OwnR w gr (some ⟨gr, 0, none⟩) x.length (nth x)) (h1 : B ≤ gr) (h2 : gr < w.heap.size) (h3 : v.ownBlock ≠ some gr) (h4 : ∀ r, r < LL.length → G r ≠ gr)
    (hown : w2.ownsRow B tS 1 v2 (LL.length + 1) (((List.range LL.length).map fun r => Value.slice (some ⟨G r, 0, none⟩) (lenL LL r) (Cp r)) ++ [.slice (some ⟨gr, 0, none⟩) x.length cr])) (hg : w.grownBy w2 v.ownBlock) (hat : v2.ownBlock = v.ownBlock ∨ v2.ownBlock = some w.heap.size) :
    Making tS B w2 v2 (LL ++ [x]).length (fun r => if r < LL.length then G r else gr) (fun r => if r < LL.length then Cp r else cr) (lenL (LL ++ [x])) (nthL (LL ++ [x])) := by
  obtain ⟨g2, cap2, rfl⟩ := owns_form hown (Nat.succ_pos _)
  have hM1 := hM.snoc x
  rw [List.length_append, List.length_singleton]
  refine hM1.next (gr := gr) (cr := cr) (H := w.heap.size) (by rw [lists_snoc.1, lists_snoc.2]; exact hr) h1 h2 h3 h4 ?_ hg ?_ (Nat.le_refl _)
  · have e : ((List.range LL.length).map fun r => Value.slice (some ⟨G r, 0, none⟩) (lenL (LL ++ [x]) r) (Cp r)) = (List.range LL.length).map fun r => Value.slice (some ⟨G r, 0, none⟩) (lenL LL r) (Cp r) := List.map_congr_left fun r hr => by rw [(lists_left (List.mem_range.1 hr)).1]
    rw [e, lists_snoc.1]
    exact hown
  · rcases hat with h | h
    · exact .inl h.symm
    · exact .inr (Option.some.inj h)

end Go.Proofs.Ytopoeeahociohaa
