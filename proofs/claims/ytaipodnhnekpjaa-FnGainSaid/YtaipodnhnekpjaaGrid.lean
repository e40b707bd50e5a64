/- A table of rows of one length that a draw makes by append, its rows with their room. -/
import Derived.Test.YtaipodnhnekpjaaDrawTab
import Derived.Test.YtaipodnhnekpjaaAppendRows
namespace Go.Proofs.Ytaipodnhnekpjaa
set_option linter.unusedVariables false
set_option linter.unusedSimpArgs false
open Go.RowKit

theorem owns_blocks {w w' : World} {B e n : Nat} {v : Value} {xs : List Value} (h : w.ownsRow B e 1 v n xs) (he : ∀ k, v.ownBlock = some k → w'.heap[k]? = w.heap[k]?) : w'.ownsRow B e 1 v n xs := by
  obtain ⟨k1, (k2 | ⟨g, cap, cur, k3, k4, k5, k6⟩)⟩ := h
  · exact ⟨k1, .inl k2⟩
  · exact ⟨k1, .inr ⟨g, cap, cur, k3, k4, (he g (by rw [k3]; rfl)).trans k5, k6⟩⟩
structure Grid (tS tI B i m : Nat) (w : World) (v : Value) (G Cp : Nat → Nat) (XX : Nat → Nat → Int) : Prop where
  top : w.ownsRow B tS 1 v i ((List.range i).map fun r => .slice (some ⟨G r, 0, none⟩) m (Cp r))
  row : ∀ r, r < i → w.ownsRow B tI 1 (.slice (some ⟨G r, 0, none⟩) m (Cp r)) m (cellsL m (XX r))
  far : ∀ r, r < i → v.ownBlock ≠ some (G r)
  inj : ∀ r s, r < i → s < i → r ≠ s → G r ≠ G s
namespace Grid
variable {tS tI B i m : Nat} {w w' : World} {v : Value} {G Cp : Nat → Nat} {XX : Nat → Nat → Int}
theorem of_blocks (h : Grid tS tI B i m w v G Cp XX) (e : ∀ k, B ≤ k → k < w.heap.size → w'.heap[k]? = w.heap[k]?) : Grid tS tI B i m w' v G Cp XX :=
  ⟨owns_blocks h.top fun k hk => e k (h.top.lt k hk).1 (h.top.lt k hk).2, fun r hr => owns_blocks (h.row r hr) fun k hk => e k ((h.row r hr).lt k hk).1 ((h.row r hr).lt k hk).2, h.far, h.inj⟩
theorem below (h : Grid tS tI B i m w v G Cp XX) (hb : Below w.heap.size w w') : Grid tS tI B i m w' v G Cp XX := h.of_blocks fun k _ hk => hb.block k hk
theorem butR {r : Nat} (h : Grid tS tI B i m w v G Cp XX) (hr : r < B) (hb : ButR r w.heap.size w w') : Grid tS tI B i m w' v G Cp XX := h.of_blocks fun k h1 hk => hb.block k hk (by omega)
theorem start (h : w.ownsRow B tS 1 v 0 []) : Grid tS tI B 0 m w v G Cp XX := ⟨h, fun r hr => absurd hr (Nat.not_lt_zero _), fun r hr => absurd hr (Nat.not_lt_zero _), fun r s hr => absurd hr (Nat.not_lt_zero _)⟩
theorem next {w2 : World} {v2 : Value} {g cap : Nat} {X : Nat → Int} (h : Grid tS tI B i m w v G Cp XX) (hr : w.ownsRow B tI 1 (.slice (some ⟨g, 0, none⟩) m cap) m (cellsL m X)) (hv : v.ownBlock ≠ some g) (hG : ∀ r, r < i → G r ≠ g)
    (hown : w2.ownsRow B tS 1 v2 (i + 1) (((List.range i).map fun r => .slice (some ⟨G r, 0, none⟩) m (Cp r)) ++ [.slice (some ⟨g, 0, none⟩) m cap])) (hg : w.grownBy w2 v.ownBlock) (hat : v2.ownBlock = v.ownBlock ∨ v2.ownBlock = some w.heap.size) :
    Grid tS tI B (i + 1) m w2 v2 (fun r => if r < i then G r else g) (fun r => if r < i then Cp r else cap) (fun r => if r < i then XX r else X) := by
  have hne : ∀ x, x < w.heap.size → v.ownBlock ≠ some x → v2.ownBlock ≠ some x := by
    intro x hx hne e
    rcases hat with h' | h'
    · exact hne (by rw [← h']; exact e)
    · rw [h'] at e
      have := Option.some.inj e
      omega
  have hgl := hr.lt g rfl
  refine ⟨?_, fun r hri => ?_, fun r hri => ?_, fun r s hri hsi hrs => ?_⟩
  · rw [List.range_succ, List.map_append, List.map_cons, List.map_nil]
    have e1 : (List.range i).map (fun r => Value.slice (some ⟨if r < i then G r else g, 0, none⟩) m (if r < i then Cp r else cap)) = (List.range i).map (fun r => Value.slice (some ⟨G r, 0, none⟩) m (Cp r)) :=
      List.map_congr_left fun r hr => by rw [if_pos (List.mem_range.1 hr), if_pos (List.mem_range.1 hr)]
    have e2 : Value.slice (some ⟨if i < i then G i else g, 0, none⟩) m (if i < i then Cp i else cap) = .slice (some ⟨g, 0, none⟩) m cap := by rw [if_neg (Nat.lt_irrefl _), if_neg (Nat.lt_irrefl _)]
    show w2.ownsRow B tS 1 v2 (i + 1) (_ ++ [Value.slice (some ⟨if i < i then G i else g, 0, none⟩) m (if i < i then Cp i else cap)])
    rw [e2]
    rw [← e1] at hown
    exact hown
  · by_cases e : r < i
    · rw [if_pos e, if_pos e, if_pos e]
      exact owns_blocks (h.row r e) fun k hk => hg.block k ((h.row r e).lt k hk).2 (fun e' => h.far r e (by rw [← e', ← hk]; rfl))
    · rw [if_neg e, if_neg e, if_neg e]
      exact owns_blocks hr fun k hk => by
        have : g = k := Option.some.inj hk
        subst this
        exact hg.block _ hgl.2 (fun e' => hv e'.symm)
  · by_cases e : r < i
    · rw [if_pos e]; exact hne _ ((h.row r e).lt _ rfl).2 (h.far r e)
    · rw [if_neg e]; exact hne _ hgl.2 hv
  · show (if r < i then G r else g) ≠ (if s < i then G s else g)
    by_cases e1 : r < i
    · rw [if_pos e1]
      by_cases e2 : s < i
      · rw [if_pos e2]; exact h.inj r s e1 e2 hrs
      · rw [if_neg e2]; exact hG r e1
    · rw [if_neg e1, if_pos (by omega)]
      exact fun e => hG s (by omega) e.symm
/-- As a table that is read. -/
theorem tab (h : Grid tS tI B i m w v G Cp XX) {g cap : Nat} (hv : v = .slice (some ⟨g, 0, none⟩) i cap) : Tab w (some ⟨g, 0, none⟩) i (fun r => some ⟨G r, 0, none⟩) (fun _ => m) Cp XX := fun r hr => by
  subst hv
  have h1 := h.top.cells (g := g) rfl r (.slice (some ⟨G r, 0, none⟩) m (Cp r)) (by simp [hr])
  rw [Go.WideShapes.add_plain] at h1
  exact ⟨g, 0, rfl, h1, owns_rd (h.row r hr)⟩
theorem apart (h : Grid tS tI B i m w v G Cp XX) {g cap : Nat} (hv : v = .slice (some ⟨g, 0, none⟩) i cap) : Apart B i (some ⟨g, 0, none⟩) (fun r => some ⟨G r, 0, none⟩) := by
  subst hv
  refine ⟨fun b o e => ?_, fun s hs b o e => ?_⟩
  · cases e; exact (h.top.lt g rfl).1
  · cases e; exact ((h.row s hs).lt _ rfl).1
end Grid
end Go.Proofs.Ytaipodnhnekpjaa
