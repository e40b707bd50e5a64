/- Ways against the best one, and backwards. -/
import Derived.Test.YtmjbocgoinfamaaBestBack
import Derived.Test.YtmjbocgoinfamaaWayModel
namespace Go.Proofs.Ytmjbocgoinfamaa
set_option linter.unusedVariables false

/-- The first m numbers as a list. -/
def wayL (m : Nat) (X : Nat → Int) : List Int := (List.range m).map X
theorem wayL_length (m : Nat) (X : Nat → Int) : (wayL m X).length = m := by simp [wayL]
theorem nth_wayL {m j : Nat} {X : Nat → Int} (h : j < m) : nth (wayL m X) j = X j := by
  unfold nth wayL
  rw [List.getD_eq_getElem?_getD]
  simp [h]
theorem wayL_diff {n m : Nat} {X : Nat → Int} (h : IsDiff n m X) : Diff n (wayL m X) := by
  unfold Diff
  rw [wayL_length]
  refine ⟨fun i hi => ?_, fun i j hij hj => ?_⟩
  · rw [nth_wayL hi]; exact h.1 i hi
  · rw [nth_wayL (by omega), nth_wayL hj]; exact h.2 i j hij hj
theorem wayL_back (m : Nat) (X : Nat → Int) : wayL m (fun j => X (m - 1 - j)) = (wayL m X).reverse := by
  refine List.ext_getElem (by simp [wayL]) fun i h1 h2 => ?_
  simp only [wayL, List.getElem_reverse, List.getElem_map, List.getElem_range, List.length_map, List.length_range]
theorem wayAns_list {n m : Nat} {L : Nat → Nat} {Z : Nat → Nat → Int} {X : Nat → Int} (h : WayOk n L Z m X) : wayAns n L Z m X = p12 ((n : Int) - 1 - m + 1).toNat * along Z (wayL m X) := by
  have h2 := h.2.2.1
  rw [wayAns_yes h, valF_along, show m - 1 + 1 = m by omega]
  rfl
theorem way_two {n m : Nat} {L : Nat → Nat} {Z : Nat → Nat → Int} {X : Nat → Int} (h : WayOk n L Z m X) : TwoOk n L Z (X 0) (X (m - 1)) := by
  have h2 := h.2.2.1
  have h0 := h.2.1.1 0 (by omega)
  have h1 := h.2.1.1 (m - 1) (by omega)
  exact ⟨h.1, ⟨h0.1, by omega⟩, ⟨h1.1, by omega⟩⟩
theorem way_le_best {n m : Nat} {L : Nat → Nat} {Z : Nat → Nat → Int} {X : Nat → Int} (h : WayOk n L Z m X) : wayAns n L Z m X ≤ bestAns n L Z (X 0) (X (m - 1)) := by
  have h2 := h.2.2.1
  have h0 := h.2.1.1 0 (by omega)
  rw [bestAns_yes (way_two h), wayAns_list h]
  obtain ⟨i, hi⟩ := Int.eq_ofNat_of_zero_le h0.1
  have hw : WayTo n i (X (m - 1)) (wayL m X) := ⟨wayL_diff h.2.1, by rw [wayL_length]; exact h2, by rw [nth_wayL (by omega)]; exact hi, by rw [wayL_length, nth_wayL (by omega)]⟩
  obtain ⟨mem, e⟩ := (mem_ways (by omega)).2 hw
  rw [hi]
  have := best_ge (n := n) (Z := Z) e _ (if (i : Int) = X (m - 1) then p12 (n - 1) else 0) mem
  rw [wayV_along (by rw [wayL_length]; omega), wayL_length] at this
  exact this
theorem way_back_ok {n m : Nat} {L : Nat → Nat} {Z : Nat → Nat → Int} {X : Nat → Int} (h : WayOk n L Z m X) : WayOk n (fun _ => n) (turnX Z) m (fun j => X (m - 1 - j)) :=
  ⟨turn_rates h.1, ⟨fun i hi => h.2.1.1 _ (by omega), fun i j hij hj e => h.2.1.2 (m - 1 - j) (m - 1 - i) (by omega) (by omega) e.symm⟩, h.2.2⟩
theorem way_turned {n m : Nat} {L : Nat → Nat} {Z : Nat → Nat → Int} {X : Nat → Int} (h : WayOk n L Z m X) : wayAns n (fun _ => n) (turnX Z) m (fun j => X (m - 1 - j)) = wayAns n L Z m X := by
  rw [wayAns_list h, wayAns_list (way_back_ok h), wayL_back, along_back]
end Go.Proofs.Ytmjbocgoinfamaa
