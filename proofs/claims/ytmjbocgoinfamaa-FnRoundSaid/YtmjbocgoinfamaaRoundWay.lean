/- A round as a way and its last change. -/
import Derived.Test.YtmjbocgoinfamaaWayBack
import Derived.Test.YtmjbocgoinfamaaGainModel
namespace Go.Proofs.Ytmjbocgoinfamaa
set_option linter.unusedVariables false

theorem valF_same {Z : Nat → Nat → Int} {W W' : Nat → Int} {v : Int} : ∀ (k : Nat), (∀ j, j ≤ k → W j = W' j) → valF Z W v k = valF Z W' v k
  | 0, _ => rfl
  | k + 1, h => by
    show valF Z W v k * Z (W k).toNat (W (k + 1)).toNat = valF Z W' v k * Z (W' k).toNat (W' (k + 1)).toNat
    rw [valF_same k (fun j hj => h j (by omega)), h k (by omega), h (k + 1) (Nat.le_refl _)]
theorem round_bound {n m : Nat} {L : Nat → Nat} {Z : Nat → Nat → Int} {X : Nat → Int} (hr : IsRates n L Z) (h : IsWay n m X) : 0 ≤ roundV n Z m X ∧ roundV n Z m X ≤ 9223372036854775807 := by
  have hc := closeF_in h
  have hn := hr.1.2
  have hmn := h.2.2
  have := valF_bound (Z := Z) (W := closeF m X) (v := p12 ((n : Int) - (m + 1 : Nat) + 1).toNat) m (by omega) (p12_small _ (by omega)) (fun j hj => by
    have h1 := hc j
    have h2 := hc (j + 1)
    have := ((hr.2 (closeF m X j).toNat (by omega)).2 (closeF m X (j + 1)).toNat (by omega)).1
    omega)
  unfold roundV
  omega
theorem round_way {n m : Nat} {L : Nat → Nat} {Z : Nat → Nat → Int} {X : Nat → Int} (h : RoundOk n L Z m X) : roundV n Z m X = wayAns n L Z m X * Z (X (m - 1)).toNat (X 0).toNat := by
  have hw : WayOk n L Z m X := ⟨h.1, h.2.1⟩
  have h2 := h.2.1.2.1
  rw [wayAns_yes hw]
  unfold roundV
  obtain ⟨k, rfl⟩ : ∃ k, m = k + 1 := ⟨m - 1, by omega⟩
  show valF Z (closeF (k + 1) X) _ k * Z (closeF (k + 1) X k).toNat (closeF (k + 1) X (k + 1)).toNat = _
  have e1 : closeF (k + 1) X k = X k := by unfold closeF; rw [if_pos (by omega)]
  have e2 : closeF (k + 1) X (k + 1) = X 0 := by unfold closeF; rw [if_neg (by omega)]
  have e3 : ((n : Int) - (k + 1 + 1 : Nat) + 1).toNat = ((n : Int) - 1 - (k + 1 : Nat) + 1).toNat := by omega
  rw [e1, e2, e3, Nat.add_sub_cancel, valF_same (W := closeF (k + 1) X) (W' := X) k (fun j hj => by unfold closeF; rw [if_pos (by omega)])]
theorem close_wayL {m : Nat} {X : Nat → Int} (h : 1 ≤ m) : closeF m (nth (wayL m X)) = closeF m X := by
  funext k
  unfold closeF
  by_cases e : k < m
  · rw [if_pos e, if_pos e, nth_wayL e]
  · rw [if_neg e, if_neg e, nth_wayL (by omega)]
theorem round_gains {n m : Nat} {L : Nat → Nat} {Z : Nat → Nat → Int} {X : Nat → Int} (h : RoundOk n L Z m X) (hg : p12 n < roundV n Z m X) : 0 < gainN n L Z := by
  have h2 := h.2.1.2.1
  have hring : IsRing n m (nth (wayL m X)) := by
    have hd := wayL_diff h.2.1.1
    unfold Diff at hd
    rw [wayL_length] at hd
    refine ⟨⟨hd, h.2.1.2⟩, fun i hi hi2 => ?_⟩
    rw [nth_wayL (by omega), nth_wayL hi2]
    exact h.2.2 i hi hi2
  have hv : roundV n Z m (nth (wayL m X)) = roundV n Z m X := by
    unfold roundV
    rw [close_wayL (by omega)]
  have hmem : wayL m X ∈ gaining n Z := mem_gaining.2 (by
    refine ⟨?_, ?_⟩
    · rw [wayL_length]; exact hring
    · rw [wayL_length, hv]; exact hg)
  rw [gainN_yes h.1]
  exact List.length_pos_of_mem hmem
theorem round_fair {n m : Nat} {L : Nat → Nat} {Z : Nat → Nat → Int} {X : Nat → Int} (h : RoundOk n L Z m X) (hne : roundV n Z m X ≠ p12 n) : ¬ FairOk n L Z := fun hf => hne (ring_mid h.1 hf.2 h.2)
end Go.Proofs.Ytmjbocgoinfamaa
