/- Lists that may go on to circles, as the program finds them; in plain mathematics. -/
import Derived.Test.YteigenmagifplaaCircsModel
import Derived.Test.YteigenmagifplaaIdxF
namespace Go.Proofs.Yteigenmagifplaa
set_option linter.unusedVariables false
set_option linter.unusedSimpArgs false
open Go.RowKit

/-- Different people, the first one the least, each one wanting the thing of the next one. -/
def PathP (n : Nat) (W : Nat → Int) (B : List Int) : Prop :=
  1 ≤ B.length ∧ Diff n B ∧ (∀ i, 0 < i → i < B.length → nth B 0 < nth B i) ∧ ∀ i, i + 1 < B.length → WantsB W (nth B i).toNat (nth B (i + 1)).toNat = true
section
variable {n m f : Nat} {W : Nat → Int} {B : List Int}
theorem path_one {x : Nat} (h : x < n) : PathP n W [(x : Int)] := by
  refine ⟨by simp, ⟨fun i hi => ?_, fun i j h1 h2 => ?_⟩, fun i h1 h2 => ?_, fun i h1 => ?_⟩
  · have : i = 0 := by simpa using hi
    subst this
    show 0 ≤ (x : Int) ∧ (x : Int) < n
    omega
  · simp at h2; omega
  · simp at h2; omega
  · simp at h1
theorem path_circ (hW : IsWants n W) (h : PathP n W B) (hm : B.length = m + 1) : IsCirc n W B.length (nth B) ↔ WantsB W (nth B m).toNat (nth B 0).toNat = true := by
  obtain ⟨h1, h2, h3, h4⟩ := h
  constructor
  · intro hc
    have := hc.2.2.1 m (by omega)
    rwa [hm, Nat.mod_self] at this
  · intro hb
    have hm1 : 1 ≤ m := by
      cases m with
      | zero =>
        have hr := h2.1 0 (by omega)
        have := (hW.2 (nth B 0).toNat (by omega)).2.2
        rw [hb] at this; cases this
      | succ m => omega
    refine ⟨h2, h3, fun i hi => ?_, by omega⟩
    by_cases e : i = m
    · subst e; rw [hm, Nat.mod_self]; exact hb
    · rw [Nat.mod_eq_of_lt (by omega)]; exact h4 i (by omega)
theorem path_goes (h : PathP n W B) (hm : B.length = m + 1) {q x : Nat} (hx : nth B 0 = x) (hq : x < q) : GoesOn W B q ↔ WantsB W (nth B m).toNat q = true ∧ ¬ HasI (m + 1) (nth B) q := by
  unfold GoesOn
  rw [hm]
  constructor
  · rintro ⟨h1, h2⟩
    refine ⟨?_, fun ⟨i, hi, e⟩ => (h1 i hi).1 e⟩
    rcases h2 with h2 | h2
    · omega
    · exact h2
  · rintro ⟨h1, h2⟩
    exact ⟨fun i hi => ⟨fun e => h2 ⟨i, hi, e⟩, by omega⟩, .inr h1⟩
theorem path_next (h : PathP n W B) (hm : B.length = m + 1) {q x : Nat} (hx : nth B 0 = x) (hq : x < q) (hqn : q < n) (hw : WantsB W (nth B m).toNat q = true) (hn : ¬ HasI (m + 1) (nth B) q) : PathP n W (B ++ [(q : Int)]) := by
  obtain ⟨h1, h2, h3, h4⟩ := h
  have hnm : ¬ (q : Int) ∈ B := fun hmem => by
    obtain ⟨j, hj, e⟩ := mem_nth.1 hmem
    exact hn ⟨j, by omega, e⟩
  have hl : (B ++ [(q : Int)]).length = m + 2 := by rw [List.length_append, hm]; rfl
  have hlow : ∀ j, j < m + 1 → nth (B ++ [(q : Int)]) j = nth B j := fun j hj => nth_snoc_lt (by omega)
  have htop : nth (B ++ [(q : Int)]) (m + 1) = q := by rw [← hm]; exact nth_snoc
  refine ⟨by omega, (h2.snoc_iff hqn).2 hnm, fun i h5 h6 => ?_, fun i h5 => ?_⟩
  · rw [hlow 0 (by omega)]
    by_cases e : i = m + 1
    · rw [e, htop, hx]; omega
    · rw [hlow i (by omega)]; exact h3 i h5 (by omega)
  · by_cases e : i = m
    · rw [e, htop, hlow m (by omega), Int.toNat_natCast]; exact hw
    · rw [hlow i (by omega), hlow (i + 1) (by omega)]; exact h4 i (by omega)
theorem path_skip (h : PathP n W B) {x : Nat} (hx : nth B 0 = x) : ∀ q, q ≤ x + 1 → circsTo n W f B q = circ1 n W B
  | 0, _ => circsTo_zero
  | q + 1, hq => by
    rw [circsTo_no (fun hg => by have := (hg.1 0 (by have := h.1; omega)).2; omega)]
    exact path_skip h hx q (by omega)
end
end Go.Proofs.Yteigenmagifplaa
