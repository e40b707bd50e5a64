/- The best way, in plain mathematics. -/
import Derived.Test.YtmjbocgoinfamaaMem
namespace Go.Proofs.Ytmjbocgoinfamaa
set_option linter.unusedVariables false

/-- The value of a way. -/
def wayV (n : Nat) (Z : Nat → Nat → Int) (D : List Int) : Int := valF Z (nth D) (p12 ((n : Int) - 1 - D.length + 1).toNat) (D.length - 1)
/-- The greatest value, b at least, of those of the ways LL that end at k. -/
def bestL (n : Nat) (Z : Nat → Nat → Int) (k b : Int) (LL : List (List Int)) : Int := LL.foldl (fun v D => if nth D (D.length - 1) = k then max v (wayV n Z D) else v) b
theorem bestL_snoc {n : Nat} {Z : Nat → Nat → Int} {k b : Int} {LL : List (List Int)} {D : List Int} : bestL n Z k b (LL ++ [D]) = if nth D (D.length - 1) = k then max (bestL n Z k b LL) (wayV n Z D) else bestL n Z k b LL := by
  unfold bestL; rw [List.foldl_append]; rfl
theorem bestL_yes {n : Nat} {Z : Nat → Nat → Int} {k b : Int} {LL : List (List Int)} {D : List Int} (h : nth D (D.length - 1) = k) : bestL n Z k b (LL ++ [D]) = max (bestL n Z k b LL) (wayV n Z D) := by rw [bestL_snoc, if_pos h]
theorem bestL_no {n : Nat} {Z : Nat → Nat → Int} {k b : Int} {LL : List (List Int)} {D : List Int} (h : ¬ nth D (D.length - 1) = k) : bestL n Z k b (LL ++ [D]) = bestL n Z k b LL := by rw [bestL_snoc, if_neg h]
theorem bestL_none {n : Nat} {Z : Nat → Nat → Int} {k b : Int} (LL : List (List Int)) (h : ∀ D, D ∈ LL → nth D (D.length - 1) ≠ k) : bestL n Z k b LL = b := by
  unfold bestL
  induction LL with
  | nil => rfl
  | cons D LL ih =>
    rw [List.foldl_cons, if_neg (h D (by simp))]
    exact ih (fun E hE => h E (by simp [hE]))
theorem bestL_congr {n : Nat} {Y Z : Nat → Nat → Int} {k b : Int} (LL : List (List Int)) (h : ∀ D, D ∈ LL → wayV n Y D = wayV n Z D) : bestL n Y k b LL = bestL n Z k b LL := by
  unfold bestL
  induction LL generalizing b with
  | nil => rfl
  | cons D LL ih =>
    rw [List.foldl_cons, List.foldl_cons, h D (by simp)]
    exact ih (fun E hE => h E (by simp [hE]))
/-- What RateBest answers. -/
noncomputable def bestAns (n : Nat) (L : Nat → Nat) (Z : Nat → Nat → Int) (i k : Int) : Int := if tt (TwoOk n L Z i k) = true then bestL n Z k (if i = k then p12 (n - 1) else 0) (longer n (n - 1) [i]) else 0
theorem bestAns_no {n : Nat} {L : Nat → Nat} {Z : Nat → Nat → Int} {i k : Int} (h : ¬ TwoOk n L Z i k) : bestAns n L Z i k = 0 := by unfold bestAns; rw [tt_no h]; rfl
theorem bestAns_yes {n : Nat} {L : Nat → Nat} {Z : Nat → Nat → Int} {i k : Int} (h : TwoOk n L Z i k) : bestAns n L Z i k = bestL n Z k (if i = k then p12 (n - 1) else 0) (longer n (n - 1) [i]) := by unfold bestAns; rw [tt_of h]; rfl
theorem front_nth {f n : Nat} : ∀ (B : List Int) (D : List Int), D ∈ longer n f B → B <+: D := by
  induction f with
  | zero =>
    intro B D h
    unfold longer at h
    by_cases e : 2 ≤ B.length
    · rw [if_pos e] at h; simp at h; subst h; exact List.prefix_refl _
    · rw [if_neg e] at h; simp at h
  | succ f ih =>
    intro B D h
    unfold longer at h
    rw [List.mem_append] at h
    rcases h with h | h
    · by_cases e : 2 ≤ B.length
      · rw [if_pos e] at h; simp at h; subst h; exact List.prefix_refl _
      · rw [if_neg e] at h; simp at h
    · rw [List.mem_flatMap] at h
      obtain ⟨x, hx, h⟩ := h
      by_cases e : (x : Int) ∈ B
      · rw [if_pos e] at h; simp at h
      · rw [if_neg e] at h
        exact (List.prefix_append _ _).trans (ih _ D h)
/-- All lists behind [i] are ways that begin with i. -/
theorem ways_of {n i : Nat} (hi : i < n) {D : List Int} (h : D ∈ longer n (n - 1) [(i : Int)]) : IsWay n D.length (nth D) ∧ nth D 0 = i := by
  have hd : Diff n [(i : Int)] := by
    have := (Diff.nil n).snoc_iff (x := i) hi
    simp at this
    exact this
  have h1 := mem_longer (n - 1) [(i : Int)] hd D h
  refine ⟨⟨h1.1, h1.2, diff_le h1.1⟩, ?_⟩
  obtain ⟨z, rfl⟩ := front_nth _ D h
  rfl
/-- Round trips are no ways. -/
theorem best_same {n i : Nat} {Z : Nat → Nat → Int} {b : Int} (hi : i < n) : bestL n Z i b (longer n (n - 1) [(i : Int)]) = b := by
  refine bestL_none _ fun D hD => ?_
  obtain ⟨hw, h0⟩ := ways_of hi hD
  have h2 := hw.2.1
  have := hw.1.2 0 (D.length - 1) (by omega) (by omega)
  rw [h0] at this
  exact fun e => this e.symm
end Go.Proofs.Ytmjbocgoinfamaa
