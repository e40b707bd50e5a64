/- The lists that the program's longer yields, in their order, in plain mathematics. -/
import Derived.Test.YtakipaehoeapcaaLongerModel
namespace Go.Proofs.Ytakipaehoeapcaa
set_option linter.unusedVariables false

/-- May x come behind B, least being the least that may? -/
def Next (least : Nat) (B : List Int) (x : Nat) : Prop := least ≤ x ∧ ¬ (x : Int) ∈ B
open Classical in
/-- The list that begins so, if of two at least, and all that go on behind it with at most f numbers from least on below n. -/
noncomputable def later (n least : Nat) : Nat → List Int → List (List Int)
  | 0, B => if 2 ≤ B.length then [B] else []
  | f + 1, B => (if 2 ≤ B.length then [B] else []) ++ (List.range n).flatMap fun (x : Nat) => if Next least B x then later n least f (B ++ [(x : Int)]) else []
open Classical in
/-- Those of them whose next number is below k. -/
noncomputable def laterTo (n least f : Nat) (B : List Int) (k : Nat) : List (List Int) := (if 2 ≤ B.length then [B] else []) ++ (List.range k).flatMap fun (x : Nat) => if Next least B x then later n least f (B ++ [(x : Int)]) else []
theorem laterTo_no {n least f k : Nat} {B : List Int} (h : ¬ Next least B k) : laterTo n least f B (k + 1) = laterTo n least f B k := by
  unfold laterTo
  rw [List.range_succ, List.flatMap_append]
  simp [h]
theorem laterTo_yes {n least f k : Nat} {B : List Int} (h : Next least B k) : laterTo n least f B (k + 1) = laterTo n least f B k ++ later n least f (B ++ [(k : Int)]) := by
  unfold laterTo
  rw [List.range_succ, List.flatMap_append]
  simp [h]
theorem laterTo_least {n least f : Nat} {B : List Int} : laterTo n least f B least = if 2 ≤ B.length then [B] else [] := by
  have : ∀ k, k ≤ least → laterTo n least f B k = if 2 ≤ B.length then [B] else [] := by
    intro k
    induction k with
    | zero => intro _; simp [laterTo]
    | succ k ih => intro hk; rw [laterTo_no (fun h => by have := h.1; omega), ih (by omega)]
  exact this least (Nat.le_refl _)
theorem laterTo_past {n least f k : Nat} {B : List Int} (h : n ≤ least) (hk : k ≤ n) : laterTo n least f B k = if 2 ≤ B.length then [B] else [] := by
  induction k with
  | zero => simp [laterTo]
  | succ k ih => rw [laterTo_no (fun h' => by have := h'.1; omega), ih (by omega)]
theorem later_eq {n least f : Nat} {B : List Int} (h : Diff n B) (hf : B.length + f = n) : later n least f B = laterTo n least (f - 1) B n := by
  cases f with
  | succ f => rfl
  | zero =>
    have : ∀ k, k ≤ n → laterTo n least 0 B k = laterTo n least 0 B 0 := by
      intro k
      induction k with
      | zero => intro _; rfl
      | succ k ih => intro hk; rw [laterTo_no (fun h' => h'.2 (h.full (by omega) (by omega))), ih (by omega)]
    show later n least 0 B = laterTo n least 0 B n
    rw [this n (Nat.le_refl _)]
    simp [laterTo, later]
/-- What has come when the next number is k is the front of what will have come. -/
theorem laterTo_front {n least f : Nat} {B : List Int} {k m : Nat} (h : k ≤ m) : laterTo n least f B k <+: laterTo n least f B m := by
  induction m with
  | zero => have : k = 0 := by omega
            subst this; exact List.prefix_refl _
  | succ m ih =>
    by_cases e : k = m + 1
    · subst e; exact List.prefix_refl _
    · have h1 := ih (by omega)
      by_cases hn : Next least B m
      · rw [laterTo_yes hn]; exact h1.trans (List.prefix_append _ _)
      · rw [laterTo_no hn]; exact h1
/-- All of them go on behind B. -/
theorem later_behind {n least : Nat} : ∀ (f : Nat) (B : List Int) (D : List Int), D ∈ later n least f B → B <+: D
  | 0, B, D, h => by
    unfold later at h
    by_cases e : 2 ≤ B.length
    · rw [if_pos e] at h; simp at h; subst h; exact List.prefix_refl _
    · rw [if_neg e] at h; simp at h
  | f + 1, B, D, h => by
    unfold later at h
    rw [List.mem_append] at h
    rcases h with h | h
    · by_cases e : 2 ≤ B.length
      · rw [if_pos e] at h; simp at h; subst h; exact List.prefix_refl _
      · rw [if_neg e] at h; simp at h
    · rw [List.mem_flatMap] at h
      obtain ⟨x, hx, h⟩ := h
      by_cases e : Next least B x
      · rw [if_pos e] at h
        exact (List.prefix_append _ _).trans (later_behind f _ D h)
      · rw [if_neg e] at h; simp at h
/-- From 0 on there is nothing to leave out. -/
theorem later_zero {n : Nat} : ∀ (f : Nat) (B : List Int), later n 0 f B = longer n f B
  | 0, B => rfl
  | f + 1, B => by
    unfold later longer
    congr 1
    refine congrArg (fun F => (List.range n).flatMap F) (funext fun x => ?_)
    by_cases e : (x : Int) ∈ B
    · rw [if_neg (fun h => h.2 e), if_pos e]
    · rw [if_pos ⟨Nat.zero_le _, e⟩, if_neg e, later_zero f]
/-- All the rounds of n moneys, in order: the first ones below k. -/
noncomputable def roundsTo (n k : Nat) : List (List Int) := (List.range k).flatMap fun (x : Nat) => later n (x + 1) (n - 1) [(x : Int)]
theorem roundsTo_succ (n k : Nat) : roundsTo n (k + 1) = roundsTo n k ++ later n (k + 1) (n - 1) [(k : Int)] := by
  unfold roundsTo
  rw [List.range_succ, List.flatMap_append]
  simp
theorem roundsTo_front {n k m : Nat} (h : k ≤ m) : roundsTo n k <+: roundsTo n m := by
  induction m with
  | zero => have : k = 0 := by omega
            subst this; exact List.prefix_refl _
  | succ m ih =>
    by_cases e : k = m + 1
    · subst e; exact List.prefix_refl _
    · rw [roundsTo_succ]; exact (ih (by omega)).trans (List.prefix_append _ _)
end Go.Proofs.Ytakipaehoeapcaa
