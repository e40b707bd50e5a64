/- All lists of different numbers that begin so, in plain mathematics. -/
import Derived.Test.YtakipaehoeapcaaDiff
import Derived.Test.YtakipaehoeapcaaNamedModel
namespace Go.Proofs.Ytakipaehoeapcaa
set_option linter.unusedVariables false

/-- The list that begins so, and all that go on behind it with at most f numbers more below n, in order; of two at least. -/
def longer (n : Nat) : Nat → List Int → List (List Int)
  | 0, B => if 2 ≤ B.length then [B] else []
  | f + 1, B => (if 2 ≤ B.length then [B] else []) ++ (List.range n).flatMap fun (x : Nat) => if (x : Int) ∈ B then [] else longer n f (B ++ [(x : Int)])
/-- Those of them whose next number is below k. -/
def longerTo (n f : Nat) (B : List Int) (k : Nat) : List (List Int) := (if 2 ≤ B.length then [B] else []) ++ (List.range k).flatMap fun (x : Nat) => if (x : Int) ∈ B then [] else longer n f (B ++ [(x : Int)])
theorem longerTo_zero (n f : Nat) (B : List Int) : longerTo n f B 0 = if 2 ≤ B.length then [B] else [] := by simp [longerTo]
theorem longerTo_in {n f k : Nat} {B : List Int} (h : (k : Int) ∈ B) : longerTo n f B (k + 1) = longerTo n f B k := by
  unfold longerTo
  rw [List.range_succ, List.flatMap_append]
  simp [h]
theorem longerTo_new {n f k : Nat} {B : List Int} (h : ¬ (k : Int) ∈ B) : longerTo n f B (k + 1) = longerTo n f B k ++ longer n f (B ++ [(k : Int)]) := by
  unfold longerTo
  rw [List.range_succ, List.flatMap_append]
  simp [h]
theorem longer_succ (n f : Nat) (B : List Int) : longer n (f + 1) B = longerTo n f B n := rfl

/-- The k-th number of a list. -/
def nth (B : List Int) (k : Nat) : Int := B.getD k 0
theorem nth_snoc_lt {B : List Int} {x : Int} {k : Nat} (h : k < B.length) : nth (B ++ [x]) k = nth B k := by
  unfold nth; rw [List.getD_eq_getElem?_getD, List.getD_eq_getElem?_getD, List.getElem?_append_left h]
theorem nth_snoc {B : List Int} {x : Int} : nth (B ++ [x]) B.length = x := by
  unfold nth; rw [List.getD_eq_getElem?_getD, List.getElem?_append_right (Nat.le_refl _)]; simp
theorem mem_nth {B : List Int} {x : Int} : x ∈ B ↔ ∃ j, j < B.length ∧ nth B j = x := by
  rw [List.mem_iff_getElem]
  constructor
  · rintro ⟨j, hj, e⟩
    exact ⟨j, hj, by unfold nth; rw [List.getD_eq_getElem?_getD, List.getElem?_eq_getElem hj]; simpa using e⟩
  · rintro ⟨j, hj, e⟩
    refine ⟨j, hj, ?_⟩
    unfold nth at e
    rw [List.getD_eq_getElem?_getD, List.getElem?_eq_getElem hj] at e
    simpa using e

/-- Different numbers below n. -/
def Diff (n : Nat) (B : List Int) : Prop := IsDiff n B.length (nth B)
theorem Diff.nil (n : Nat) : Diff n [] := IsDiff.nil n _
theorem Diff.snoc_iff {n x : Nat} {B : List Int} (h : Diff n B) (hx : x < n) : Diff n (B ++ [(x : Int)]) ↔ ¬ (x : Int) ∈ B := by
  have hl : (B ++ [(x : Int)]).length = B.length + 1 := by simp
  constructor
  · intro hd hm
    obtain ⟨j, hj, e⟩ := mem_nth.1 hm
    refine hd.2 j B.length hj (by omega) ?_
    rw [nth_snoc_lt hj, nth_snoc, e]
  · intro hm
    refine ⟨fun i hi => ?_, fun i j hij hj => ?_⟩
    · by_cases e : i < B.length
      · rw [nth_snoc_lt e]; exact h.1 i e
      · have : i = B.length := by omega
        rw [this, nth_snoc]; omega
    · rw [nth_snoc_lt (show i < B.length by omega)]
      by_cases e : j < B.length
      · rw [nth_snoc_lt e]; exact h.2 i j hij e
      · have : j = B.length := by omega
        rw [this, nth_snoc]
        exact fun e' => hm (mem_nth.2 ⟨i, by omega, e'⟩)
/-- No more than n of them. -/
theorem diff_le {n m : Nat} {X : Nat → Int} (h : IsDiff n m X) : m ≤ n := by
  rcases Nat.lt_or_ge n m with h' | h'
  · have hn : IsDiff n n X := ⟨fun i hi => h.1 i (by omega), fun i j h1 h2 => h.2 i j h1 (by omega)⟩
    have h1 := h.1 n h'
    obtain ⟨x, hx⟩ := Int.eq_ofNat_of_zero_le h1.1
    obtain ⟨i, hi, e⟩ := hn.all (r := x) (by omega)
    exact absurd (e.trans hx.symm) (h.2 i n hi h')
  · exact h'
/-- n of them are all. -/
theorem Diff.full {n x : Nat} {B : List Int} (h : Diff n B) (hl : B.length = n) (hx : x < n) : (x : Int) ∈ B := by
  unfold Diff at h
  rw [hl] at h
  obtain ⟨i, hi, e⟩ := h.all hx
  exact mem_nth.2 ⟨i, by omega, e⟩
theorem longer_eq {n f : Nat} {B : List Int} (h : Diff n B) (hf : B.length + f = n) : longer n f B = longerTo n (f - 1) B n := by
  cases f with
  | succ f => rfl
  | zero =>
    have : ∀ k, k ≤ n → longerTo n 0 B k = longerTo n 0 B 0 := by
      intro k
      induction k with
      | zero => intro _; rfl
      | succ k ih => intro hk; rw [longerTo_in (h.full (by omega) (by omega)), ih (by omega)]
    show longer n 0 B = longerTo n 0 B n
    rw [this n (Nat.le_refl _), longerTo_zero]
    rfl

/-- They are not many. -/
theorem flat_le {c : Nat} {f : Nat → List (List Int)} (h : ∀ x, (f x).length ≤ c) (k : Nat) : ((List.range k).flatMap f).length ≤ k * c := by
  induction k with
  | zero => simp
  | succ k ih =>
    rw [List.range_succ, List.flatMap_append, List.length_append, Nat.succ_mul]
    have := h k
    simp only [List.flatMap_cons, List.flatMap_nil, List.append_nil]
    omega
theorem head_le (B : List Int) : (if 2 ≤ B.length then [B] else []).length ≤ 1 := by
  by_cases h : 2 ≤ B.length
  · rw [if_pos h]; simp
  · rw [if_neg h]; simp
theorem longer_le {n : Nat} (h5 : n ≤ 5) : ∀ (f : Nat) (B : List Int), (longer n f B).length ≤ 6 ^ f
  | 0, B => head_le B
  | f + 1, B => by
    have h1 := head_le B
    have h2 := flat_le (f := fun (x : Nat) => if (x : Int) ∈ B then [] else longer n f (B ++ [(x : Int)])) (c := 6 ^ f) (fun x => by
      by_cases e : (x : Int) ∈ B
      · simp [e]
      · simp only [if_neg e]; exact longer_le h5 f _) n
    have h3 : n * 6 ^ f ≤ 5 * 6 ^ f := Nat.mul_le_mul_right _ h5
    have h4 := Nat.pow_pos (n := f) (show 0 < 6 by omega)
    unfold longer
    rw [List.length_append, Nat.pow_succ]
    omega
theorem longerTo_le {n : Nat} (h5 : n ≤ 5) (f k : Nat) (B : List Int) (hk : k ≤ n) : (longerTo n f B k).length ≤ 6 ^ (f + 1) := by
  have h1 := head_le B
  have h2 := flat_le (f := fun (x : Nat) => if (x : Int) ∈ B then [] else longer n f (B ++ [(x : Int)])) (c := 6 ^ f) (fun x => by
    by_cases e : (x : Int) ∈ B
    · simp [e]
    · simp only [if_neg e]; exact longer_le h5 f _) k
  have h3 : k * 6 ^ f ≤ 5 * 6 ^ f := Nat.mul_le_mul_right _ (by omega)
  have h4 := Nat.pow_pos (n := f) (show 0 < 6 by omega)
  unfold longerTo
  rw [List.length_append, Nat.pow_succ]
  omega
/-- All that they tell of are different numbers, two at least, that begin so. -/
theorem mem_longer {n : Nat} : ∀ (f : Nat) (B : List Int), Diff n B → ∀ D, D ∈ longer n f B → Diff n D ∧ 2 ≤ D.length
  | 0, B, h, D, hD => by
    unfold longer at hD
    by_cases e : 2 ≤ B.length
    · rw [if_pos e] at hD; simp at hD; subst hD; exact ⟨h, e⟩
    · rw [if_neg e] at hD; simp at hD
  | f + 1, B, h, D, hD => by
    unfold longer at hD
    rw [List.mem_append] at hD
    rcases hD with hD | hD
    · by_cases e : 2 ≤ B.length
      · rw [if_pos e] at hD; simp at hD; subst hD; exact ⟨h, e⟩
      · rw [if_neg e] at hD; simp at hD
    · rw [List.mem_flatMap] at hD
      obtain ⟨x, hx, hD⟩ := hD
      rw [List.mem_range] at hx
      by_cases e : (x : Int) ∈ B
      · rw [if_pos e] at hD; simp at hD
      · rw [if_neg e] at hD
        exact mem_longer f _ ((h.snoc_iff hx).2 e) D hD
end Go.Proofs.Ytakipaehoeapcaa
