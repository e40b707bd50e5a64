/- Good givings, in plain mathematics. -/
import Derived.Test.YtgjegpponchdaaaDoorBlockGiv
namespace Go.Proofs.YtgjegpponchdaaaDoor
set_option linter.unusedVariables false
set_option linter.unusedSimpArgs false
open Go.RowKit

/-- Everybody together does not block. -/
def GoodP (n : Nat) (Z : Nat → Nat → Int) (G : Nat → Int) : Prop := ¬ BlocksP n Z G (2 ^ n - 1)
def GoodOk (n : Nat) (L : Nat → Nat) (Z : Nat → Nat → Int) (m : Nat) (G : Nat → Int) : Prop := GivenOk n L Z m G ∧ GoodP n Z G
theorem all_lt (n : Nat) : 2 ^ n - 1 < 2 ^ n := by have := Nat.two_pow_pos n; omega
theorem all_bit (n y : Nat) : (2 ^ n - 1).testBit y = decide (y < n) := Nat.testBit_two_pow_sub_one n y
theorem own_all {n : Nat} {X : Nat → Int} (hd : IsDiff n n X) : OwnP n (2 ^ n - 1) X := fun y => by
  rw [all_bit, decide_eq_true_iff]
  constructor
  · intro hy
    obtain ⟨i, hi, e⟩ := hd.all hy
    exact ⟨i, hi, by rw [all_bit, decide_eq_true_iff]; exact hi, e⟩
  · rintro ⟨i, hi, _, e⟩
    have := hd.1 i hi
    omega
theorem giv_diff {n : Nat} {D : List Int} (hD : D ∈ givs n n []) : IsDiff n n (nth D) := by
  have h3 := (mem_givs n [] (Diff.nil n) (by simp) _).1 hD
  have h4 := h3.1
  unfold Diff at h4
  rwa [h3.2.1] at h4
/-- No other giving is better for some and worse for none. -/
theorem good_iff {n : Nat} {L : Nat → Nat} {Z : Nat → Nat → Int} {G : Nat → Int} (hg : GivenOk n L Z n G) : GoodP n Z G ↔ ∀ D, D ∈ givs n n [] → ¬ BetterP n Z (2 ^ n - 1) G (nth D) := by
  unfold GoodP
  rw [blocks_iff hg (all_lt n)]
  constructor
  · intro h D hD hb
    exact h ⟨D, hD, own_all (giv_diff hD), hb⟩
  · rintro h ⟨D, hD, _, hb⟩
    exact h D hD hb
noncomputable def goodsL (n : Nat) (Z : Nat → Nat → Int) (LL : List (List Int)) : List (List Int) := LL.filter fun D => tt (GoodP n Z (nth D))
theorem goodsL_yes {n : Nat} {Z : Nat → Nat → Int} {A : List (List Int)} {D : List Int} (h : GoodP n Z (nth D)) : goodsL n Z (A ++ [D]) = goodsL n Z A ++ [D] := by
  unfold goodsL
  rw [List.filter_append]
  simp [tt_of h]
theorem goodsL_no {n : Nat} {Z : Nat → Nat → Int} {A : List (List Int)} {D : List Int} (h : ¬ GoodP n Z (nth D)) : goodsL n Z (A ++ [D]) = goodsL n Z A := by
  unfold goodsL
  rw [List.filter_append]
  simp [tt_no h]
theorem goodsL_le (n : Nat) (Z : Nat → Nat → Int) (LL : List (List Int)) : (goodsL n Z LL).length ≤ LL.length := List.length_filter_le _ _
/-- All good givings. -/
noncomputable def goodsAll (n : Nat) (L : Nat → Nat) (Z : Nat → Nat → Int) : List (List Int) := if tt (IsWishes n L Z) = true then goodsL n Z (givs n n []) else []
theorem goodsAll_yes {n : Nat} {L : Nat → Nat} {Z : Nat → Nat → Int} (h : IsWishes n L Z) : goodsAll n L Z = goodsL n Z (givs n n []) := by unfold goodsAll; rw [tt_of h]; rfl
theorem goodsAll_no {n : Nat} {L : Nat → Nat} {Z : Nat → Nat → Int} (h : ¬ IsWishes n L Z) : goodsAll n L Z = [] := by unfold goodsAll; rw [tt_no h]; rfl
/-- Some givings of all of them are not too many. -/
theorem some_small {n : Nat} {L : Nat → Nat} {Z : Nat → Nat → Int} (h : IsWishes n L Z) (p : List Int → Bool) : ((givs n n []).filter p).length ≤ 7776 ∧ tot (lenL ((givs n n []).filter p)) ((givs n n []).filter p).length ≤ 1048576 := by
  have htot : ∀ (M : Nat → Nat) (B k : Nat), (∀ r, r < k → M r ≤ B) → tot M k ≤ k * B := by
    intro M B k h
    induction k with
    | zero => simp [tot]
    | succ k ih =>
      have h1 := ih (fun r hr => h r (by omega))
      have h2 := h k (by omega)
      show tot M k + M k ≤ (k + 1) * B
      rw [Nat.succ_mul]; omega
  have hn5 := h.1.2
  have h1 := Nat.le_trans (List.length_filter_le p (givs n n [])) (givsN_le hn5)
  have h2 := htot (lenL ((givs n n []).filter p)) 5 ((givs n n []).filter p).length (fun r hr => by
    unfold lenL
    rw [List.getD_eq_getElem?_getD, List.getElem?_eq_getElem hr]
    have hm : ((givs n n []).filter p)[r] ∈ givs n n [] := (List.mem_filter.1 (List.getElem_mem hr)).1
    have := ((mem_givs n [] (Diff.nil n) (by simp) _).1 hm).2.1
    show (((givs n n []).filter p)[r]).length ≤ 5
    omega)
  omega
theorem goods_small (n : Nat) (L : Nat → Nat) (Z : Nat → Nat → Int) : (goodsAll n L Z).length ≤ 1048576 ∧ tot (lenL (goodsAll n L Z)) (goodsAll n L Z).length ≤ 1048576 := by
  by_cases h : IsWishes n L Z
  · rw [goodsAll_yes h]
    have := some_small h (fun D => tt (GoodP n Z (nth D)))
    exact ⟨Nat.le_trans this.1 (by omega), this.2⟩
  · rw [goodsAll_no h]
    simp [tot]
end Go.Proofs.YtgjegpponchdaaaDoor
