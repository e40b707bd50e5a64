/- What bids are; all deals, bidder by bidder, as the program finds them, in plain mathematics. -/
import Derived.Test.YtopoeeahociohaaBidLaws
namespace Go.Proofs.Ytopoeeahociohaa
set_option linter.unusedVariables false
set_option linter.unusedSimpArgs false
open Go.RowKit

/-- A list is bids. -/
def IsBids (n : Nat) (L : Nat → Nat) (Z : Nat → Nat → Int) : Prop :=
  ((1 ≤ n ∧ n ≤ 4) ∧ (1 ≤ L 0 ∧ L 0 ≤ 4)) ∧ ∀ r, r < n → L r = L 0 ∧ ∀ k, k < L 0 → 0 ≤ Z r k ∧ Z r k ≤ 20
/-- Bids and a deal. -/
def DealOk (n : Nat) (L : Nat → Nat) (Z : Nat → Nat → Int) (q : Nat) (D : Nat → Int) : Prop := (IsBids n L Z ∧ IsDeal q (L 0) D) ∧ q = n

/-- All deals of one bidder more. -/
def extD (m : Nat) (D : List Int) : List (List Int) := (D ++ [-1]) :: (List.range m).flatMap fun (k : Nat) => if (k : Int) ∈ D then [] else [D ++ [(k : Int)]]
/-- All deals of the first i bidders. -/
def dealsP (m : Nat) : Nat → List (List Int)
  | 0 => [[]]
  | i + 1 => (dealsP m i).flatMap (extD m)
/-- All deals that begin with D, of f bidders more. -/
def dealsD (m : Nat) : Nat → List Int → List (List Int)
  | 0, D => [D]
  | f + 1, D => (extD m D).flatMap (dealsD m f)
/-- Those of the items below t - 1. -/
def extTo (D : List Int) : Nat → List (List Int)
  | 0 => []
  | t + 1 => extTo D t ++ if t = 0 then [D ++ [-1]] else if ((t : Int) - 1) ∈ D then [] else [D ++ [(t : Int) - 1]]
section
variable {m : Nat}
theorem extTo_all (D : List Int) : ∀ m, extTo D (m + 1) = extD m D
  | 0 => by simp [extTo, extD]
  | m + 1 => by
    have ih := extTo_all D m
    show extTo D (m + 1) ++ (if m + 1 = 0 then _ else if (((m + 1 : Nat) : Int) - 1) ∈ D then [] else [D ++ [((m + 1 : Nat) : Int) - 1]]) = _
    rw [ih, if_neg (by omega), show ((m + 1 : Nat) : Int) - 1 = (m : Int) by omega]
    unfold extD
    rw [List.range_succ, List.flatMap_append, List.cons_append]
    simp
theorem extTo_le (D : List Int) : ∀ t, (extTo D t).length ≤ t
  | 0 => by simp [extTo]
  | t + 1 => by
    have ih := extTo_le D t
    show (extTo D t ++ _).length ≤ t + 1
    rw [List.length_append]
    by_cases h0 : t = 0
    · rw [if_pos h0]; simp; omega
    · rw [if_neg h0]
      by_cases h1 : ((t : Int) - 1) ∈ D
      · rw [if_pos h1]; simp; omega
      · rw [if_neg h1]; simp; omega
theorem extTo_len {D X : List Int} : ∀ {t : Nat}, X ∈ extTo D t → X.length = D.length + 1
  | 0, h => absurd h List.not_mem_nil
  | t + 1, h => by
    rcases List.mem_append.1 (show X ∈ extTo D t ++ _ from h) with h | h
    · exact extTo_len h
    · by_cases h0 : t = 0
      · rw [if_pos h0, List.mem_singleton] at h; rw [h]; simp
      · rw [if_neg h0] at h
        by_cases h1 : ((t : Int) - 1) ∈ D
        · rw [if_pos h1] at h; exact absurd h List.not_mem_nil
        · rw [if_neg h1, List.mem_singleton] at h; rw [h]; simp
theorem dealsP_len {X : List Int} : ∀ {i : Nat}, X ∈ dealsP m i → X.length = i
  | 0, h => by rw [List.mem_singleton.1 (show X ∈ [[]] from h)]; rfl
  | i + 1, h => by
    obtain ⟨D, hD, h⟩ := List.mem_flatMap.1 (show X ∈ (dealsP m i).flatMap (extD m) from h)
    rw [← extTo_all] at h
    rw [extTo_len h, dealsP_len hD]
theorem flatL_le {g : List Int → List (List Int)} {q : Nat} : ∀ {l : List (List Int)}, (∀ x, x ∈ l → (g x).length ≤ q) → (l.flatMap g).length ≤ l.length * q
  | [], _ => by simp
  | x :: l, h => by
    rw [List.flatMap_cons, List.length_append, List.length_cons, Nat.add_mul]
    have h1 := h x (by simp)
    have h2 := flatL_le (g := g) (q := q) (l := l) fun y hy => h y (by simp [hy])
    omega
theorem extD_le (D : List Int) : (extD m D).length ≤ m + 1 := by rw [← extTo_all]; exact extTo_le _ _
theorem dealsP_le : ∀ (i : Nat), (dealsP m i).length ≤ (m + 1) ^ i
  | 0 => by simp [dealsP]
  | i + 1 => by
    have h := flatL_le (g := extD m) (q := m + 1) (l := dealsP m i) fun x _ => extD_le x
    have h2 := Nat.mul_le_mul_right (m + 1) (dealsP_le i)
    show ((dealsP m i).flatMap (extD m)).length ≤ (m + 1) ^ i * (m + 1)
    omega
theorem dealsP_small {i : Nat} (hm : m ≤ 5) (hi : i ≤ 4) : (dealsP m i).length ≤ 1296 :=
  Nat.le_trans (dealsP_le i) (Nat.le_trans (Nat.pow_le_pow_left (show m + 1 ≤ 6 by omega) i) (Nat.pow_le_pow_right (show 0 < 6 by omega) hi))
theorem extD_none (D : List Int) : (D ++ [-1]) ∈ extD m D := List.mem_cons_self
/-- The deal in which nobody gets an item. -/
theorem dealsP_none : ∀ (i : Nat), List.replicate i (-1 : Int) ∈ dealsP m i
  | 0 => by simp [dealsP]
  | i + 1 => List.mem_flatMap.2 ⟨_, dealsP_none i, by rw [List.replicate_succ']; exact extD_none _⟩
theorem dealsP_D : ∀ (i f : Nat), (dealsP m i).flatMap (dealsD m f) = dealsD m (i + f) []
  | 0, f => by simp [dealsP]
  | i + 1, f => by
    show ((dealsP m i).flatMap (extD m)).flatMap (dealsD m f) = _
    rw [List.flatMap_assoc, show i + 1 + f = i + (f + 1) by omega, ← dealsP_D i (f + 1)]
    rfl
theorem dealsP_is (n : Nat) : dealsP m n = dealsD m n [] := by
  have h := dealsP_D (m := m) n 0
  rw [Nat.add_zero] at h
  rw [← h]
  show dealsP m n = (dealsP m n).flatMap fun D => [D]
  simp
theorem flatM_congr {α : Type} {f g : α → List (List Int)} : ∀ {l : List α}, (∀ x, x ∈ l → f x = g x) → l.flatMap f = l.flatMap g
  | [], _ => rfl
  | x :: l, h => by rw [List.flatMap_cons, List.flatMap_cons, h x (by simp), flatM_congr fun y hy => h y (by simp [hy])]
theorem deals_D : ∀ (f : Nat) (B : List Int) (X : Nat → Int), (∀ k : Nat, k < m → X k = if (k : Int) ∈ B then 0 else 1) → deals m f B X = dealsD m f B
  | 0, B, X, h => rfl
  | f + 1, B, X, h => by
    show deals m f (B ++ [-1]) X ++ _ = (extD m B).flatMap (dealsD m f)
    unfold extD
    rw [List.flatMap_cons, List.flatMap_assoc, deals_D f (B ++ [-1]) X (fun k hk => by
      rw [h k hk]
      by_cases e : (k : Int) ∈ B
      · rw [if_pos e, if_pos (List.mem_append_left _ e)]
      · rw [if_neg e, if_neg (by rw [List.mem_append, List.mem_singleton]; rintro (h | h); exact e h; omega)])]
    congr 1
    have hc : ∀ k, k ∈ List.range m → (if 0 < X k then deals m f (B ++ [(k : Int)]) (lessX X k) else []) = (if (k : Int) ∈ B then [] else [B ++ [(k : Int)]]).flatMap (dealsD m f) := by
      intro k hk
      have hk := List.mem_range.1 hk
      have hx := h k hk
      by_cases e : (k : Int) ∈ B
      · rw [if_pos e] at hx
        rw [if_pos e, if_neg (by omega)]; rfl
      · rw [if_neg e] at hx
        rw [if_neg e, if_pos (by omega), deals_D f (B ++ [(k : Int)]) (lessX X k) (fun j hj => by
          unfold lessX
          have hxj := h j hj
          by_cases e1 : j = k
          · subst e1
            rw [if_pos rfl, if_pos (by simp)]; omega
          · rw [if_neg e1, hxj]
            by_cases e2 : (j : Int) ∈ B
            · rw [if_pos e2, if_pos (List.mem_append_left _ e2)]
            · rw [if_neg e2, if_neg (by rw [List.mem_append, List.mem_singleton]; rintro (h | h); exact e2 h; omega)])]
        simp
    exact flatM_congr hc
/-- The program's deals are the model's. -/
theorem deals_way (n m k : Nat) : deals m n [] (itemsX k 1) = dealsP m n := by
  rw [dealsP_is]
  exact deals_D n [] _ fun j hj => by unfold itemsX; by_cases e : j = k <;> simp [e]
end
end Go.Proofs.Ytopoeeahociohaa
