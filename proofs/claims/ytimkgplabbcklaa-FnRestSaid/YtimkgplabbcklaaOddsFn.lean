/- What the laws of odds say, in plain mathematics. -/
import Derived.Test.YtimkgplabbcklaaOddsModel
namespace Go.Proofs.Ytimkgplabbcklaa
set_option linter.unusedVariables false
set_option linter.unusedSimpArgs false
open Go.RowKit

section
variable {m : Nat} {X Y : Nat → Int}
/-- The first number is 20. -/
def topF (X : Nat → Int) (j : Nat) : Int := if j = 0 then 20 else X j
theorem top_odds (h : IsOdds m X) : IsOdds m (topF X) := ⟨h.1, fun j hj => by
  unfold topF
  split
  · omega
  · exact h.2 j hj⟩
theorem best_top (h : IsOdds m X) : ∀ j, j < m → bestF X (topF X) j = topF X j := fun j hj => by
  have h1 := h.2 j hj
  show max (X j) (topF X j) = topF X j
  unfold topF
  split <;> omega
theorem odds_congr (h : IsOdds m X) (e : ∀ j, j < m → Y j = X j) : IsOdds m Y := ⟨h.1, fun j hj => by rw [e j hj]; exact h.2 j hj⟩
theorem sure_congr (e : ∀ j, j < m → Y j = X j) : SureP m X ↔ SureP m Y := by
  unfold SureP
  rw [pieceS_congr e]
  exact ⟨fun h => ⟨odds_congr h.1 e, h.2⟩, fun h => ⟨odds_congr h.1 fun j hj => (e j hj).symm, h.2⟩⟩
/-- All numbers are 20. -/
def all20 (j : Nat) : Int := 20
theorem all_odds (h : IsOdds m X) : IsOdds m all20 := ⟨h.1, fun j hj => by unfold all20; omega⟩
theorem best_all (h : IsOdds m X) : ∀ j, j < m → bestF X all20 j = all20 j := fun j hj => by
  have h1 := h.2 j hj
  show max (X j) 20 = 20
  omega
theorem sum_all : ∀ k : Nat, pieceS all20 k = k * 11639628
  | 0 => by simp [pieceS]
  | k + 1 => by
    show pieceS all20 k + pieceN 20 = _
    rw [sum_all k, show pieceN 20 = 11639628 from by decide, Nat.add_mul, Nat.one_mul]
theorem sure_all (h : IsOdds m X) : SureP m (bestF X all20) := by
  refine (sure_congr (fun j hj => best_all h j hj)).1 ⟨all_odds h, ?_⟩
  rw [sum_all]
  have h1 := h.1.2
  have h2 : m * 11639628 ≤ 6 * 11639628 := Nat.mul_le_mul_right _ h1
  have h3 : LC = 232792560 := rfl
  omega

/-- What even stakes bring back. -/
def gN (m : Nat) (X : Nat → Int) : Nat := gcdT (pieceF X) m
def backN (m : Nat) (X : Nat → Int) : Int := (LC : Int) / (gN m X : Int)
theorem piece_pos (h : IsOdds m X) : ∀ j, j < m → 1 ≤ pieceF X j := fun j hj => by have := (piece_range (h.2 j hj)).1; show 1 ≤ (pieceN (X j) : Int); omega
theorem gN_pos (h : IsOdds m X) : 0 < gN m X := gcdT_pos (by have := h.1; omega) (piece_pos h)
theorem stake_mul (h : IsOdds m X) {j : Nat} (hj : j < m) : stakeF m X j * (gN m X : Int) = pieceF X j := leastF_mul hj (piece_pos h j hj)
theorem stake_range (h : IsOdds m X) : ∀ j, j < m → 1 ≤ stakeF m X j ∧ stakeF m X j ≤ 232792560 := fun j hj =>
  leastF_range hj fun i hi => ⟨piece_pos h i hi, by have h1 := (piece_range (h.2 i hi)).2; have h2 : LC = 232792560 := rfl; show (pieceN (X i) : Int) ≤ _; omega⟩
theorem stake_back0 (h : IsOdds m X) {j : Nat} (hj : j < m) : X j * stakeF m X j * (gN m X : Int) = LC := by
  rw [Int.mul_assoc, stake_mul h hj, Int.mul_comm]
  exact piece_mulI (h.2 j hj)
theorem stake_back (h : IsOdds m X) : ∀ j, j < m → X j * stakeF m X j = backN m X := fun j hj => by
  have h1 := stake_back0 h hj
  have h2 := gN_pos h
  unfold backN
  rw [← h1, Int.mul_ediv_cancel _ (by omega)]
theorem back_mul (h : IsOdds m X) : backN m X * (gN m X : Int) = LC := by
  have h1 : 0 < m := by have := h.1; omega
  rw [← stake_back h 0 h1, stake_back0 h h1]
theorem least_stake (h : IsOdds m X) : ∀ k, k ≤ m → leastR X (stakeF m X) k = backN m X
  | 0, _ => stake_back h 0 (by have := h.1; omega)
  | k + 1, hk => by
    show min (leastR X (stakeF m X) k) (X k * stakeF m X k) = _
    rw [least_stake h k (by omega), stake_back h k (by omega)]
    omega
theorem sum_stake (h : IsOdds m X) : ∀ k, k ≤ m → sumR (stakeF m X) k * (gN m X : Int) = (pieceS X k : Int)
  | 0, _ => by simp [sumR, pieceS]
  | k + 1, hk => by
    show (sumR (stakeF m X) k + stakeF m X k) * _ = ((pieceS X k + pieceN (X k) : Nat) : Int)
    rw [Int.add_mul, sum_stake h k (by omega), stake_mul h (by omega), Int.natCast_add]
    rfl
theorem staked (h : IsOdds m X) : StakedP m X m (stakeF m X) := ⟨⟨h, rfl⟩, fun j hj => by have := stake_range h j hj; omega⟩
theorem sure_wins (h : SureP m X) : WinsP m X m (stakeF m X) := by
  refine ⟨staked h.1, ?_⟩
  rw [least_stake h.1 m (Nat.le_refl _)]
  have h1 := sum_stake h.1 m (Nat.le_refl _)
  have h2 := back_mul h.1
  have h3 := gN_pos h.1
  have h4 := h.2
  rcases Int.lt_or_le (sumR (stakeF m X) m) (backN m X) with h5 | h5
  · exact h5
  · have h6 := Int.mul_le_mul_of_nonneg_right h5 (show (0 : Int) ≤ (gN m X : Int) by omega)
    rw [h1, h2] at h6
    omega
/-- The sum told by stakes. -/
theorem stake_sum (h : IsOdds m X) : sumR (stakeF m X) m * (botN (pieceS X m) : Int) = backN m X * (topN (pieceS X m) : Int) := by
  have h1 := sum_stake h m (Nat.le_refl _)
  have h2 := back_mul h
  have h3 := gN_pos h
  have h4 := top_bot (pieceS X m)
  have h4' : (topN (pieceS X m) : Int) * (LC : Int) = (botN (pieceS X m) : Int) * (pieceS X m : Int) := by rw [← Int.natCast_mul, ← Int.natCast_mul, h4]
  refine Int.eq_of_mul_eq_mul_right (show (gN m X : Int) ≠ 0 by omega) ?_
  rw [Int.mul_assoc, Int.mul_comm (botN _ : Int), ← Int.mul_assoc, h1, Int.mul_assoc, Int.mul_comm (topN _ : Int), ← Int.mul_assoc, h2, Int.mul_comm, ← h4', Int.mul_comm]
/-- No stakes bring more back for each outcome. -/
theorem least_part (h : StakedP m X m Y) : ∀ k, k ≤ m → leastR X Y m * (pieceS X k : Int) ≤ (LC : Int) * sumR Y k
  | 0, _ => by simp [pieceS, sumR]
  | k + 1, hk => by
    have h1 := least_part h k (by omega)
    have h2 := leastR_le (X := X) (Y := Y) (j := k) (k := m) (by omega)
    have h3 := piece_mulI (h.1.1.2 k (by omega))
    show leastR X Y m * ((pieceS X k + pieceN (X k) : Nat) : Int) ≤ (LC : Int) * (sumR Y k + Y k)
    rw [Int.natCast_add, Int.mul_add, Int.mul_add]
    have h4 : leastR X Y m * (pieceN (X k) : Int) ≤ X k * Y k * (pieceN (X k) : Int) := Int.mul_le_mul_of_nonneg_right h2 (by omega)
    have h5 : X k * Y k * (pieceN (X k) : Int) = (LC : Int) * Y k := by
      rw [Int.mul_assoc, Int.mul_comm (Y k), ← Int.mul_assoc, Int.mul_comm (X k), h3]
      rfl
    omega
theorem least_sum (h : StakedP m X m Y) : leastR X Y m * (topN (pieceS X m) : Int) ≤ sumR Y m * (botN (pieceS X m) : Int) := by
  have h1 := least_part h m (Nat.le_refl _)
  have hg := gcd_lc (pieceS X m)
  have h2 : (topN (pieceS X m) : Int) * (Nat.gcd (pieceS X m) LC : Int) = (pieceS X m : Int) := by rw [← Int.natCast_mul, top_mul]
  have h3 : (botN (pieceS X m) : Int) * (Nat.gcd (pieceS X m) LC : Int) = (LC : Int) := by rw [← Int.natCast_mul, bot_mul]
  rw [← h2, ← h3] at h1
  refine Int.le_of_mul_le_mul_right (a := (Nat.gcd (pieceS X m) LC : Int)) ?_ (by omega)
  rw [Int.mul_assoc, Int.mul_assoc, Int.mul_comm (sumR Y m)]
  exact h1
theorem wins_sure (h : WinsP m X m Y) : SureP m X := by
  refine ⟨h.1.1.1, ?_⟩
  have h1 := least_part h.1 m (Nat.le_refl _)
  have h2 := h.2
  have hl := leastR_range (X := X) (Y := Y) h.1.1.1.2 h.1.2 (by have := h.1.1.1.1; omega) (k := m) (Nat.le_refl _)
  rcases Nat.lt_or_ge (pieceS X m) LC with h3 | h3
  · exact h3
  · have h4 : leastR X Y m * (LC : Int) ≤ leastR X Y m * (pieceS X m : Int) := Int.mul_le_mul_of_nonneg_left (by omega) hl.1
    have h5 : (LC : Int) * leastR X Y m ≤ (LC : Int) * sumR Y m := by rw [Int.mul_comm (LC : Int) (leastR X Y m)]; omega
    have h6 := Int.le_of_mul_le_mul_left h5 (show (0 : Int) < (LC : Int) by decide)
    omega
theorem best_odds (h : IsOdds m X) (h' : IsOdds m Y) : IsOdds m (bestF X Y) := ⟨h.1, fun j hj => by
  have h1 := h.2 j hj
  have h2 := h'.2 j hj
  show 1 ≤ max (X j) (Y j) ∧ max (X j) (Y j) ≤ 20
  omega⟩
theorem best_comm (j : Nat) : bestF Y X j = bestF X Y j := by show max (Y j) (X j) = max (X j) (Y j); omega
theorem best_sure (h : IsOdds m X) (h' : IsOdds m Y) (hs : SureP m X) : SureP m (bestF X Y) := by
  refine ⟨best_odds h h', Nat.lt_of_le_of_lt (pieceS_mono fun j hj => ?_) hs.2⟩
  exact piece_anti (h.2 j hj) ((best_odds h h').2 j hj).2 (by show X j ≤ max (X j) (Y j); omega)
theorem best_sure' (h : IsOdds m X) (h' : IsOdds m Y) (hs : SureP m Y) : SureP m (bestF X Y) := (sure_congr fun j _ => best_comm (X := Y) (Y := X) j).1 (best_sure h' h hs)
theorem rest_try {S : Nat} : ∀ k : Nat, k ≤ 20 → (∃ x, RestP S x) ∨ ∀ y : Int, 1 ≤ y → y ≤ (k : Int) → ¬ S + pieceN y < LC
  | 0, _ => .inr fun y h1 h2 => by omega
  | k + 1, hk => by
    rcases rest_try (S := S) k (by omega) with h | h
    · exact .inl h
    · by_cases hs : S + pieceN ((k : Int) + 1) < LC
      · exact .inl ⟨(k : Int) + 1, .inl ⟨⟨⟨by omega, by omega⟩, hs⟩, fun y h1 h2 => h y h1 (by omega)⟩⟩
      · refine .inr fun y h1 h2 => ?_
        by_cases e : y = (k : Int) + 1
        · subst e; exact hs
        · exact h y h1 (by omega)
theorem restN_P (S : Nat) : RestP S (restN S) := by
  rcases rest_try (S := S) 20 (by omega) with ⟨x, h⟩ | h
  · rw [restN_is h]; exact h
  · have h0 : RestP S 0 := .inr ⟨rfl, fun y h1 h2 => h y h1 (by omega)⟩
    rw [restN_is h0]; exact h0
theorem rest_yes (h : RestYes m X) : (1 ≤ restN (pieceS X m) ∧ restN (pieceS X m) ≤ 20) ∧ SureP m X ∧ SureP (m + 1) (snocF X m (restN (pieceS X m))) ∧ (restN (pieceS X m) ≠ 1 → ¬ SureP (m + 1) (snocF X m (restN (pieceS X m) - 1))) := by
  rcases restN_P (pieceS X m) with ⟨⟨h1, h2⟩, h3⟩ | ⟨h1, _⟩
  · refine ⟨h1, ⟨h.1.1, by omega⟩, (sure_snoc h.1.1 h.1.2 h1).2 h2, fun hne hs => ?_⟩
    have h4 := (sure_snoc h.1.1 h.1.2 (x := restN (pieceS X m) - 1) ⟨by omega, by omega⟩).1 hs
    exact h3 _ (by omega) (by omega) h4
  · exact absurd h1 h.2
theorem pieceS_front (X : Nat → Int) : ∀ k : Nat, pieceS X (k + 1) = pieceN (X 0) + pieceS (fun j => X (j + 1)) k
  | 0 => by show 0 + pieceN (X 0) = pieceN (X 0) + 0; omega
  | k + 1 => by
    show pieceS X (k + 1) + pieceN (X (k + 1)) = pieceN (X 0) + (pieceS (fun j => X (j + 1)) k + pieceN (X (k + 1)))
    rw [pieceS_front X k]; omega
/-- The numbers backwards. -/
def backF (X : Nat → Int) (m j : Nat) : Int := X (m - 1 - j)
theorem pieceS_back : ∀ (k : Nat) (X : Nat → Int), pieceS (backF X k) k = pieceS X k
  | 0, _ => rfl
  | k + 1, X => by
    show pieceS (backF X (k + 1)) k + pieceN (backF X (k + 1) k) = _
    rw [pieceS_front X k, ← pieceS_back k (fun j => X (j + 1)), pieceS_congr (X := backF X (k + 1)) (Y := backF (fun j => X (j + 1)) k) (k := k) (fun j hj => by
      show X (k + 1 - 1 - j) = X (k - 1 - j + 1)
      congr 1; omega)]
    show _ + pieceN (X (k + 1 - 1 - k)) = _
    rw [show k + 1 - 1 - k = 0 from by omega]
    omega
theorem back_odds (h : IsOdds m X) : IsOdds m (backF X m) := ⟨h.1, fun j hj => h.2 _ (by omega)⟩
theorem rd_tailO {w : World} {g : Nat} (h : Rd w (some ⟨g, 0, none⟩) m X) : Rd w (some ⟨g, 1, none⟩) (m - 1) (fun j => X (1 + j)) := fun k hk => by
  obtain ⟨b, o, e, hc⟩ := h (1 + k) (by omega)
  cases e
  exact ⟨g, 1, rfl, by rw [Nat.zero_add] at hc; exact hc⟩
theorem top_cells (h : 1 ≤ m) : [Value.int .i64 20] ++ cellsL (m - 1) (fun j => X (1 + j)) = cellsL m (topF X) := by
  obtain ⟨k, rfl⟩ : ∃ k, m = k + 1 := ⟨m - 1, by omega⟩
  unfold cellsL
  rw [List.range_succ_eq_map, List.map_cons, List.map_map]
  show Value.int .i64 20 :: _ = _
  congr 1
  exact List.map_congr_left fun j _ => by show Value.int .i64 (X (1 + j)) = Value.int .i64 (topF X (j + 1)); unfold topF; rw [if_neg (Nat.succ_ne_zero j), Nat.add_comm]
end
end Go.Proofs.Ytimkgplabbcklaa
