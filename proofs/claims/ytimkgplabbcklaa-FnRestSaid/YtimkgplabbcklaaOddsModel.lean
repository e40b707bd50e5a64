/- Odds and stakes, in plain mathematics. -/
import Derived.Test.YtimkgplabbcklaaMem
namespace Go.Proofs.Ytimkgplabbcklaa
set_option linter.unusedVariables false
set_option linter.unusedSimpArgs false
open Go.RowKit

/-- A common multiple of the numbers up to 20. -/
def LC : Nat := 232792560
/-- Odds. -/
def IsOdds (m : Nat) (X : Nat → Int) : Prop := (2 ≤ m ∧ m ≤ 6) ∧ ∀ j, j < m → 1 ≤ X j ∧ X j ≤ 20
/-- One over a number, in parts of LC. -/
def pieceN (x : Int) : Nat := LC / x.toNat
/-- The sum of one over each, in parts of LC. -/
def pieceS (X : Nat → Int) : Nat → Nat
  | 0 => 0
  | k + 1 => pieceS X k + pieceN (X k)
theorem lc_mul : ∀ n : Nat, n < 21 → 1 ≤ n → LC / n * n = LC := by decide
theorem piece_mul {x : Int} (h : 1 ≤ x ∧ x ≤ 20) : pieceN x * x.toNat = LC := lc_mul _ (by omega) (by omega)
theorem piece_mulI {x : Int} (h : 1 ≤ x ∧ x ≤ 20) : (pieceN x : Int) * x = 232792560 := by
  have h1 := piece_mul h
  have h2 : ((pieceN x * x.toNat : Nat) : Int) = (LC : Int) := by rw [h1]
  rw [Int.natCast_mul, Int.toNat_of_nonneg (by omega)] at h2
  exact h2
theorem lc_range : ∀ n : Nat, n < 21 → 1 ≤ n → 11639628 ≤ LC / n ∧ LC / n ≤ LC := by decide
theorem piece_range {x : Int} (h : 1 ≤ x ∧ x ≤ 20) : 11639628 ≤ pieceN x ∧ pieceN x ≤ LC := lc_range _ (by omega) (by omega)
theorem piece_div {x : Int} (h : 1 ≤ x ∧ x ≤ 20) : (pieceN x : Int) = 232792560 / x := by
  have h1 := piece_mulI h
  rw [← h1, Int.mul_ediv_cancel _ (by omega)]
theorem piece_anti {x y : Int} (h : 1 ≤ x ∧ x ≤ 20) (h' : y ≤ 20) (hxy : x ≤ y) : pieceN y ≤ pieceN x := by
  have h1 := piece_mul h
  have h2 := piece_mul (x := y) ⟨by omega, h'⟩
  rcases Nat.lt_or_ge (pieceN x) (pieceN y) with h3 | h3
  · have h4 : (pieceN x + 1) * x.toNat ≤ pieceN y * y.toNat := Nat.mul_le_mul h3 (by omega)
    rw [Nat.add_mul] at h4
    omega
  · exact h3
section
variable {X Y : Nat → Int} {m : Nat}
theorem pieceS_le : ∀ {k : Nat}, (∀ j, j < k → 1 ≤ X j ∧ X j ≤ 20) → pieceS X k ≤ k * LC
  | 0, _ => Nat.zero_le _
  | k + 1, h => by
    have h1 := pieceS_le (k := k) fun j hj => h j (by omega)
    have h2 := (piece_range (h k (by omega))).2
    show pieceS X k + pieceN (X k) ≤ _
    rw [Nat.add_mul]
    omega
theorem pieceS_pos (hm : 1 ≤ m) (h : ∀ j, j < m → 1 ≤ X j ∧ X j ≤ 20) : 1 ≤ pieceS X m := by
  obtain ⟨k, rfl⟩ : ∃ k, m = k + 1 := ⟨m - 1, by omega⟩
  have h2 := (piece_range (h k (by omega))).1
  show 1 ≤ pieceS X k + pieceN (X k)
  omega
theorem pieceS_congr : ∀ {k : Nat}, (∀ j, j < k → X j = Y j) → pieceS X k = pieceS Y k
  | 0, _ => rfl
  | k + 1, h => by
    show pieceS X k + pieceN (X k) = pieceS Y k + pieceN (Y k)
    rw [pieceS_congr (k := k) fun j hj => h j (by omega), h k (by omega)]
theorem pieceS_mono : ∀ {k : Nat}, (∀ j, j < k → pieceN (Y j) ≤ pieceN (X j)) → pieceS Y k ≤ pieceS X k
  | 0, _ => Nat.le_refl _
  | k + 1, h => by
    have h1 := pieceS_mono (k := k) fun j hj => h j (by omega)
    have h2 := h k (by omega)
    show pieceS Y k + pieceN (Y k) ≤ pieceS X k + pieceN (X k)
    omega
end
/-- The upper and the lower part in lowest terms. -/
def topN (S : Nat) : Nat := S / Nat.gcd S LC
def botN (S : Nat) : Nat := LC / Nat.gcd S LC
theorem lc_pos : 0 < LC := by decide
theorem gcd_lc (S : Nat) : 0 < Nat.gcd S LC := Nat.gcd_pos_of_pos_right _ lc_pos
theorem top_mul (S : Nat) : topN S * Nat.gcd S LC = S := Nat.div_mul_cancel (Nat.gcd_dvd_left _ _)
theorem bot_mul (S : Nat) : botN S * Nat.gcd S LC = LC := Nat.div_mul_cancel (Nat.gcd_dvd_right _ _)
theorem top_le (S : Nat) : topN S ≤ S := Nat.div_le_self _ _
theorem bot_le (S : Nat) : botN S ≤ LC := Nat.div_le_self _ _
theorem bot_pos (S : Nat) : 1 ≤ botN S := by
  have h := bot_mul S
  rcases Nat.eq_zero_or_pos (botN S) with e | e
  · rw [e, Nat.zero_mul] at h; have := lc_pos; omega
  · exact e
theorem top_pos {S : Nat} (hS : 1 ≤ S) : 1 ≤ topN S := by
  have h := top_mul S
  rcases Nat.eq_zero_or_pos (topN S) with e | e
  · rw [e, Nat.zero_mul] at h; omega
  · exact e
theorem top_bot (S : Nat) : topN S * LC = botN S * S := by
  have h1 := top_mul S
  have h2 := bot_mul S
  have e1 : topN S * LC = topN S * botN S * Nat.gcd S LC := by rw [Nat.mul_assoc, h2]
  have e2 : botN S * S = topN S * botN S * Nat.gcd S LC := by rw [Nat.mul_comm (topN S), Nat.mul_assoc, h1]
  rw [e1, e2]
/-- Lowest terms are the same for each way to add. -/
theorem low_terms {u l S : Nat} (hl : 0 < l) (h : u * LC = l * S) : u / Nat.gcd u l = topN S ∧ l / Nat.gcd u l = botN S := by
  have hg : 0 < Nat.gcd u l := Nat.gcd_pos_of_pos_right _ hl
  have k1 : Nat.gcd u l * LC = l * Nat.gcd S LC := by rw [← Nat.gcd_mul_right, h, Nat.gcd_mul_left]
  obtain ⟨u', hu⟩ := Nat.gcd_dvd_left u l
  obtain ⟨l', hl'⟩ := Nat.gcd_dvd_right u l
  generalize Nat.gcd u l = g at *
  subst hu hl'
  rw [Nat.mul_div_cancel_left _ hg, Nat.mul_div_cancel_left _ hg]
  have k2 : LC = l' * Nat.gcd S LC := by rw [Nat.mul_assoc] at k1; exact Nat.eq_of_mul_eq_mul_left hg k1
  have k3 : u' * LC = l' * S := by rw [Nat.mul_assoc, Nat.mul_assoc] at h; exact Nat.eq_of_mul_eq_mul_left hg h
  have hl0 : 0 < l' := by
    rcases Nat.eq_zero_or_pos l' with e | e
    · subst e; rw [Nat.mul_zero] at hl; omega
    · exact e
  have k4 : l' * (u' * Nat.gcd S LC) = l' * S := by rw [← k3]; rw [← Nat.mul_assoc, Nat.mul_comm l' u', Nat.mul_assoc, ← k2]
  have k5 := Nat.eq_of_mul_eq_mul_left hl0 k4
  have hh := gcd_lc S
  constructor
  · unfold topN
    rw [Nat.div_eq_of_eq_mul_left hh k5.symm]
  · unfold botN
    rw [Nat.div_eq_of_eq_mul_left hh k2]
theorem top_zero : topN 0 = 0 := by decide
theorem bot_zero : botN 0 = 1 := by decide
/-- One fraction more. -/
theorem next_terms {S : Nat} {x : Int} (h : 1 ≤ x ∧ x ≤ 20) : (topN S * x.toNat + botN S) / Nat.gcd (topN S * x.toNat + botN S) (botN S * x.toNat) = topN (S + pieceN x) ∧ (botN S * x.toNat) / Nat.gcd (topN S * x.toNat + botN S) (botN S * x.toNat) = botN (S + pieceN x) := by
  have hb := bot_pos S
  have hx : 1 ≤ x.toNat := by omega
  refine low_terms (Nat.mul_pos hb hx) ?_
  have e1 := top_bot S
  have e2 := piece_mul h
  rw [Nat.add_mul, Nat.mul_add]
  have e3 : topN S * x.toNat * LC = botN S * x.toNat * S := by
    rw [Nat.mul_assoc, Nat.mul_comm x.toNat, ← Nat.mul_assoc, e1, Nat.mul_assoc, Nat.mul_comm S, ← Nat.mul_assoc]
  have e4 : botN S * LC = botN S * x.toNat * pieceN x := by rw [Nat.mul_assoc, Nat.mul_comm x.toNat, e2]
  omega
theorem top_lt_bot (S : Nat) : topN S < botN S ↔ S < LC := by
  have h1 := top_mul S
  have h2 := bot_mul S
  have hh := gcd_lc S
  constructor
  · intro h
    have h3 := Nat.mul_lt_mul_of_pos_right h hh
    omega
  · intro h
    rcases Nat.lt_or_ge (topN S) (botN S) with h3 | h3
    · exact h3
    · have h4 := Nat.mul_le_mul_right (Nat.gcd S LC) h3
      omega
theorem top_gcd (S : Nat) : Nat.gcd (topN S) (botN S) = 1 := by
  have h1 := top_mul S
  have h2 := bot_mul S
  have hh := gcd_lc S
  have h3 : Nat.gcd (topN S) (botN S) * Nat.gcd S LC = Nat.gcd S LC := by rw [← Nat.gcd_mul_right, h1, h2]
  have h4 : Nat.gcd (topN S) (botN S) * Nat.gcd S LC = 1 * Nat.gcd S LC := by rw [h3, Nat.one_mul]
  exact Nat.eq_of_mul_eq_mul_right hh h4

/-- What OddsSum tells. -/
noncomputable def sumTop (m : Nat) (X : Nat → Int) : Int := if tt (IsOdds m X) = true then (topN (pieceS X m) : Int) else 0
noncomputable def sumBot (m : Nat) (X : Nat → Int) : Int := if tt (IsOdds m X) = true then (botN (pieceS X m) : Int) else 0
theorem sumTop_yes {m : Nat} {X : Nat → Int} (h : IsOdds m X) : sumTop m X = (topN (pieceS X m) : Int) := by unfold sumTop; rw [tt_of h]; rfl
theorem sumBot_yes {m : Nat} {X : Nat → Int} (h : IsOdds m X) : sumBot m X = (botN (pieceS X m) : Int) := by unfold sumBot; rw [tt_of h]; rfl
theorem sumTop_no {m : Nat} {X : Nat → Int} (h : ¬ IsOdds m X) : sumTop m X = 0 := by unfold sumTop; rw [tt_no h]; rfl
theorem sumBot_no {m : Nat} {X : Nat → Int} (h : ¬ IsOdds m X) : sumBot m X = 0 := by unfold sumBot; rw [tt_no h]; rfl
/-- Sure odds. -/
def SureP (m : Nat) (X : Nat → Int) : Prop := IsOdds m X ∧ pieceS X m < LC

/-- Odds and stakes. -/
def StakedP (m : Nat) (X : Nat → Int) (q : Nat) (Y : Nat → Int) : Prop := (IsOdds m X ∧ q = m) ∧ ∀ j, j < q → 0 ≤ Y j ∧ Y j ≤ 1000000000
/-- The least return and the sum. -/
def leastR (X Y : Nat → Int) : Nat → Int
  | 0 => X 0 * Y 0
  | k + 1 => min (leastR X Y k) (X k * Y k)
def sumR (Y : Nat → Int) : Nat → Int
  | 0 => 0
  | k + 1 => sumR Y k + Y k
theorem ret_range {x y : Int} (h : 1 ≤ x ∧ x ≤ 20) (h' : 0 ≤ y ∧ y ≤ 1000000000) : 0 ≤ x * y ∧ x * y ≤ 20000000000 := by
  have h1 : 0 ≤ x * y := Int.mul_nonneg (by omega) (by omega)
  have h2 : x * y ≤ 20 * 1000000000 := Int.mul_le_mul h.2 h'.2 (by omega) (by omega)
  exact ⟨h1, by omega⟩
section
variable {m q : Nat} {X Y : Nat → Int}
theorem leastR_range (h : ∀ j, j < m → 1 ≤ X j ∧ X j ≤ 20) (h' : ∀ j, j < m → 0 ≤ Y j ∧ Y j ≤ 1000000000) (hm : 1 ≤ m) : ∀ {k : Nat}, k ≤ m → 0 ≤ leastR X Y k ∧ leastR X Y k ≤ 20000000000
  | 0, _ => ret_range (h 0 (by omega)) (h' 0 (by omega))
  | k + 1, hk => by
    have h1 := leastR_range h h' hm (k := k) (by omega)
    have h2 := ret_range (h k (by omega)) (h' k (by omega))
    show 0 ≤ min (leastR X Y k) (X k * Y k) ∧ min (leastR X Y k) (X k * Y k) ≤ _
    omega
theorem sumR_range (h' : ∀ j, j < m → 0 ≤ Y j ∧ Y j ≤ 1000000000) : ∀ {k : Nat}, k ≤ m → 0 ≤ sumR Y k ∧ sumR Y k ≤ 1000000000 * k
  | 0, _ => ⟨Int.le_refl _, by simp [sumR]⟩
  | k + 1, hk => by
    have h1 := sumR_range h' (k := k) (by omega)
    have h2 := h' k (by omega)
    show 0 ≤ sumR Y k + Y k ∧ sumR Y k + Y k ≤ _
    constructor
    · omega
    · rw [Int.natCast_add, Int.mul_add]; omega
theorem leastR_le {j : Nat} : ∀ {k : Nat}, j < k → leastR X Y k ≤ X j * Y j
  | 0, h => by omega
  | k + 1, h => by
    show min (leastR X Y k) (X k * Y k) ≤ _
    by_cases e : j = k
    · subst e; omega
    · have := leastR_le (k := k) (j := j) (by omega); omega
end
/-- What OddsLeast tells. -/
noncomputable def leastA (m : Nat) (X : Nat → Int) (q : Nat) (Y : Nat → Int) : Int := if tt (StakedP m X q Y) = true then leastR X Y m else 0
noncomputable def stakedA (m : Nat) (X : Nat → Int) (q : Nat) (Y : Nat → Int) : Int := if tt (StakedP m X q Y) = true then sumR Y m else 0
section
variable {m q : Nat} {X Y : Nat → Int}
theorem leastA_yes (h : StakedP m X q Y) : leastA m X q Y = leastR X Y m := by unfold leastA; rw [tt_of h]; rfl
theorem leastA_no (h : ¬ StakedP m X q Y) : leastA m X q Y = 0 := by unfold leastA; rw [tt_no h]; rfl
theorem stakedA_yes (h : StakedP m X q Y) : stakedA m X q Y = sumR Y m := by unfold stakedA; rw [tt_of h]; rfl
theorem stakedA_no (h : ¬ StakedP m X q Y) : stakedA m X q Y = 0 := by unfold stakedA; rw [tt_no h]; rfl
end
/-- Stakes that win. -/
def WinsP (m : Nat) (X : Nat → Int) (q : Nat) (Y : Nat → Int) : Prop := StakedP m X q Y ∧ sumR Y m < leastR X Y m

/-- The stakes without a common divisor. -/
def pieceF (X : Nat → Int) (j : Nat) : Int := pieceN (X j)
def stakeF (m : Nat) (X : Nat → Int) : Nat → Int := leastF (pieceF X) m
theorem gcdT_mul (c : Nat) (X : Nat → Int) : ∀ k : Nat, (∀ j, j < k → 0 ≤ X j) → gcdT (fun j => (c : Int) * X j) k = c * gcdT X k
  | 0, _ => rfl
  | k + 1, h => by
    show Nat.gcd (gcdT (fun j => (c : Int) * X j) k) ((c : Int) * X k).toNat = c * Nat.gcd (gcdT X k) (X k).toNat
    obtain ⟨x, hx⟩ := Int.eq_ofNat_of_zero_le (h k (by omega))
    rw [gcdT_mul c X k fun j hj => h j (by omega), hx, ← Nat.gcd_mul_left]
    congr 1
theorem least_scale {F G : Nat → Int} {a b m k : Nat} (ha : 0 < a) (hb : 0 < b) (hk : k < m) (hF : ∀ j, j < m → 1 ≤ F j) (hG : ∀ j, j < m → 1 ≤ G j) (h : ∀ j, j < m → (a : Int) * F j = (b : Int) * G j) : leastF F m k = leastF G m k := by
  have h1 := gcdT_mul a F m fun j hj => by have := hF j hj; omega
  have h2 := gcdT_mul b G m fun j hj => by have := hG j hj; omega
  have h3 := gcdT_congr (X := fun j => (a : Int) * F j) (Y := fun j => (b : Int) * G j) m h
  have e1 := leastF_mul hk (hF k hk)
  have e2 := leastF_mul hk (hG k hk)
  have p1 := gcdT_pos (X := F) (k := m) (by omega) hF
  have p2 := gcdT_pos (X := G) (k := m) (by omega) hG
  have e3 : (a : Int) * (gcdT F m : Int) = (b : Int) * (gcdT G m : Int) := by
    rw [← Int.natCast_mul, ← Int.natCast_mul, ← h1, ← h2, h3]
  have e4 := h k hk
  rw [← e1, ← e2] at e4
  have e5 : (b : Int) * (gcdT G m : Int) * leastF F m k = (b : Int) * (gcdT G m : Int) * leastF G m k := by
    rw [← e3]
    rw [Int.mul_assoc, Int.mul_comm (gcdT F m : Int), e4, e3, Int.mul_comm (leastF G m k), ← Int.mul_assoc]
  exact Int.eq_of_mul_eq_mul_left (by have := Int.mul_pos (show (0 : Int) < (b : Int) by omega) (show (0 : Int) < (gcdT G m : Int) by omega); omega) e5
/-- Whatever common multiple is shared out. -/
theorem stake_of {A m k : Nat} {X F : Nat → Int} (hA : 0 < A) (hk : k < m) (hX : ∀ j, j < m → 1 ≤ X j ∧ X j ≤ 20) (hF : ∀ j, j < m → F j * X j = A) : leastF F m k = stakeF m X k := by
  have hp : ∀ j, j < m → 1 ≤ F j := fun j hj => by
    have h1 := hF j hj
    have h2 := hX j hj
    rcases Int.lt_or_le (F j) 1 with h3 | h3
    · have := Int.mul_nonpos_of_nonpos_of_nonneg (show F j ≤ 0 by omega) (show 0 ≤ X j by omega)
      omega
    · exact h3
  refine least_scale (a := LC) (b := A) lc_pos hA hk hp (fun j hj => by have := (piece_range (hX j hj)).1; show 1 ≤ (pieceN (X j) : Int); omega) fun j hj => ?_
  have h1 := hF j hj
  have h2 := piece_mulI (hX j hj)
  show (232792560 : Int) * F j = (A : Int) * (pieceN (X j) : Int)
  rw [← h2, ← h1, Int.mul_assoc, Int.mul_comm (X j), Int.mul_comm (F j * X j)]
/-- The product and the least common multiple. -/
def prodT (X : Nat → Int) : Nat → Nat
  | 0 => 1
  | k + 1 => prodT X k * (X k).toNat
def lcT (X : Nat → Int) : Nat → Nat
  | 0 => 1
  | k + 1 => lcT X k / Nat.gcd (lcT X k) (X k).toNat * (X k).toNat
section
variable {m : Nat} {X : Nat → Int}
theorem prodT_pos : ∀ {k : Nat}, (∀ j, j < k → 1 ≤ X j ∧ X j ≤ 20) → 1 ≤ prodT X k ∧ prodT X k ≤ 20 ^ k
  | 0, _ => ⟨Nat.le_refl _, Nat.le_refl _⟩
  | k + 1, h => by
    have h1 := prodT_pos (k := k) fun j hj => h j (by omega)
    have h2 := h k (by omega)
    show 1 ≤ prodT X k * (X k).toNat ∧ prodT X k * (X k).toNat ≤ 20 ^ k * 20
    exact ⟨Nat.mul_pos h1.1 (by omega), Nat.mul_le_mul h1.2 (by omega)⟩
theorem prodT_dvd {j : Nat} : ∀ {k : Nat}, j < k → (X j).toNat ∣ prodT X k
  | 0, h => by omega
  | k + 1, h => by
    by_cases e : j = k
    · subst e; exact Nat.dvd_mul_left _ _
    · exact Nat.dvd_trans (prodT_dvd (k := k) (by omega)) (Nat.dvd_mul_right _ _)
theorem lcm_is (a b : Nat) : a / Nat.gcd a b * b = Nat.lcm a b := by
  unfold Nat.lcm
  rw [Nat.div_mul_right_comm (Nat.gcd_dvd_left a b)]
theorem lc_dvd : ∀ n : Nat, n < 21 → 1 ≤ n → n ∣ LC := by decide
theorem lcT_dvd_lc : ∀ {k : Nat}, (∀ j, j < k → 1 ≤ X j ∧ X j ≤ 20) → lcT X k ∣ LC
  | 0, _ => Nat.one_dvd _
  | k + 1, h => by
    have h1 := lcT_dvd_lc (k := k) fun j hj => h j (by omega)
    have h2 := h k (by omega)
    show lcT X k / Nat.gcd (lcT X k) (X k).toNat * (X k).toNat ∣ LC
    rw [lcm_is]
    exact Nat.lcm_dvd h1 (lc_dvd _ (by omega) (by omega))
theorem lcT_range {k : Nat} (h : ∀ j, j < k → 1 ≤ X j ∧ X j ≤ 20) : 1 ≤ lcT X k ∧ lcT X k ≤ LC := by
  have h1 := lcT_dvd_lc h
  exact ⟨Nat.pos_of_dvd_of_pos h1 lc_pos, Nat.le_of_dvd lc_pos h1⟩
theorem lcT_dvd {j : Nat} : ∀ {k : Nat}, j < k → (X j).toNat ∣ lcT X k
  | 0, h => by omega
  | k + 1, h => by
    show (X j).toNat ∣ lcT X k / Nat.gcd (lcT X k) (X k).toNat * (X k).toNat
    rw [lcm_is]
    by_cases e : j = k
    · subst e; exact Nat.dvd_lcm_right _ _
    · exact Nat.dvd_trans (lcT_dvd (k := k) (by omega)) (Nat.dvd_lcm_left _ _)
theorem share_mul {A : Nat} {x : Int} (h : 1 ≤ x) (hd : x.toNat ∣ A) : (A : Int) / x * x = A := by
  refine Int.ediv_mul_cancel ?_
  have := Int.natCast_dvd_natCast.2 hd
  rwa [Int.toNat_of_nonneg (by omega)] at this
end

theorem cellsL_snocX {X : Nat → Int} (q : Nat) {x : Int} (h : X q = x) : cellsL q X ++ [.int .i64 x] = cellsL (q + 1) X := by
  unfold cellsL
  rw [List.range_succ, List.map_append, List.map_cons, List.map_nil, h]
/-- The least number for one more outcome, 0 if there is none. -/
def RestP (S : Nat) (x : Int) : Prop := (((1 ≤ x ∧ x ≤ 20) ∧ S + pieceN x < LC) ∧ ∀ y, 1 ≤ y → y < x → ¬ S + pieceN y < LC) ∨ (x = 0 ∧ ∀ y, 1 ≤ y → y ≤ 20 → ¬ S + pieceN y < LC)
noncomputable def restN (S : Nat) : Int := @Classical.epsilon Int ⟨0⟩ (RestP S)
theorem rest_unique {S : Nat} {x y : Int} (hx : RestP S x) (hy : RestP S y) : x = y := by
  rcases hx with ⟨⟨hx1, hx2⟩, hx3⟩ | ⟨hx1, hx2⟩ <;> rcases hy with ⟨⟨hy1, hy2⟩, hy3⟩ | ⟨hy1, hy2⟩
  · rcases Int.lt_trichotomy x y with h | h | h
    · exact absurd hx2 (hy3 x hx1.1 h)
    · exact h
    · exact absurd hy2 (hx3 y hy1.1 h)
  · exact absurd hx2 (hy2 x hx1.1 hx1.2)
  · exact absurd hy2 (hx2 y hy1.1 hy1.2)
  · omega
theorem restN_is {S : Nat} {x : Int} (h : RestP S x) : restN S = x := rest_unique (@Classical.epsilon_spec_aux Int ⟨0⟩ (RestP S) ⟨x, h⟩) h
/-- What OddsRest tells. -/
def RestOk (m : Nat) (X : Nat → Int) : Prop := IsOdds m X ∧ m ≠ 6
noncomputable def restA (m : Nat) (X : Nat → Int) : Int := if tt (RestOk m X) = true then restN (pieceS X m) else 0
def RestYes (m : Nat) (X : Nat → Int) : Prop := RestOk m X ∧ restN (pieceS X m) ≠ 0
/-- One number more. -/
def snocF (X : Nat → Int) (m : Nat) (x : Int) (j : Nat) : Int := if j < m then X j else x
theorem snoc_odds {m : Nat} {X : Nat → Int} {x : Int} (h : IsOdds m X) (hm : m ≠ 6) (hx : 1 ≤ x ∧ x ≤ 20) : IsOdds (m + 1) (snocF X m x) := by
  refine ⟨by have := h.1; omega, fun j hj => ?_⟩
  unfold snocF
  by_cases e : j < m
  · rw [if_pos e]; exact h.2 j e
  · rw [if_neg e]; exact hx
theorem snoc_sum {m : Nat} {X : Nat → Int} {x : Int} : pieceS (snocF X m x) (m + 1) = pieceS X m + pieceN x := by
  show pieceS (snocF X m x) m + pieceN (snocF X m x m) = _
  rw [pieceS_congr (Y := X) (k := m) fun j hj => by unfold snocF; rw [if_pos hj]]
  unfold snocF
  rw [if_neg (Nat.lt_irrefl _)]
theorem sure_snoc {m : Nat} {X : Nat → Int} {x : Int} (h : IsOdds m X) (hm : m ≠ 6) (hx : 1 ≤ x ∧ x ≤ 20) : SureP (m + 1) (snocF X m x) ↔ pieceS X m + pieceN x < LC := by
  unfold SureP
  rw [snoc_sum]
  exact ⟨fun h' => h'.2, fun h' => ⟨snoc_odds h hm hx, h'⟩⟩
/-- The better numbers of two odds. -/
def BestOk (m : Nat) (X : Nat → Int) (q : Nat) (Y : Nat → Int) : Prop := (IsOdds m X ∧ IsOdds q Y) ∧ m = q
def bestF (X Y : Nat → Int) (j : Nat) : Int := max (X j) (Y j)
noncomputable def bestN (m : Nat) (X : Nat → Int) (q : Nat) (Y : Nat → Int) : Nat := if tt (BestOk m X q Y) = true then m else 0
theorem bestN_yes {m q : Nat} {X Y : Nat → Int} (h : BestOk m X q Y) : bestN m X q Y = m := by unfold bestN; rw [tt_of h]; rfl
theorem bestN_no {m q : Nat} {X Y : Nat → Int} (h : ¬ BestOk m X q Y) : bestN m X q Y = 0 := by unfold bestN; rw [tt_no h]; rfl
/-- How many stakes are handed back. -/
noncomputable def stakeN (m : Nat) (X : Nat → Int) : Nat := if tt (IsOdds m X) = true then m else 0
theorem stakeN_yes {m : Nat} {X : Nat → Int} (h : IsOdds m X) : stakeN m X = m := by unfold stakeN; rw [tt_of h]; rfl
theorem stakeN_no {m : Nat} {X : Nat → Int} (h : ¬ IsOdds m X) : stakeN m X = 0 := by unfold stakeN; rw [tt_no h]; rfl
theorem stakeN_small (m : Nat) (X : Nat → Int) : stakeN m X ≤ 1048576 := by
  by_cases h : IsOdds m X
  · rw [stakeN_yes h]; have := h.1; omega
  · rw [stakeN_no h]; omega
theorem bestN_small (m : Nat) (X : Nat → Int) (q : Nat) (Y : Nat → Int) : bestN m X q Y ≤ 1048576 := by
  by_cases h : BestOk m X q Y
  · rw [bestN_yes h]; have := h.1.1.1; omega
  · rw [bestN_no h]; omega
section
variable {m : Nat} {X : Nat → Int}
theorem restA_no (h : ¬ RestOk m X) : restA m X = 0 := by unfold restA; rw [tt_no h]; rfl
theorem restA_yes (h : RestOk m X) : restA m X = restN (pieceS X m) := by unfold restA; rw [tt_of h]; rfl
theorem rest_found {k : Nat} (h : RestOk m X) (hk : k < 20) (hs : pieceS X m + pieceN ((k : Int) + 1) < LC) (hno : ∀ y : Int, 1 ≤ y → y < (k : Int) + 1 → ¬ pieceS X m + pieceN y < LC) : restA m X = (k : Int) + 1 ∧ tt (RestYes m X) = true := by
  have e := restN_is (S := pieceS X m) (x := (k : Int) + 1) (.inl ⟨⟨⟨by omega, by omega⟩, hs⟩, hno⟩)
  exact ⟨by rw [restA_yes h, e], tt_of ⟨h, by rw [e]; omega⟩⟩
theorem rest_none (h : RestOk m X) (hno : ∀ y : Int, 1 ≤ y → y ≤ 20 → ¬ pieceS X m + pieceN y < LC) : restA m X = 0 ∧ tt (RestYes m X) = false := by
  have e := restN_is (S := pieceS X m) (x := 0) (.inr ⟨rfl, hno⟩)
  exact ⟨by rw [restA_yes h, e], tt_no fun h' => h'.2 e⟩
theorem rest_bad (h : ¬ RestOk m X) : restA m X = 0 ∧ tt (RestYes m X) = false := ⟨restA_no h, tt_no fun h' => h h'.1⟩
end
end Go.Proofs.Ytimkgplabbcklaa
