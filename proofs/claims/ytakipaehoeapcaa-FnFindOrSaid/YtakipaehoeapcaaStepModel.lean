/- What RateStep answers, in plain mathematics. -/
import Derived.Test.YtakipaehoeapcaaMem
namespace Go.Proofs.Ytakipaehoeapcaa
set_option linter.unusedVariables false

/-- The greatest of f 0, .. f (k - 1), 0 at least. -/
def rmax (f : Nat → Int) : Nat → Int
  | 0 => 0
  | k + 1 => max (rmax f k) (f k)

theorem rmax_nonneg (f : Nat → Int) (k : Nat) : 0 ≤ rmax f k := by
  induction k with
  | zero => exact Int.le_refl _
  | succ k ih => exact Int.le_trans ih (Int.le_max_left _ _)
theorem rmax_le {f : Nat → Int} {b : Int} (k : Nat) (hb : 0 ≤ b) (h : ∀ j, j < k → f j ≤ b) : rmax f k ≤ b := by
  induction k with
  | zero => exact hb
  | succ k ih => exact Int.max_le.2 ⟨ih (fun j hj => h j (by omega)), h k (by omega)⟩
theorem rmax_congr {f g : Nat → Int} (k : Nat) (h : ∀ j, j < k → f j = g j) : rmax f k = rmax g k := by
  induction k with
  | zero => rfl
  | succ k ih =>
    show max (rmax f k) (f k) = max (rmax g k) (g k)
    rw [ih (fun j hj => h j (by omega)), h k (by omega)]
/-- What is 0 behind n counts for nothing. -/
theorem rmax_more {f : Nat → Int} {n : Nat} (d : Nat) (h : ∀ j, n ≤ j → j < n + d → f j = 0) : rmax f (n + d) = rmax f n := by
  induction d with
  | zero => rfl
  | succ d ih =>
    show max (rmax f (n + d)) (f (n + d)) = _
    rw [ih (fun j h1 h2 => h j h1 (by omega)), h (n + d) (by omega) (by omega)]
    exact Int.max_eq_left (rmax_nonneg _ _)

/-- The greatest value of money y behind s changes, from a unit of money i, over n moneys. -/
def stepV (T : Nat → Nat → Int) (n i : Nat) : Nat → Nat → Int
  | 0, y => if y = i then 1 else 0
  | s + 1, y => rmax (fun x => stepV T n i s x * T x y) n

theorem stepV_le {T : Nat → Nat → Int} {n i : Nat} (h : ∀ x y, x < n → y < n → 0 ≤ T x y ∧ T x y ≤ 144) (s y : Nat) (hy : y < n) : 0 ≤ stepV T n i s y ∧ stepV T n i s y ≤ 144 ^ s := by
  induction s generalizing y with
  | zero =>
    unfold stepV
    split <;> simp
  | succ s ih =>
    refine ⟨rmax_nonneg _ _, rmax_le _ (Int.pow_nonneg (by decide)) fun x hx => ?_⟩
    calc stepV T n i s x * T x y ≤ 144 ^ s * 144 := Int.mul_le_mul (ih x hx).2 (h x y hx hy).2 (h x y hx hy).1 (Int.pow_nonneg (by decide))
      _ = 144 ^ (s + 1) := by rw [Int.pow_succ]
theorem stepV_bound {T : Nat → Nat → Int} {n i : Nat} (h : ∀ x y, x < n → y < n → 0 ≤ T x y ∧ T x y ≤ 144) (s y : Nat) (hs : s ≤ 5) (hy : y < n) : 0 ≤ stepV T n i s y ∧ stepV T n i s y ≤ 61917364224 := by
  obtain ⟨h1, h2⟩ := stepV_le (n := n) (i := i) h s y hy
  have : s = 0 ∨ s = 1 ∨ s = 2 ∨ s = 3 ∨ s = 4 ∨ s = 5 := by omega
  rcases this with rfl | rfl | rfl | rfl | rfl | rfl <;> exact ⟨h1, by omega⟩
theorem prod_bound {a b : Int} (ha : 0 ≤ a ∧ a ≤ 61917364224) (hb : 0 ≤ b ∧ b ≤ 144) : 0 ≤ a * b ∧ a * b ≤ 8916100448256 := by
  refine ⟨Int.mul_nonneg ha.1 hb.1, ?_⟩
  calc a * b ≤ 61917364224 * 144 := Int.mul_le_mul ha.2 hb.2 hb.1 (by decide)
    _ = 8916100448256 := by decide

/-- Over five moneys, of which those from n on are none, it is the same. -/
theorem stepV_five {T U : Nat → Nat → Int} {n i : Nat} (hn : n ≤ 5) (hi : i < n) (hT : ∀ x y, x < n → y < n → T x y = U x y) (h0 : ∀ x y, x < 5 → y < 5 → n ≤ x ∨ n ≤ y → T x y = 0) (s y : Nat) (hy5 : y < 5) :
    (y < n → stepV T 5 i s y = stepV U n i s y) ∧ (n ≤ y → stepV T 5 i s y = 0) := by
  induction s generalizing y with
  | zero =>
    refine ⟨fun _ => rfl, fun hy => ?_⟩
    unfold stepV
    rw [if_neg (by omega)]
  | succ s ih =>
    have e5 : 5 = n + (5 - n) := by omega
    have hm : rmax (fun x => stepV T 5 i s x * T x y) 5 = rmax (fun x => stepV T 5 i s x * T x y) n := by
      have := rmax_more (f := fun x => stepV T 5 i s x * T x y) (n := n) (5 - n) fun x hx hx5 => by
        show stepV T 5 i s x * T x y = 0
        rw [(ih x (by omega)).2 hx, Int.zero_mul]
      rwa [← e5] at this
    refine ⟨fun hy => ?_, fun hy => ?_⟩
    · show rmax (fun x => stepV T 5 i s x * T x y) 5 = rmax (fun x => stepV U n i s x * U x y) n
      rw [hm]
      exact rmax_congr _ fun x hx => by
        show stepV T 5 i s x * T x y = stepV U n i s x * U x y
        rw [(ih x (by omega)).1 hx, hT x y hx hy]
    · show rmax (fun x => stepV T 5 i s x * T x y) 5 = 0
      rw [rmax_congr (g := fun _ => 0) 5 (fun x hx => by
        show stepV T 5 i s x * T x y = 0
        rw [h0 x y hx hy5 (.inr hy), Int.mul_zero])]
      rfl

/-- A rate table and two moneys. -/
def TwoOk (n : Nat) (L : Nat → Nat) (Z : Nat → Nat → Int) (i k : Int) : Prop := IsRates n L Z ∧ InR i 0 (n - 1) ∧ InR k 0 (n - 1)
noncomputable def stepAns (n : Nat) (L : Nat → Nat) (Z : Nat → Nat → Int) (i k : Int) : Int := if tt (TwoOk n L Z i k) = true then stepV Z n i.toNat (n - 1) k.toNat else 0
theorem stepAns_no {n : Nat} {L : Nat → Nat} {Z : Nat → Nat → Int} {i k : Int} (h : ¬ TwoOk n L Z i k) : stepAns n L Z i k = 0 := by unfold stepAns; rw [tt_no h]; rfl
theorem stepAns_yes {n : Nat} {L : Nat → Nat} {Z : Nat → Nat → Int} {i k : Int} (h : TwoOk n L Z i k) : stepAns n L Z i k = stepV Z n i.toNat (n - 1) k.toNat := by unfold stepAns; rw [tt_of h]; rfl
end Go.Proofs.Ytakipaehoeapcaa
