/- Sets of small numbers as bits of an int, in the walk's spelling. -/
/- Lists of different numbers, in plain mathematics. -/
/- Powers of 12 and values along lists of moneys, in plain mathematics. -/
/- What RateRound answers, in plain mathematics. -/
import Derived.Test.YtakipaehoeapcaaMem
namespace Go.Proofs.Ytakipaehoeapcaa
set_option linter.unusedVariables false

section
open Go.RowKit
theorem ofInt64_nat (a : Nat) (ha : a < 18446744073709551616) : (BitVec.ofInt 64 (a : Int)).toNat = a := by
  rw [BitVec.ofInt_natCast, BitVec.toNat_ofNat]; exact Nat.mod_eq_of_lt (by omega)

theorem bits_and_i64 (a b : Nat) (ha : a < 9223372036854775808) (hb : b < 9223372036854775808) : bits .and .i64 (a : Int) (b : Int) = ((a &&& b : Nat) : Int) := by
  have hx : a &&& b < 2 ^ 63 := Nat.and_lt_two_pow _ (by omega)
  show IntKind.i64.wrap ((BitVec.ofInt 64 (a : Int) &&& BitVec.ofInt 64 (b : Int)).toNat : Int) = _
  rw [BitVec.toNat_and, ofInt64_nat a (by omega), ofInt64_nat b (by omega), IntKind.wrap_i64]
  omega

theorem bits_or_i64 (a b : Nat) (ha : a < 9223372036854775808) (hb : b < 9223372036854775808) : bits .or .i64 (a : Int) (b : Int) = ((a ||| b : Nat) : Int) := by
  have hx : a ||| b < 2 ^ 63 := Nat.or_lt_two_pow (by omega) (by omega)
  show IntKind.i64.wrap ((BitVec.ofInt 64 (a : Int) ||| BitVec.ofInt 64 (b : Int)).toNat : Int) = _
  rw [BitVec.toNat_or, ofInt64_nat a (by omega), ofInt64_nat b (by omega), IntKind.wrap_i64]
  omega

theorem two_pow_lt {x n : Nat} (h : x < n) : 2 ^ x < 2 ^ n := Nat.pow_lt_pow_right (by omega) h

theorem wrap_pow {x : Nat} (h : x < 62) : wrap64 (2 ^ x) = ((2 ^ x : Nat) : Int) := by
  have := two_pow_lt h
  rw [IntWalk.wrap64_in _ ⟨by have : (0 : Int) ≤ 2 ^ x := Int.le_of_lt (Int.pow_pos (by omega)); omega, by
    have e : ((2 ^ x : Nat) : Int) = (2 : Int) ^ x := by simp
    have : ((2 ^ x : Nat) : Int) < ((2 ^ 62 : Nat) : Int) := by omega
    omega⟩]
  simp

/-- Is x in the set? As the walk asks. -/
theorem bit_has (S x : Nat) (hS : S < 2 ^ 62) : (bits .and .i64 ((S : Int) / 2 ^ x) 1 == 1) = S.testBit x := by
  have e : ((S : Int) / 2 ^ x) = ((S / 2 ^ x : Nat) : Int) := by simp
  have hle : S / 2 ^ x ≤ S := Nat.div_le_self _ _
  rw [e, show (1 : Int) = ((1 : Nat) : Int) from rfl, bits_and_i64 _ _ (by omega) (by omega)]
  rw [Nat.testBit, Nat.shiftRight_eq_div_pow, Nat.and_comm 1]
  have h2 : S / 2 ^ x &&& 1 = 0 ∨ S / 2 ^ x &&& 1 = 1 := by rw [Nat.and_one_is_mod]; omega
  rcases h2 with h | h <;> rw [h] <;> rfl

/-- x is put into the set. -/
theorem bit_put (S x : Nat) (hS : S < 2 ^ 62) (hx : x < 62) : bits .or .i64 (S : Int) (wrap64 (2 ^ x)) = ((S ||| 2 ^ x : Nat) : Int) := by
  have := two_pow_lt hx
  rw [wrap_pow hx, bits_or_i64 _ _ (by omega) (by omega)]

theorem bit_put_lt {S x n : Nat} (hS : S < 2 ^ n) (hx : x < n) : S ||| 2 ^ x < 2 ^ n := Nat.or_lt_two_pow hS (two_pow_lt hx)

theorem bit_put_has (S x y : Nat) : (S ||| 2 ^ x).testBit y = true ↔ (S.testBit y = true ∨ y = x) := by
  rw [Nat.testBit_or, Bool.or_eq_true, Nat.testBit_two_pow, decide_eq_true_iff]
  exact ⟨fun h => h.imp_right Eq.symm, fun h => h.imp_right Eq.symm⟩
end

section
open Go.RowKit
/-- m numbers from 0 to n - 1, none of them twice. -/
def IsDiff (n m : Nat) (X : Nat → Int) : Prop := (∀ i, i < m → 0 ≤ X i ∧ X i < n) ∧ ∀ i j, i < j → j < m → X i ≠ X j

/-- A way: different moneys, two at least. -/
def IsWay (n m : Nat) (X : Nat → Int) : Prop := IsDiff n m X ∧ 2 ≤ m ∧ m ≤ n

/-- The set of the first k numbers. -/
def SetOf (S k : Nat) (X : Nat → Int) : Prop := ∀ y : Nat, S.testBit y = true ↔ ∃ j, j < k ∧ X j = y

theorem SetOf.nil (X : Nat → Int) : SetOf 0 0 X := by
  intro y
  simp
theorem SetOf.put {S k x : Nat} {X : Nat → Int} (h : SetOf S k X) (hx : X k = x) : SetOf (S ||| 2 ^ x) (k + 1) X := by
  intro y
  rw [bit_put_has, h y]
  constructor
  · rintro (⟨j, hj, e⟩ | rfl)
    · exact ⟨j, by omega, e⟩
    · exact ⟨k, by omega, hx⟩
  · rintro ⟨j, hj, e⟩
    by_cases ek : j = k
    · subst ek; right; omega
    · exact .inl ⟨j, by omega, e⟩

theorem IsDiff.nil (n : Nat) (X : Nat → Int) : IsDiff n 0 X := ⟨fun i hi => absurd hi (Nat.not_lt_zero _), fun i j _ hj => absurd hj (Nat.not_lt_zero _)⟩
theorem IsDiff.snoc {n k S x : Nat} {X : Nat → Int} (h : IsDiff n k X) (hs : SetOf S k X) (hx : X k = x) (hlt : x < n) (hno : S.testBit x = false) : IsDiff n (k + 1) X := by
  refine ⟨fun i hi => ?_, fun i j hij hj => ?_⟩
  · by_cases e : i = k
    · subst e; omega
    · exact h.1 i (by omega)
  · by_cases e : j = k
    · subst e
      intro e'
      have := (hs x).2 ⟨i, hij, by rw [e', hx]⟩
      rw [hno] at this
      cases this
    · exact h.2 i j hij (by omega)
theorem not_diff_twice {n m k S x : Nat} {X : Nat → Int} (hs : SetOf S k X) (hk : k < m) (hx : X k = x) (hyes : S.testBit x = true) : ¬ IsDiff n m X := by
  intro h
  obtain ⟨j, hj, e⟩ := (hs x).1 hyes
  exact h.2 j k hj hk (by rw [e, hx])
theorem not_diff_range {n m k : Nat} {X : Nat → Int} (hk : k < m) (h : X k < 0 ∨ (n : Int) ≤ X k) : ¬ IsDiff n m X := by
  intro hd
  have := hd.1 k hk
  omega
end

section
open Go.RowKit
def p12 : Nat → Int
  | 0 => 1
  | k + 1 => p12 k * 12

theorem p12_le (k : Nat) (h : k ≤ 10) : 1 ≤ p12 k ∧ p12 k ≤ 61917364224 := by
  have : k = 0 ∨ k = 1 ∨ k = 2 ∨ k = 3 ∨ k = 4 ∨ k = 5 ∨ k = 6 ∨ k = 7 ∨ k = 8 ∨ k = 9 ∨ k = 10 := by omega
  rcases this with rfl | rfl | rfl | rfl | rfl | rfl | rfl | rfl | rfl | rfl | rfl <;> decide

/-- The value behind k changes along a list, begun with v. -/
def valF (Z : Nat → Nat → Int) (W : Nat → Int) (v : Int) : Nat → Int
  | 0 => v
  | k + 1 => valF Z W v k * Z (W k).toNat (W (k + 1)).toNat

theorem valF_le {Z : Nat → Nat → Int} {W : Nat → Int} {v : Int} (k : Nat) (hk : k ≤ 5) (hv : 0 ≤ v ∧ v ≤ 2985984) (h : ∀ j, j < k → 0 ≤ Z (W j).toNat (W (j + 1)).toNat ∧ Z (W j).toNat (W (j + 1)).toNat ≤ 144) :
    0 ≤ valF Z W v k ∧ valF Z W v k ≤ 2985984 * 144 ^ k := by
  induction k with
  | zero => exact ⟨hv.1, by simpa [valF] using hv.2⟩
  | succ k ih =>
    obtain ⟨h1, h2⟩ := ih (by omega) (fun j hj => h j (by omega))
    obtain ⟨h3, h4⟩ := h k (by omega)
    refine ⟨Int.mul_nonneg h1 h3, ?_⟩
    show valF Z W v k * Z (W k).toNat (W (k + 1)).toNat ≤ _
    calc valF Z W v k * Z (W k).toNat (W (k + 1)).toNat ≤ (2985984 * 144 ^ k) * 144 := Int.mul_le_mul h2 h4 h3 (Int.mul_nonneg (by decide) (Int.pow_nonneg (by decide)))
      _ = 2985984 * 144 ^ (k + 1) := by rw [Int.mul_assoc, Int.pow_succ]

theorem pow144_le (k : Nat) (h : k ≤ 5) : (144 : Int) ^ k ≤ 61917364224 := by
  have : k = 0 ∨ k = 1 ∨ k = 2 ∨ k = 3 ∨ k = 4 ∨ k = 5 := by omega
  rcases this with rfl | rfl | rfl | rfl | rfl | rfl <;> decide

theorem valF_bound {Z : Nat → Nat → Int} {W : Nat → Int} {v : Int} (k : Nat) (hk : k ≤ 5) (hv : 0 ≤ v ∧ v ≤ 2985984) (h : ∀ j, j < k → 0 ≤ Z (W j).toNat (W (j + 1)).toNat ∧ Z (W j).toNat (W (j + 1)).toNat ≤ 144) :
    0 ≤ valF Z W v k ∧ valF Z W v k ≤ 1000000000000000000 := by
  obtain ⟨h1, h2⟩ := valF_le k hk hv h
  have := pow144_le k hk
  exact ⟨h1, by omega⟩
theorem p12_small (k : Nat) (h : k ≤ 6) : 0 ≤ p12 k ∧ p12 k ≤ 2985984 := by
  have : k = 0 ∨ k = 1 ∨ k = 2 ∨ k = 3 ∨ k = 4 ∨ k = 5 ∨ k = 6 := by omega
  rcases this with rfl | rfl | rfl | rfl | rfl | rfl | rfl <;> decide
theorem valF_congr {Z Y : Nat → Nat → Int} {W : Nat → Int} {v : Int} (k : Nat) (h : ∀ j, j < k → Z (W j).toNat (W (j + 1)).toNat = Y (W j).toNat (W (j + 1)).toNat) : valF Z W v k = valF Y W v k := by
  induction k with
  | zero => rfl
  | succ k ih =>
    show valF Z W v k * _ = valF Y W v k * _
    rw [ih (fun j hj => h j (by omega)), h k (by omega)]
end

section
open Go.RowKit
/-- A round: a way that begins with its least money. -/
def IsRing (n m : Nat) (X : Nat → Int) : Prop := IsWay n m X ∧ ∀ i, 1 ≤ i → i < m → X 0 < X i
def RoundOk (n : Nat) (L : Nat → Nat) (Z : Nat → Nat → Int) (m : Nat) (X : Nat → Int) : Prop := IsRates n L Z ∧ IsRing n m X
/-- The round closed: its first money behind it. -/
def closeF (m : Nat) (X : Nat → Int) (k : Nat) : Int := if k < m then X k else X 0
def roundV (n : Nat) (Z : Nat → Nat → Int) (m : Nat) (X : Nat → Int) : Int := valF Z (closeF m X) (p12 ((n : Int) - (m + 1 : Nat) + 1).toNat) m
noncomputable def roundAns (n : Nat) (L : Nat → Nat) (Z : Nat → Nat → Int) (m : Nat) (X : Nat → Int) : Int := if tt (RoundOk n L Z m X) = true then roundV n Z m X else 0
theorem roundAns_no {n : Nat} {L : Nat → Nat} {Z : Nat → Nat → Int} {m : Nat} {X : Nat → Int} (h : ¬ RoundOk n L Z m X) : roundAns n L Z m X = 0 := by unfold roundAns; rw [tt_no h]; rfl
theorem roundAns_yes {n : Nat} {L : Nat → Nat} {Z : Nat → Nat → Int} {m : Nat} {X : Nat → Int} (h : RoundOk n L Z m X) : roundAns n L Z m X = roundV n Z m X := by unfold roundAns; rw [tt_of h]; rfl
theorem closeF_in {n m : Nat} {X : Nat → Int} (h : IsWay n m X) (i : Nat) : 0 ≤ closeF m X i ∧ closeF m X i < n := by
  have := h.2
  unfold closeF
  by_cases hi : i < m
  · rw [if_pos hi]; exact h.1.1 i hi
  · rw [if_neg hi]; exact h.1.1 0 (by omega)

/-- The least of X 0, .. X k. -/
def minF (X : Nat → Int) : Nat → Int
  | 0 => X 0
  | k + 1 => min (minF X k) (X (k + 1))
theorem minF_le (X : Nat → Int) (k : Nat) : ∀ i, i ≤ k → minF X k ≤ X i := by
  induction k with
  | zero => intro i hi; have : i = 0 := by omega
            subst this; exact Int.le_refl _
  | succ k ih =>
    intro i hi
    by_cases e : i = k + 1
    · subst e; exact Int.min_le_right _ _
    · exact Int.le_trans (Int.min_le_left _ _) (ih i (by omega))
theorem minF_first (X : Nat → Int) (k : Nat) (h : ∀ i, i ≤ k → X 0 ≤ X i) : minF X k = X 0 := by
  induction k with
  | zero => rfl
  | succ k ih =>
    show min (minF X k) (X (k + 1)) = X 0
    rw [ih (fun i hi => h i (by omega))]
    exact Int.min_eq_left (h (k + 1) (by omega))
theorem ring_iff {n m : Nat} {X : Nat → Int} (h : IsWay n m X) : X 0 = minF X (m - 1) ↔ IsRing n m X := by
  have hm := h.2
  constructor
  · intro e
    refine ⟨h, fun i h1 h2 => ?_⟩
    have h3 := minF_le X (m - 1) i (by omega)
    have h4 := h.1.2 0 i (by omega) h2
    omega
  · intro hr
    refine (minF_first X (m - 1) fun i hi => ?_).symm
    by_cases e : i = 0
    · subst e; exact Int.le_refl _
    · exact Int.le_of_lt (hr.2 i (by omega) (by omega))
end

end Go.Proofs.Ytakipaehoeapcaa
