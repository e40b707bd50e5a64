/- Where prices hold, no round gains, in plain mathematics. -/
import Derived.Test.YtmjbocgoinfamaaMem
import Derived.Test.YtmjbocgoinfamaaL1Rounds
namespace Go.Proofs.Ytmjbocgoinfamaa
set_option linter.unusedVariables false

theorem hold_along {n : Nat} {Z : Nat → Nat → Int} {W : Nat → Int} (hW : ∀ i, i < n → 1 ≤ W i) (hZ : ∀ i k, i < n → k < n → 0 ≤ Z i k) (hh : ∀ i, i < n → ∀ k, k < n → Z i k * W k ≤ 12 * W i) {X : Nat → Int} {v : Int} (hv : 0 ≤ v) (k : Nat)
    (hX : ∀ j, j ≤ k → 0 ≤ X j ∧ X j < n) : 0 ≤ valF Z X v k ∧ valF Z X v k * W (X k).toNat ≤ v * 12 ^ k * W (X 0).toNat := by
  induction k with
  | zero => exact ⟨hv, by show v * W (X 0).toNat ≤ v * 12 ^ 0 * W (X 0).toNat; rw [Int.pow_zero, Int.mul_one]; exact Int.le_refl _⟩
  | succ k ih =>
    obtain ⟨h1, h2⟩ := ih (fun j hj => hX j (by omega))
    have hk := hX k (by omega)
    have hk1 := hX (k + 1) (by omega)
    have hz := hZ (X k).toNat (X (k + 1)).toNat (by omega) (by omega)
    refine ⟨Int.mul_nonneg h1 hz, ?_⟩
    have e := hh (X k).toNat (by omega) (X (k + 1)).toNat (by omega)
    calc valF Z X v k * Z (X k).toNat (X (k + 1)).toNat * W (X (k + 1)).toNat = valF Z X v k * (Z (X k).toNat (X (k + 1)).toNat * W (X (k + 1)).toNat) := by rw [Int.mul_assoc]
      _ ≤ valF Z X v k * (12 * W (X k).toNat) := Int.mul_le_mul_of_nonneg_left e h1
      _ = 12 * (valF Z X v k * W (X k).toNat) := by rw [Int.mul_left_comm]
      _ ≤ 12 * (v * 12 ^ k * W (X 0).toNat) := Int.mul_le_mul_of_nonneg_left h2 (by decide)
      _ = v * 12 ^ (k + 1) * W (X 0).toNat := by rw [Int.pow_succ]; ac_rfl
theorem p12_pow (k : Nat) : p12 k = 12 ^ k := by
  induction k with
  | zero => rfl
  | succ k ih => rw [Int.pow_succ, ← ih]; first | rfl | (show 12 * p12 k = _; rw [Int.mul_comm])
/-- Where prices hold no round gains. -/
theorem holds_none {n : Nat} {L : Nat → Nat} {Z : Nat → Nat → Int} {W : Nat → Int} (h : HoldsOk n L Z n W) : (gaining n Z).length = 0 := by
  have hr : IsRates n L Z := h.1.1.1
  have hp : IsPrices n W := h.1.1.2
  refine List.length_eq_zero_iff.2 (List.filter_eq_nil_iff.2 fun D hD => ?_)
  have hno : ¬ Gains n Z D := by
    rintro ⟨hring, hg⟩
    have hway := hring.1
    have hm2 := hway.2.1
    have hmn := hway.2.2
    have hn : 1 ≤ n := by omega
    have hc := closeF_in hway
    have h0 := (hold_along (n := n) (Z := Z) (W := W) (fun i hi => (hp.2 i hi).1) (fun i k hi hk => by have := ((hr.2 i hi).2 k hk).1; omega) h.2 (X := closeF D.length (nth D)) (v := p12 ((n : Int) - (D.length + 1 : Nat) + 1).toNat)
      (by rw [p12_pow]; exact Int.pow_nonneg (by decide)) D.length (fun j _ => hc j)).2
    have e1 : closeF D.length (nth D) D.length = nth D 0 := by unfold closeF; rw [if_neg (Nat.lt_irrefl _)]
    have e2 : closeF D.length (nth D) 0 = nth D 0 := by unfold closeF; rw [if_pos (by omega)]
    rw [e1, e2] at h0
    have e3 : ((n : Int) - (D.length + 1 : Nat) + 1).toNat = n - D.length := by omega
    have h1 := (hp.2 (nth D 0).toNat (by have := hway.1.1 0 (by omega); omega)).1
    have h2 : p12 ((n : Int) - (D.length + 1 : Nat) + 1).toNat * 12 ^ D.length = p12 n := by
      rw [e3, p12_pow, p12_pow, ← Int.pow_add, show n - D.length + D.length = n by omega]
    rw [h2] at h0
    have h3 : roundV n Z D.length (nth D) * W (nth D 0).toNat ≤ p12 n * W (nth D 0).toNat := h0
    have := Int.le_of_mul_le_mul_right h3 (by omega)
    omega
  rw [tt_no hno]; simp
end Go.Proofs.Ytmjbocgoinfamaa
