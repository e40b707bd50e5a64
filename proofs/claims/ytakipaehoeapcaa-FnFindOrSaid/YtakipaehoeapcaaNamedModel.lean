/- What RateNamed answers, in plain mathematics. -/
import Derived.Test.YtakipaehoeapcaaTurnModel
import Derived.Test.YtakipaehoeapcaaDiff
namespace Go.Proofs.Ytakipaehoeapcaa
set_option linter.unusedVariables false

theorem Rd.at {w : World} {ba oa n : Nat} {p : Nat → Int} (h : Rd w (some ⟨ba, oa, none⟩) n p) {k : Nat} (hk : k < n) : w.cell? ⟨ba, oa + k, none⟩ = some (.int .i64 (p k)) := by
  obtain ⟨b, o, e, hc⟩ := h k hk
  cases e
  exact hc

/-- The place of r among the first n numbers. -/
def invF (p : Nat → Int) : Nat → Nat → Nat
  | 0, _ => 0
  | n + 1, r => if p n = r then n else invF p n r

theorem inv_hit {p : Nat → Int} {r : Nat} : ∀ {n : Nat}, (∃ i, i < n ∧ p i = r) → invF p n r < n ∧ p (invF p n r) = r
  | 0, ⟨i, hi, _⟩ => absurd hi (Nat.not_lt_zero _)
  | n + 1, ⟨i, hi, e⟩ => by
    unfold invF
    by_cases h : p n = r
    · rw [if_pos h]; exact ⟨Nat.lt_succ_self _, h⟩
    · rw [if_neg h]
      have hne : i ≠ n := fun e' => h (by rw [← e']; exact e)
      have := inv_hit (p := p) (r := r) (n := n) ⟨i, by omega, e⟩
      exact ⟨by omega, this.2⟩

/-- n different numbers below n are all of them. -/
theorem surj_of_inj : ∀ (n : Nat) (q : Nat → Nat), (∀ i, i < n → q i < n) → (∀ i j, i < j → j < n → q i ≠ q j) → ∀ r, r < n → ∃ i, i < n ∧ q i = r
  | 0, _, _, _, r, hr => absurd hr (Nat.not_lt_zero _)
  | n + 1, q, hq, hi, r, hr => by
    have hi' : ∀ i j, i < n + 1 → j < n + 1 → i ≠ j → q i ≠ q j := fun i j h1 h2 h3 => by
      rcases Nat.lt_or_gt_of_ne h3 with h | h
      · exact hi i j h h2
      · exact fun e => hi j i h h1 e.symm
    by_cases h : ∃ i0, i0 < n + 1 ∧ q i0 = n
    · obtain ⟨i0, h0, e0⟩ := h
      by_cases hrn : r = n
      · exact ⟨i0, h0, by rw [e0, hrn]⟩
      · have hlt : ∀ i, i < n + 1 → i ≠ i0 → q i < n := fun i h1 h2 => by
          have := hq i h1
          have h3 := hi' i i0 h1 h0 h2
          omega
        obtain ⟨i, hin, e⟩ := surj_of_inj n (fun i => if i = i0 then q n else q i) (fun i h1 => by
          by_cases e : i = i0
          · simp only [if_pos e]; exact hlt n (by omega) (by omega)
          · simp only [if_neg e]; exact hlt i (by omega) e) (fun i j h1 h2 => by
          by_cases e1 : i = i0
          · by_cases e2 : j = i0
            · omega
            · simp only [if_pos e1, if_neg e2]; exact hi' n j (by omega) (by omega) (by omega)
          · by_cases e2 : j = i0
            · simp only [if_neg e1, if_pos e2]; exact hi' i n (by omega) (by omega) (by omega)
            · simp only [if_neg e1, if_neg e2]; exact hi' i j (by omega) (by omega) (by omega)) r (by omega)
        by_cases e1 : i = i0
        · simp only [if_pos e1] at e; exact ⟨n, by omega, e⟩
        · simp only [if_neg e1] at e; exact ⟨i, by omega, e⟩
    · have hlt : ∀ i, i < n + 1 → q i < n := fun i h1 => by
        have := hq i h1
        have h2 : q i ≠ n := fun e => h ⟨i, h1, e⟩
        omega
      obtain ⟨i, hin, e⟩ := surj_of_inj n q (fun i h1 => hlt i (by omega)) (fun i j h1 h2 => hi i j h1 (by omega)) (q n) (hlt n (by omega))
      exact absurd e (hi i n hin (by omega))

theorem IsDiff.all {n : Nat} {p : Nat → Int} (h : IsDiff n n p) {r : Nat} (hr : r < n) : ∃ i, i < n ∧ p i = r := by
  obtain ⟨i, hi, e⟩ := surj_of_inj n (fun i => (p i).toNat) (fun i hi => by have := h.1 i hi; show (p i).toNat < n; omega) (fun i j h1 h2 e => by
    have a := h.1 i (by omega)
    have b := h.1 j h2
    exact h.2 i j h1 h2 (by have e' : (p i).toNat = (p j).toNat := e; omega)) r hr
  have := h.1 i hi
  have e' : (p i).toNat = r := e
  exact ⟨i, hi, by omega⟩
theorem IsDiff.inv {n : Nat} {p : Nat → Int} (h : IsDiff n n p) {r : Nat} (hr : r < n) : invF p n r < n ∧ p (invF p n r) = r := inv_hit (h.all hr)
theorem IsDiff.inv_at {n i x : Nat} {p : Nat → Int} (h : IsDiff n n p) (hi : i < n) (hx : p i = x) : invF p n x = i := by
  have hxn := h.1 i hi
  have := h.inv (r := x) (by omega)
  by_cases e : invF p n x = i
  · exact e
  · rcases Nat.lt_or_gt_of_ne e with h1 | h1
    · exact absurd (this.2.trans hx.symm) (h.2 _ _ h1 hi)
    · exact absurd (hx.trans this.2.symm) (h.2 _ _ h1 this.1)
/-- n numbers below n that hit all are different. -/
theorem diff_of_all {n : Nat} {p : Nat → Int} (h : ∀ i, i < n → 0 ≤ p i ∧ p i < n) (ha : ∀ r, r < n → ∃ i, i < n ∧ p i = r) : IsDiff n n p := by
  refine ⟨h, fun i j h1 h2 e => ?_⟩
  have hg : ∀ r, r < n → invF p n r < n ∧ p (invF p n r) = r := fun r hr => inv_hit (ha r hr)
  have hs := surj_of_inj n (invF p n) (fun r hr => (hg r hr).1) (fun a b h3 h4 e' => by
    have h5 := (hg a (by omega)).2
    have h6 := (hg b h4).2
    rw [e'] at h5
    omega)
  obtain ⟨r, hr, er⟩ := hs i (by omega)
  obtain ⟨s, hs, es⟩ := hs j h2
  have h5 := (hg r hr).2
  have h6 := (hg s hs).2
  rw [er] at h5
  rw [es] at h6
  have : r = s := by omega
  subst this
  omega
theorem full_iff {S m : Nat} (hS : S < 2 ^ m) : S = 2 ^ m - 1 ↔ ∀ y, y < m → S.testBit y = true := by
  constructor
  · rintro rfl y hy
    rw [Nat.testBit_two_pow_sub_one]; simpa using hy
  · intro h
    apply Nat.eq_of_testBit_eq
    intro y
    rw [Nat.testBit_two_pow_sub_one]
    by_cases hy : y < m
    · rw [h y hy]; simp [hy]
    · rw [Nat.testBit_lt_two_pow (Nat.lt_of_lt_of_le hS (Nat.pow_le_pow_right (by omega) (by omega)))]; simp [hy]
theorem every_iff {S m : Nat} {p : Nat → Int} (hS : S < 2 ^ m) (hs : SetOf S m p) (hr : ∀ i, i < m → 0 ≤ p i ∧ p i < m) : S = 2 ^ m - 1 ↔ IsDiff m m p := by
  rw [full_iff hS]
  constructor
  · intro h
    exact diff_of_all hr fun r hr => (hs r).1 (h r hr)
  · intro h y hy
    exact (hs y).2 (h.all hy)

/-- May moneys be called so? -/
def NamedOk (n m : Nat) (L : Nat → Nat) (Z : Nat → Nat → Int) (p : Nat → Int) : Prop := IsRates n L Z ∧ m = n ∧ IsDiff n n p
noncomputable def namedN (n m : Nat) (L : Nat → Nat) (Z : Nat → Nat → Int) (p : Nat → Int) : Nat := if tt (NamedOk n m L Z p) = true then n else 0
theorem namedN_yes {n m : Nat} {L : Nat → Nat} {Z : Nat → Nat → Int} {p : Nat → Int} (h : NamedOk n m L Z p) : namedN n m L Z p = n := by unfold namedN; rw [tt_of h]; rfl
theorem namedN_no {n m : Nat} {L : Nat → Nat} {Z : Nat → Nat → Int} {p : Nat → Int} (h : ¬ NamedOk n m L Z p) : namedN n m L Z p = 0 := by unfold namedN; rw [tt_no h]; rfl
theorem named_small (n m : Nat) (L : Nat → Nat) (Z : Nat → Nat → Int) (p : Nat → Int) : namedN n m L Z p ≤ 1048576 ∧ tot (fun _ => n) (namedN n m L Z p) ≤ 1048576 := by
  by_cases h : NamedOk n m L Z p
  · rw [namedN_yes h, tot_same]
    have := h.1.1.2
    have h2 : n * n ≤ 5 * 5 := Nat.mul_le_mul this this
    omega
  · rw [namedN_no h]; simp [tot]

def namedX (n : Nat) (Z : Nat → Nat → Int) (p : Nat → Int) (r s : Nat) : Int := Z (invF p n r) (invF p n s)
/-- The table when i rows are done and k numbers of the next one. -/
def partN (n : Nat) (Z : Nat → Nat → Int) (p : Nat → Int) (i k r s : Nat) : Int := if invF p n r < i ∨ invF p n r = i ∧ invF p n s < k then namedX n Z p r s else 0
section
variable {n i k x y r s : Nat} {Z : Nat → Nat → Int} {p : Nat → Int}
theorem partN_zero (n : Nat) (Z : Nat → Nat → Int) (p : Nat → Int) (r s : Nat) : 0 = partN n Z p 0 0 r s := by unfold partN; rw [if_neg (by omega)]
theorem partN_step (h : IsDiff n n p) (hi : i < n) (hk : k < n) (hx : p i = x) (hy : p k = y) (hr : r < n) (hs : s < n) : (if r = x ∧ s = y then Z i k else partN n Z p i k r s) = partN n Z p i (k + 1) r s := by
  have e1 := h.inv_at hi hx
  have e2 := h.inv_at hk hy
  by_cases e : r = x ∧ s = y
  · rw [if_pos e]
    obtain ⟨rfl, rfl⟩ := e
    unfold partN namedX
    rw [e1, e2, if_pos (by omega)]
  · rw [if_neg e]
    have hne : ¬ (invF p n r = i ∧ invF p n s = k) := by
      rintro ⟨h1, h2⟩
      have h3 := (h.inv hr).2
      have h4 := (h.inv hs).2
      rw [h1] at h3
      rw [h2] at h4
      exact e ⟨by omega, by omega⟩
    unfold partN
    by_cases c : invF p n r < i ∨ invF p n r = i ∧ invF p n s < k
    · rw [if_pos c, if_pos (by omega)]
    · rw [if_neg c, if_neg (by omega)]
theorem partN_row (h : IsDiff n n p) (hs : s < n) : partN n Z p i n r s = partN n Z p (i + 1) 0 r s := by
  have := (h.inv hs).1
  unfold partN
  by_cases c : invF p n r < i ∨ invF p n r = i ∧ invF p n s < n
  · rw [if_pos c, if_pos (by omega)]
  · rw [if_neg c, if_neg (by omega)]
theorem partN_all (h : IsDiff n n p) (hr : r < n) : partN n Z p n 0 r s = namedX n Z p r s := by
  have := (h.inv hr).1
  unfold partN
  rw [if_pos (by omega)]
end

/-- The same in an array of five rows of five. -/
def partA (n : Nat) (Z : Nat → Nat → Int) (p : Nat → Int) (i k j : Nat) : Int := if j / 5 < n ∧ j % 5 < n then partN n Z p i k (j / 5) (j % 5) else 0
section
variable {n i k x y j : Nat} {Z : Nat → Nat → Int} {p : Nat → Int}
theorem partA_zero (n : Nat) (Z : Nat → Nat → Int) (p : Nat → Int) (j : Nat) : 0 = partA n Z p 0 0 j := by
  unfold partA; rw [← partN_zero]; simp
theorem partA_step (h : IsDiff n n p) (h5 : n ≤ 5) (hi : i < n) (hk : k < n) (hx : p i = x) (hy : p k = y) : (if j = x * 5 + y then Z i k else partA n Z p i k j) = partA n Z p i (k + 1) j := by
  have h1 := h.1 i hi
  have h2 := h.1 k hk
  by_cases hj : j / 5 < n ∧ j % 5 < n
  · unfold partA
    rw [if_pos hj, if_pos hj, ← partN_step h hi hk hx hy hj.1 hj.2]
    by_cases e : j = x * 5 + y
    · rw [if_pos e, if_pos (by omega)]
    · rw [if_neg e, if_neg (by omega)]
  · unfold partA
    rw [if_neg hj, if_neg hj, if_neg (by omega)]
theorem partA_row (h : IsDiff n n p) : partA n Z p i n j = partA n Z p (i + 1) 0 j := by
  unfold partA
  by_cases hj : j / 5 < n ∧ j % 5 < n
  · rw [if_pos hj, if_pos hj, partN_row h hj.2]
  · rw [if_neg hj, if_neg hj]
end
end Go.Proofs.Ytakipaehoeapcaa
