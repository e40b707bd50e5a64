/- Fair prices of items as functions ask for them, in plain mathematics. -/
import Derived.Test.YtaipodnhnekpjaaFairLow
namespace Go.Proofs.Ytaipodnhnekpjaa
set_option linter.unusedVariables false
set_option linter.unusedSimpArgs false
open Go.RowKit

/-- Item prices. -/
def ItemP (q m : Nat) (p : Nat → Int) : Prop := (∀ k, k < q → 0 ≤ p k ∧ p k ≤ 20) ∧ q = m
/-- What a bidder gains at most with the first items, or with none. -/
def gainM (Z : Nat → Nat → Int) (p : Nat → Int) (i : Nat) : Nat → Int
  | 0 => 0
  | k + 1 => max (gainM Z p i k) (Z i k - p k)
/-- Prices are fair with some deal. -/
def SomeP (n m : Nat) (Z : Nat → Nat → Int) (p : Nat → Int) : Prop := ∃ D, D ∈ dealsP m n ∧ FairP n m Z p (nth D)
/-- What a bidder pays. -/
def payB (n m : Nat) (Z : Nat → Nat → Int) (D : Nat → Int) (i : Nat) : Int := withoutV n m Z i - (bestV n m Z - if D i = -1 then 0 else Z i (D i).toNat)
section
variable {n m : Nat} {Z : Nat → Nat → Int} {p q D E : Nat → Int}
theorem gainM_nonneg (i : Nat) : ∀ k, 0 ≤ gainM Z p i k
  | 0 => Int.le_refl _
  | k + 1 => Int.le_trans (gainM_nonneg i k) (Int.le_max_left _ _)
theorem gainM_ge {i : Nat} : ∀ {q k : Nat}, k < q → Z i k - p k ≤ gainM Z p i q
  | q + 1, k, h => by
    show _ ≤ max (gainM Z p i q) (Z i q - p q)
    by_cases e : k = q
    · subst e; exact Int.le_max_right _ _
    · exact Int.le_trans (gainM_ge (show k < q by omega)) (Int.le_max_left _ _)
theorem gainM_le {i : Nat} {c : Int} (hc : 0 ≤ c) : ∀ {q : Nat}, (∀ k, k < q → Z i k - p k ≤ c) → gainM Z p i q ≤ c
  | 0, _ => hc
  | q + 1, h => Int.max_le.2 ⟨gainM_le hc fun k hk => h k (by omega), h q (by omega)⟩
theorem gainM_range {i q : Nat} (h : ∀ k, k < q → 0 ≤ Z i k ∧ Z i k ≤ 20) (hp : ∀ k, k < q → 0 ≤ p k) : 0 ≤ gainM Z p i q ∧ gainM Z p i q ≤ 20 :=
  ⟨gainM_nonneg _ _, gainM_le (by omega) fun k hk => by have := h k hk; have := hp k hk; omega⟩
theorem gainM_congr {i : Nat} {q' : Nat → Int} : ∀ {k : Nat}, (∀ x, x < k → p x = q' x) → gainM Z p i k = gainM Z q' i k
  | 0, _ => rfl
  | k + 1, h => by
    show max _ _ = max _ _
    rw [gainM_congr fun x hx => h x (by omega), h k (by omega)]
theorem gainM_mono {i : Nat} {q' : Nat → Int} {k : Nat} (h : ∀ x, x < k → q' x ≤ p x) : gainM Z p i k ≤ gainM Z q' i k :=
  gainM_le (gainM_nonneg _ _) fun x hx => by have := h x hx; have := gainM_ge (Z := Z) (p := q') (i := i) hx; omega
theorem fair_iff (hp : ∀ x, x < m → 0 ≤ p x) (hD : ∀ i, i < n → -1 ≤ D i ∧ D i < m) : FairP n m Z p D ↔ (∀ i, i < n → gainD Z p D i = gainM Z p i m) ∧ ∀ x : Nat, x < m → ¬ (0 < p x ∧ ∀ i, i < n → D i ≠ (x : Int)) := by
  constructor
  · rintro ⟨h1, h2, h3⟩
    refine ⟨fun i hi => ?_, fun x hx ⟨h4, h5⟩ => by have := h3 x hx h5; omega⟩
    unfold gainD
    by_cases e : D i = -1
    · rw [if_pos e]
      exact Int.le_antisymm (gainM_nonneg _ _) (gainM_le (Int.le_refl _) fun k hk => by have := h2 i hi e k hk; omega)
    · rw [if_neg e]
      obtain ⟨k1, k2⟩ := h1 i hi e
      have := hD i hi
      exact Int.le_antisymm (gainM_ge (show (D i).toNat < m by omega)) (gainM_le k1 fun k hk => k2 k hk)
  · rintro ⟨h1, h2⟩
    refine ⟨fun i hi e => ?_, fun i hi e y hy => ?_, fun x hx h => ?_⟩
    · have h3 := h1 i hi
      unfold gainD at h3
      rw [if_neg e] at h3
      rw [h3]
      exact ⟨gainM_nonneg _ _, fun y hy => gainM_ge hy⟩
    · have h3 := h1 i hi
      unfold gainD at h3
      rw [if_pos e] at h3
      have := gainM_ge (Z := Z) (p := p) (i := i) hy
      omega
    · have h3 := h2 x hx
      have h4 := hp x hx
      by_cases e : 0 < p x
      · exact absurd ⟨e, h⟩ h3
      · omega
theorem fair_deal_congr (e : ∀ i, i < n → D i = E i) (h : FairP n m Z p D) : FairP n m Z p E := by
  obtain ⟨h1, h2, h3⟩ := h
  refine ⟨fun i hi => ?_, fun i hi => ?_, fun x hx h => h3 x hx fun i hi => by rw [e i hi]; exact h i hi⟩
  · rw [← e i hi]; exact h1 i hi
  · rw [← e i hi]; exact h2 i hi
theorem some_of (h : IsDeal n m D) (hf : FairP n m Z p D) : SomeP n m Z p :=
  ⟨ofF n D, dealsP_mem.2 ⟨ofF_len n D, deal_congr (fun i hi => (ofF_nth hi).symm) h⟩, fair_deal_congr (fun i hi => (ofF_nth hi).symm) hf⟩
theorem some_best (hp : ∀ x, x < m → 0 ≤ p x) (hs : SomeP n m Z p) (hE : IsDeal n m E) (hb : dealT Z E n = bestV n m Z) : FairP n m Z p E := by
  obtain ⟨D, hD, hf⟩ := hs
  exact fair_any hp (dealsP_mem.1 hD).2 hf hE hb
theorem some_range (hp : ∀ x, x < m → 0 ≤ p x) (hs : SomeP n m Z p) {k : Nat} (hk : k < m) : lowP n m Z k ≤ p k ∧ p k ≤ highP n m Z k := by
  obtain ⟨D, hD, hf⟩ := hs
  exact ⟨fair_low hp (dealsP_mem.1 hD).2 hf hk, fair_high hp (dealsP_mem.1 hD).2 hf hk⟩
theorem some_congr (e : ∀ x, x < m → p x = q x) : SomeP n m Z p ↔ SomeP n m Z q :=
  ⟨fun ⟨D, hD, hf⟩ => ⟨D, hD, fair_congr e (dealsP_mem.1 hD).2 hf⟩, fun ⟨D, hD, hf⟩ => ⟨D, hD, fair_congr (fun x hx => (e x hx).symm) (dealsP_mem.1 hD).2 hf⟩⟩
theorem high_ge {k : Nat} (hk : k < m) : 0 ≤ highP n m Z k := by
  have := less_le (n := n) (Z := Z) hk
  unfold highP
  omega
theorem high_small {k : Nat} (hk : k < m) (hZ : ∀ i, i < n → ∀ x, x < m → 0 ≤ Z i x ∧ Z i x ≤ 20) : highP n m Z k ≤ 20 := by
  have := less_near (n := n) (Z := Z) hk (M := 20) (by omega) fun i hi => (hZ i hi k hk).2
  unfold highP
  omega
theorem low_high {k : Nat} (hk : k < m) : lowP n m Z k ≤ highP n m Z k := by
  have := twice_gain (n := n) (Z := Z) hk
  unfold lowP highP
  omega
theorem low_item (hZ : ∀ i, i < n → ∀ x, x < m → 0 ≤ Z i x ∧ Z i x ≤ 20) : ItemP m m (lowP n m Z) := ⟨fun k hk => ⟨low_ge hk, Int.le_trans (low_high hk) (high_small hk hZ)⟩, rfl⟩
theorem high_item (hZ : ∀ i, i < n → ∀ x, x < m → 0 ≤ Z i x ∧ Z i x ≤ 20) : ItemP m m (highP n m Z) := ⟨fun k hk => ⟨high_ge hk, high_small hk hZ⟩, rfl⟩
theorem pay_due (h : IsDeal n m D) (hb : dealT Z D n = bestV n m Z) (hn : 0 < n) {i : Nat} (hi : i < n) : payB n m Z D i = if D i = -1 then 0 else lowP n m Z (D i).toNat := by
  unfold payB
  by_cases e : D i = -1
  · rw [if_pos e, if_pos e]
    have h1 := without_le (n := n) (m := m) (Z := Z) hi
    have h2 := without_ge (Z := Z) hi h e
    omega
  · rw [if_neg e, if_neg e]
    have hd := h.1 i hi
    obtain ⟨x, hx⟩ := Int.eq_ofNat_of_zero_le (show 0 ≤ D i by omega)
    rw [hx, Int.toNat_natCast]
    have h1 := pay_who (Z := Z) h hi hx
    rw [pay_low h hb hn (show x < m by omega)] at h1
    unfold gainB at h1
    omega
theorem gain_low (h : IsDeal n m D) (hb : dealT Z D n = bestV n m Z) (hn : 0 < n) {i : Nat} (hi : i < n) : gainM Z (lowP n m Z) i m = bestV n m Z - withoutV n m Z i := by
  have h1 := ((fair_iff (fun x hx => low_ge hx) h.1).1 (low_fair h hb hn)).1 i hi
  have h2 := pay_due h hb hn hi
  unfold payB at h2
  unfold gainD at h1
  rw [← h1]
  by_cases e : D i = -1
  · rw [if_pos e] at h2 ⊢
    rw [if_pos e] at h2
    omega
  · rw [if_neg e] at h2 ⊢
    rw [if_neg e] at h2
    show Z i (D i).toNat - lowP n m Z (D i).toNat = _
    omega
theorem sumZ_nonneg {f : Nat → Int} : ∀ (q : Nat), (∀ i, i < q → 0 ≤ f i) → 0 ≤ sumZ f q
  | 0, _ => Int.le_refl _
  | q + 1, h => by
    have h1 := sumZ_nonneg q fun i hi => h i (by omega)
    have h2 := h q (by omega)
    show 0 ≤ sumZ f q + f q
    omega
theorem sum_fair (hp : ∀ x, x < m → 0 ≤ p x) (h : IsDeal n m D) (hf : FairP n m Z p D) : sumZ p m ≤ bestV n m Z := by
  have h1 := fair_tight h hf
  have h2 := fair_best hp h hf
  have h3 := sumZ_nonneg (f := gainD Z p D) n fun i hi => ((fair_cover hp hf).2 i hi).1
  omega
theorem low_sum (hn : 0 < n) : sumZ (lowP n m Z) m ≤ bestV n m Z := by
  obtain ⟨D, hD, hb⟩ := best_is n m Z
  exact sum_fair (fun x hx => low_ge hx) hD (low_fair hD hb hn)
theorem high_sum (n m : Nat) (Z : Nat → Nat → Int) : sumZ (highP n m Z) m ≤ bestV n m Z := by
  obtain ⟨D, hD, hb⟩ := best_is n m Z
  exact sum_fair (fun x hx => high_ge hx) hD (high_fair hD hb)
end

/-- The t-th list of item prices, in the order of lists. -/
def dig (m t k : Nat) : Int := ((t / 21 ^ (m - 1 - k) % 21 : Nat) : Int)
/-- How many of the first t lists of item prices are fair with some deal. -/
noncomputable def countT (n m : Nat) (Z : Nat → Nat → Int) : Nat → Nat
  | 0 => 0
  | t + 1 => countT n m Z t + if tt (SomeP n m Z (dig m t)) = true then 1 else 0
section
variable {n m : Nat} {Z : Nat → Nat → Int}
theorem dig_range (m t k : Nat) : 0 ≤ dig m t k ∧ dig m t k ≤ 20 := by unfold dig; omega
theorem countT_yes {t : Nat} (h : SomeP n m Z (dig m t)) : countT n m Z (t + 1) = countT n m Z t + 1 := by show _ + _ = _; rw [if_pos (tt_of h)]
theorem countT_no {t : Nat} (h : ¬ SomeP n m Z (dig m t)) : countT n m Z (t + 1) = countT n m Z t := by show _ + _ = _; rw [if_neg (by rw [tt_no h]; simp)]; rfl
theorem countT_le (t : Nat) : countT n m Z t ≤ t := by
  induction t with
  | zero => exact Nat.le_refl _
  | succ t ih =>
    show countT n m Z t + _ ≤ _
    split <;> omega
theorem countT_mono {s t : Nat} (h : s ≤ t) : countT n m Z s ≤ countT n m Z t := by
  induction t with
  | zero => rw [show s = 0 by omega]; exact Nat.le_refl _
  | succ t ih =>
    by_cases e : s = t + 1
    · subst e; exact Nat.le_refl _
    · exact Nat.le_trans (ih (by omega)) (Nat.le_add_right _ _)
theorem count_ge {T : Nat} {f : Nat → Nat} : ∀ {M : Nat}, (∀ c, c < M → f c < T ∧ SomeP n m Z (dig m (f c))) → (∀ c, c + 1 < M → f c < f (c + 1)) → M ≤ countT n m Z T
  | 0, _, _ => Nat.zero_le _
  | M + 1, h, hi => by
    obtain ⟨h1, h2⟩ := h M (by omega)
    have h3 : M ≤ countT n m Z (f M) := count_ge (f := f) (fun c hc => ⟨by
      have : ∀ b, c < b → b ≤ M → f c < f b := fun b => by
        induction b with
        | zero => intro h; omega
        | succ b ih =>
          intro h1 h2
          by_cases e : c = b
          · subst e; exact hi c (by omega)
          · exact Nat.lt_trans (ih (by omega) (by omega)) (hi b (by omega))
      exact this M hc (Nat.le_refl _), (h c (by omega)).2⟩) (fun c hc => hi c (by omega))
    have h4 := countT_yes h2
    have h5 := countT_mono (n := n) (m := m) (Z := Z) (show f M + 1 ≤ T by omega)
    omega
/-- The place of a list of one or two item prices. -/
def numP (m : Nat) (p : Nat → Int) : Nat := if m = 1 then (p 0).toNat else 21 * (p 0).toNat + (p 1).toNat
theorem dig_num (h1 : 1 ≤ m) (h2 : m ≤ 2) {p : Nat → Int} (hp : ∀ k, k < m → 0 ≤ p k ∧ p k ≤ 20) : numP m p < 21 ^ m ∧ ∀ k, k < m → dig m (numP m p) k = p k := by
  have h0 := hp 0 (by omega)
  by_cases e : m = 1
  · subst e
    unfold numP dig
    rw [if_pos rfl]
    refine ⟨by omega, fun k hk => ?_⟩
    obtain rfl : k = 0 := by omega
    simp
    omega
  · obtain rfl : m = 2 := by omega
    have h3 := hp 1 (by omega)
    unfold numP dig
    rw [if_neg (by omega)]
    refine ⟨by omega, fun k hk => ?_⟩
    by_cases e1 : k = 0
    · subst e1
      simp
      omega
    · obtain rfl : k = 1 := by omega
      simp
      omega
theorem num_lt (h1 : 1 ≤ m) (h2 : m ≤ 2) {p q : Nat → Int} (hp : ∀ k, k < m → 0 ≤ p k ∧ p k ≤ q k) {k : Nat} (hk : k < m) (h : p k < q k) : numP m p < numP m q := by
  have h0 := hp 0 (by omega)
  unfold numP
  by_cases e : m = 1
  · subst e
    obtain rfl : k = 0 := by omega
    rw [if_pos rfl, if_pos rfl]
    omega
  · obtain rfl : m = 2 := by omega
    have h3 := hp 1 (by omega)
    rw [if_neg e, if_neg e]
    have hk2 : k = 0 ∨ k = 1 := by omega
    rcases hk2 with rfl | rfl <;> omega
/-- Between the least and the greatest price of an item all are prices of fair lists. -/
theorem count_range (hn : 0 < n) (h1 : 1 ≤ m) (h2 : m ≤ 2) (hZ : ∀ i, i < n → ∀ x, x < m → 0 ≤ Z i x ∧ Z i x ≤ 20) {k : Nat} (hk : k < m) : highP n m Z k - lowP n m Z k + 1 ≤ (countT n m Z (21 ^ m) : Nat) := by
  obtain ⟨D, hD, hb⟩ := best_is n m Z
  have hw := low_high (n := n) (Z := Z) hk
  obtain ⟨W, hW⟩ := Int.eq_ofNat_of_zero_le (show 0 ≤ highP n m Z k - lowP n m Z k by omega)
  have hf : ∀ c : Nat, FairP n m Z (fun x => max (lowP n m Z x) (highP n m Z x - (W - (min c W : Nat)))) D := fun c => fair_between hD (low_fair hD hb hn) (high_fair hD hb) (by omega)
  have hr : ∀ (c x : Nat), x < m → 0 ≤ max (lowP n m Z x) (highP n m Z x - ((W : Int) - (min c W : Nat))) ∧ max (lowP n m Z x) (highP n m Z x - ((W : Int) - (min c W : Nat))) ≤ 20 := fun c x hx => by
    have h3 := low_ge (n := n) (Z := Z) hx
    have h4 := high_small (n := n) hx hZ
    have h5 := low_high (n := n) (Z := Z) hx
    omega
  have := count_ge (n := n) (m := m) (Z := Z) (T := 21 ^ m) (M := W + 1) (f := fun c => numP m fun x => max (lowP n m Z x) (highP n m Z x - ((W : Int) - (min c W : Nat)))) (fun c hc => by
    obtain ⟨h3, h4⟩ := dig_num h1 h2 (hr c)
    exact ⟨h3, (some_congr h4).2 (some_of hD (hf c))⟩) (fun c hc => num_lt h1 h2 (fun x hx => ⟨(hr c x hx).1, by omega⟩) hk (by omega))
  omega
theorem count_pos (hn : 0 < n) (h1 : 1 ≤ m) (h2 : m ≤ 2) (hZ : ∀ i, i < n → ∀ x, x < m → 0 ≤ Z i x ∧ Z i x ≤ 20) : 1 ≤ countT n m Z (21 ^ m) := by
  have h3 := count_range hn h1 h2 hZ (show 0 < m by omega)
  have h4 := low_high (n := n) (Z := Z) (show 0 < m by omega)
  omega
end
end Go.Proofs.Ytaipodnhnekpjaa
