/- Prices and gains that cover all bids bound all totals; fair prices do so tightly; in plain mathematics. -/
import Derived.Test.YtaipodnhnekpjaaFairPrices
namespace Go.Proofs.Ytaipodnhnekpjaa
set_option linter.unusedVariables false
set_option linter.unusedSimpArgs false
open Go.RowKit

/-- Prices and gains cover what each item is worth to each bidder. -/
def Cover (n m : Nat) (Z : Nat → Nat → Int) (p u : Nat → Int) : Prop := (∀ x, x < m → 0 ≤ p x) ∧ ∀ i, i < n → 0 ≤ u i ∧ ∀ x, x < m → Z i x - p x ≤ u i
/-- What a bidder gains in a deal. -/
def gainD (Z : Nat → Nat → Int) (p D : Nat → Int) (i : Nat) : Int := if D i = -1 then 0 else Z i (D i).toNat - p (D i).toNat
section
variable {n m k : Nat} {D T : Nat → Int} {Z : Nat → Nat → Int} {p u c : Nat → Int}
theorem total_cells (h : ∀ i, i < n → -1 ≤ D i ∧ D i < m) : dealT Z D n = sumZ (fun i => sumZ (fun x => if D i = (x : Int) then Z i x else 0) m) n := by
  rw [dealT_sum]
  refine sumZ_congr n fun i hi => ?_
  have hr := h i hi
  by_cases e : D i = -1
  · rw [if_pos e, sumZ_zero m fun x _ => if_neg (by omega)]
  · obtain ⟨y, hy⟩ := Int.eq_ofNat_of_zero_le (show 0 ≤ D i by omega)
    rw [if_neg e, sumZ_one (x := y) m (by omega) fun x _ hne => if_neg (by omega), if_pos hy, hy, Int.toNat_natCast]
theorem sum_cnt (a : Int) (D : Nat → Int) (x : Int) : ∀ (q : Nat), sumZ (fun i => if D i = x then a else 0) q = (cntN D x q : Int) * a
  | 0 => by show (0 : Int) = ((0 : Nat) : Int) * a; simp
  | q + 1 => by
    show sumZ (fun i => if D i = x then a else 0) q + (if D q = x then a else 0) = ((cntN D x q + if D q = x then 1 else 0 : Nat) : Int) * a
    rw [sum_cnt a D x q]
    by_cases e : D q = x
    · rw [if_pos e, if_pos e, Int.natCast_add, Int.add_mul]; simp
    · rw [if_neg e, if_neg e]; simp
theorem price_sum (h : ∀ i, i < n → -1 ≤ D i ∧ D i < m) : dealT (fun _ x => p x) D n = sumZ (fun x => (cntN D (x : Int) n : Int) * p x) m := by
  rw [total_cells h, sumZ_swap]
  exact sumZ_congr m fun x _ => sum_cnt (p x) D x n
theorem split_total (Z : Nat → Nat → Int) (p D : Nat → Int) : ∀ (q : Nat), dealT Z D q = sumZ (gainD Z p D) q + dealT (fun _ x => p x) D q
  | 0 => rfl
  | q + 1 => by
    show dealT Z D q + (if D q = -1 then 0 else Z q (D q).toNat) = sumZ (gainD Z p D) q + gainD Z p D q + (dealT (fun _ x => p x) D q + if D q = -1 then 0 else p (D q).toNat)
    rw [split_total Z p D q]
    unfold gainD
    by_cases e : D q = -1
    · rw [if_pos e, if_pos e, if_pos e]; omega
    · rw [if_neg e, if_neg e, if_neg e]; omega
theorem gain_le (hc : Cover n m Z p u) (hT : ∀ i, i < n → -1 ≤ T i ∧ T i < m) : ∀ i, i < n → gainD Z p T i ≤ u i := by
  intro i hi
  have hr := hT i hi
  unfold gainD
  by_cases e : T i = -1
  · rw [if_pos e]; exact (hc.2 i hi).1
  · rw [if_neg e]; exact (hc.2 i hi).2 _ (by omega)
/-- With c of each item no total is above this. -/
theorem weak (hc : Cover n m Z p u) (hT : ∀ i, i < n → -1 ≤ T i ∧ T i < m) (hn : ∀ x : Nat, x < m → (cntN T (x : Int) n : Int) ≤ c x) : dealT Z T n ≤ sumZ u n + sumZ (fun x => c x * p x) m := by
  rw [split_total Z p T n, price_sum hT]
  have h1 := sumZ_le n (gain_le hc hT)
  have h2 := sumZ_le m (f := fun x => (cntN T (x : Int) n : Int) * p x) (g := fun x => c x * p x) fun x hx => Int.mul_le_mul_of_nonneg_right (hn x hx) (hc.1 x hx)
  omega
theorem items_sum (p : Nat → Int) (k : Nat) (a : Int) : ∀ (q : Nat), sumZ (fun x => itemsX k a x * p x) q = sumZ p q + if k < q then (a - 1) * p k else 0
  | 0 => by simp [sumZ]
  | q + 1 => by
    show sumZ (fun x => itemsX k a x * p x) q + itemsX k a q * p q = sumZ p q + p q + _
    rw [items_sum p k a q]
    unfold itemsX
    by_cases e : q = k
    · subst e
      rw [if_pos rfl, if_neg (Nat.lt_irrefl q), if_pos (by omega), Int.sub_mul]
      omega
    · rw [if_neg e]
      by_cases e2 : k < q
      · rw [if_pos e2, if_pos (by omega)]; omega
      · rw [if_neg e2, if_neg (by omega)]; omega
theorem deal_cnt (h : IsDeal n m D) (x : Nat) : (cntN D (x : Int) n : Int) ≤ 1 := by
  have := (cnt_one (C := D) (x := (x : Int)) (q := n)).2 fun a b ha hb hne e1 e2 => by
    have := h.2 a b ha hb hne (e1.trans e2.symm)
    omega
  omega
theorem twice_cnt (h : IsTwice n m k D) (x : Nat) : (cntN D (x : Int) n : Int) ≤ itemsX k 2 x := by
  unfold itemsX
  by_cases e : x = k
  · rw [if_pos e, e]
    have := (cnt_two (C := D) (x := (k : Int)) (q := n)).2 h.2.2
    omega
  · rw [if_neg e]
    have := (cnt_one (C := D) (x := (x : Int)) (q := n)).2 fun a b ha hb hne e1 e2 => by
      rcases h.2.1 a b ha hb hne (e1.trans e2.symm) with e3 | e3 <;> omega
    omega
/-- What covers is above all totals. -/
theorem cover_best (hc : Cover n m Z p u) : bestV n m Z ≤ sumZ u n + sumZ p m := by
  obtain ⟨D, h1, h2⟩ := best_is n m Z
  have h3 := weak (c := fun _ => 1) hc h1.1 fun x _ => deal_cnt h1 x
  have h4 : sumZ (fun x => 1 * p x) m = sumZ p m := sumZ_congr m fun x _ => Int.one_mul _
  omega
theorem cover_twice (hc : Cover n m Z p u) (hk : k < m) : twiceV n m Z k ≤ sumZ u n + sumZ p m + p k := by
  obtain ⟨D, h1, h2⟩ := twice_is n Z hk
  have h3 := weak (c := itemsX k 2) hc h1.1 fun x _ => twice_cnt h1 x
  rw [items_sum, if_pos hk] at h3
  omega
theorem cover_less (hc : Cover n m Z p u) (hk : k < m) : lessV n m Z k ≤ sumZ u n + sumZ p m - p k := by
  obtain ⟨D, h1, h2, h5⟩ := less_is n Z hk
  have h3 := weak (c := itemsX k 0) hc h1.1 fun x hx => by
    unfold itemsX
    by_cases e : x = k
    · rw [if_pos e, e, cnt_none.2 h2]; exact Int.le_refl _
    · rw [if_neg e]; exact deal_cnt h1 x
  rw [items_sum, if_pos hk] at h3
  omega
/-- Fair prices cover, and tightly. -/
theorem fair_cover (hp : ∀ x, x < m → 0 ≤ p x) (hf : FairP n m Z p D) : Cover n m Z p (gainD Z p D) := by
  refine ⟨hp, fun i hi => ?_⟩
  unfold gainD
  by_cases e : D i = -1
  · rw [if_pos e]
    refine ⟨Int.le_refl _, fun x hx => ?_⟩
    have := hf.2.1 i hi e x hx
    omega
  · rw [if_neg e]
    exact hf.1 i hi e
theorem fair_tight (h : IsDeal n m D) (hf : FairP n m Z p D) : dealT Z D n = sumZ (gainD Z p D) n + sumZ p m := by
  rw [split_total Z p D n, price_sum h.1]
  congr 1
  refine sumZ_congr m fun x hx => ?_
  by_cases e : ∃ i, i < n ∧ D i = (x : Int)
  · have h1 := deal_cnt h x
    have h2 : ¬ cntN D (x : Int) n = 0 := fun q => by
      obtain ⟨i, hi, e⟩ := e
      exact cnt_none.1 q i hi e
    have h3 : (cntN D (x : Int) n : Int) = 1 := by omega
    rw [h3, Int.one_mul]
  · rw [hf.2.2 x hx fun i hi q => e ⟨i, hi, q⟩, Int.mul_zero]
/-- A deal with fair prices is best. -/
theorem fair_best (hp : ∀ x, x < m → 0 ≤ p x) (h : IsDeal n m D) (hf : FairP n m Z p D) : dealT Z D n = bestV n m Z := by
  have h1 := cover_best (fair_cover hp hf)
  have h2 := best_ge (Z := Z) h
  have h3 := fair_tight h hf
  omega
/-- No fair prices are less, none are greater. -/
theorem fair_low (hp : ∀ x, x < m → 0 ≤ p x) (h : IsDeal n m D) (hf : FairP n m Z p D) (hk : k < m) : twiceV n m Z k - bestV n m Z ≤ p k := by
  have h1 := cover_twice (fair_cover hp hf) hk
  have h2 := fair_best hp h hf
  have h3 := fair_tight h hf
  omega
theorem fair_high (hp : ∀ x, x < m → 0 ≤ p x) (h : IsDeal n m D) (hf : FairP n m Z p D) (hk : k < m) : p k ≤ highP n m Z k := by
  have h1 := cover_less (fair_cover hp hf) hk
  have h2 := fair_best hp h hf
  have h3 := fair_tight h hf
  unfold highP
  omega
end
end Go.Proofs.Ytaipodnhnekpjaa
