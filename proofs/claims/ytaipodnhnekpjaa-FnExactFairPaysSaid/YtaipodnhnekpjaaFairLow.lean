/- The least prices are fair with each best deal; what bidders pay; prices between; in plain mathematics. -/
import Derived.Test.YtaipodnhnekpjaaFairWeak
namespace Go.Proofs.Ytaipodnhnekpjaa
set_option linter.unusedVariables false
set_option linter.unusedSimpArgs false
open Go.RowKit

/-- The least fair price of an item. -/
def lowP (n m : Nat) (Z : Nat → Nat → Int) (x : Nat) : Int := twiceV n m Z x - bestV n m Z
section
variable {n m k : Nat} {D E : Nat → Int} {Z : Nat → Nat → Int} {p q : Nat → Int}
theorem sumZ_eq {f g : Nat → Int} : ∀ (q : Nat), (∀ i, i < q → f i ≤ g i) → sumZ f q = sumZ g q → ∀ i, i < q → f i = g i
  | 0, _, _, i, hi => absurd hi (Nat.not_lt_zero i)
  | q + 1, h, e, i, hi => by
    have h1 := sumZ_le q fun j hj => h j (by omega)
    have h2 := h q (by omega)
    have e' : sumZ f q + f q = sumZ g q + g q := e
    by_cases ei : i = q
    · subst ei; omega
    · exact sumZ_eq q (fun j hj => h j (by omega)) (by omega) i (by omega)
/-- Prices that are fair with some deal are so with each best one. -/
theorem fair_any (hp : ∀ x, x < m → 0 ≤ p x) (h : IsDeal n m D) (hf : FairP n m Z p D) (hE : IsDeal n m E) (hb : dealT Z E n = bestV n m Z) : FairP n m Z p E := by
  have hc := fair_cover hp hf
  have ht := fair_tight h hf
  have hD := fair_best hp h hf
  have h1 := sumZ_le n (gain_le hc hE.1)
  have h2 := sumZ_le m (f := fun x => (cntN E (x : Int) n : Int) * p x) (g := p) fun x hx => by
    have h3 := deal_cnt hE x
    have := Int.mul_le_mul_of_nonneg_right h3 (hp x hx)
    rwa [Int.one_mul] at this
  have h3 := split_total Z p E n
  rw [price_sum hE.1] at h3
  have e1 := sumZ_eq n (gain_le hc hE.1) (by omega)
  have e2 := sumZ_eq m (f := fun x => (cntN E (x : Int) n : Int) * p x) (g := p) (fun x hx => by
    have h3 := deal_cnt hE x
    have := Int.mul_le_mul_of_nonneg_right h3 (hp x hx)
    rwa [Int.one_mul] at this) (by omega)
  refine ⟨fun i hi hEi => ?_, fun i hi hEi y hy => ?_, fun x hx hno => ?_⟩
  · have g1 := e1 i hi
    have g2 := hc.2 i hi
    rw [← g1] at g2
    unfold gainD at g2
    rw [if_neg hEi] at g2
    exact g2
  · have g1 := e1 i hi
    have g2 := (hc.2 i hi).2 y hy
    rw [← g1] at g2
    unfold gainD at g2
    rw [if_pos hEi] at g2
    omega
  · have g1 := e2 x hx
    simp only [cnt_none.2 hno] at g1
    have : ((0 : Nat) : Int) * p x = 0 := by simp
    omega
/-- The market turned round: bidders for items. -/
theorem less_turn {i : Nat} (hi : i < n) : lessV m n (fun x j => Z j x) i = withoutV n m Z i := by
  apply Int.le_antisymm
  · obtain ⟨F, h1, h2, h3⟩ := less_is m (fun x j => Z j x) hi
    rw [← h3]
    have h4 := who_total (Z := fun x j => Z j x) h1
    rw [← h4]
    refine without_ge hi (who_deal h1) ?_
    have hr := who_range F m i
    by_cases e : whoGets m F i = -1
    · exact e
    · obtain ⟨x, hx⟩ := Int.eq_ofNat_of_zero_le (show 0 ≤ whoGets m F i by omega)
      have hxm : x < m := by omega
      exact absurd ((who_is h1 hxm).1 hx) (h2 x hxm)
  · obtain ⟨F, h1, h2, h3⟩ := without_is n m Z hi
    rw [← h3, ← who_total h1]
    refine less_ge' hi (who_deal h1) fun x hx e => ?_
    have := (who_is h1 hi).1 e
    omega
/-- What a bidder gains at most: as much less as all get without this one. -/
def gainB (n m : Nat) (Z : Nat → Nat → Int) (i : Nat) : Int := bestV n m Z - withoutV n m Z i
theorem high_turn {i : Nat} (hi : i < n) : highP m n (fun x j => Z j x) i = gainB n m Z i := by
  unfold highP gainB
  rw [best_swap, less_turn hi]
theorem turn_fair (h : IsDeal n m D) (hb : dealT Z D n = bestV n m Z) : FairP m n (fun x j => Z j x) (gainB n m Z) (whoGets n D) := by
  have hf := high_fair (Z := fun x j => Z j x) (who_deal h) (by rw [who_total h, hb, best_swap])
  have hr := fun x => who_range D n x
  refine ⟨fun x hx e => ?_, fun x hx e i hi => ?_, fun i hi e => ?_⟩
  · have g := hf.1 x hx e
    have := hr x
    rw [high_turn (show (whoGets n D x).toNat < n by omega)] at g
    exact ⟨g.1, fun i hi => by have := g.2 i hi; rwa [high_turn hi] at this⟩
  · have g := hf.2.1 x hx e i hi
    rwa [high_turn hi] at g
  · have g := hf.2.2 i hi e
    rwa [high_turn hi] at g
/-- What the bidder who gets an item pays. -/
noncomputable def payP (n m : Nat) (Z : Nat → Nat → Int) (D : Nat → Int) (x : Nat) : Int := if whoGets n D x = -1 then 0 else Z (whoGets n D x).toNat x - gainB n m Z (whoGets n D x).toNat
theorem pay_cover (h : IsDeal n m D) (hb : dealT Z D n = bestV n m Z) {i y : Nat} (hi : i < n) (hy : y < m) : 0 ≤ payP n m Z D y ∧ Z i y - payP n m Z D y ≤ gainB n m Z i := by
  have hf := turn_fair h hb
  unfold payP
  by_cases e : whoGets n D y = -1
  · rw [if_pos e]
    have : Z i y ≤ gainB n m Z i := hf.2.1 y hy e i hi
    exact ⟨Int.le_refl _, by omega⟩
  · rw [if_neg e]
    have g := hf.1 y hy e
    have : Z i y - gainB n m Z i ≤ Z (whoGets n D y).toNat y - gainB n m Z (whoGets n D y).toNat := g.2 i hi
    exact ⟨g.1, by omega⟩
theorem pay_none (D : Nat → Int) (hno : ∀ i, i < n → D i ≠ (k : Int)) : payP n m Z D k = 0 := by
  unfold payP
  rw [if_pos]
  unfold whoGets
  rw [dif_neg]
  rintro ⟨i, hi, e⟩
  exact hno i hi e
theorem pay_who (h : IsDeal n m D) {i x : Nat} (hi : i < n) (e : D i = (x : Int)) : payP n m Z D x = Z i x - gainB n m Z i := by
  have hw := (who_is h hi).2 e
  unfold payP
  rw [hw, if_neg (by omega), Int.toNat_natCast]
theorem pay_fair (h : IsDeal n m D) (hb : dealT Z D n = bestV n m Z) : FairP n m Z (payP n m Z D) D := by
  refine ⟨fun i hi hD => ?_, fun i hi e y hy => ?_, fun x hx hno => pay_none D hno⟩
  · have hr := h.1 i hi
    obtain ⟨x, hx⟩ := Int.eq_ofNat_of_zero_le (show 0 ≤ D i by omega)
    rw [hx, Int.toNat_natCast, pay_who h hi hx]
    have hg := without_le (m := m) (Z := Z) hi
    have hge : 0 ≤ gainB n m Z i := by unfold gainB; omega
    exact ⟨by omega, fun y hy => by have := (pay_cover h hb hi hy).2; omega⟩
  · have hf := (turn_fair h hb).2.2 i hi fun x hx e2 => by
      have := (who_is h hi).1 e2
      omega
    have := (pay_cover h hb hi hy).2
    omega
/-- It is the least fair price. -/
theorem pay_low (h : IsDeal n m D) (hb : dealT Z D n = bestV n m Z) (hn : 0 < n) (hk : k < m) : payP n m Z D k = lowP n m Z k := by
  have h1 := fair_low (fun x hx => (pay_cover h hb hn hx).1) h (pay_fair h hb) hk
  unfold lowP
  apply Int.le_antisymm _ h1
  by_cases e : ∃ i, i < n ∧ D i = (k : Int)
  · obtain ⟨i, hi, e⟩ := e
    rw [pay_who h hi e]
    obtain ⟨F, h2, h3, h4⟩ := without_is n m Z hi
    have h5 := twice_ge (Z := Z) hk (set_twice h2 hk (b := i))
    rw [set_total Z F hi, if_neg (fun q => q h3), h4] at h5
    unfold gainB
    omega
  · rw [pay_none D fun i hi q => e ⟨i, hi, q⟩]
    have := twice_least (n := n) (Z := Z) hk
    omega
theorem fair_congr (e : ∀ x, x < m → p x = q x) (h : IsDeal n m D) (hf : FairP n m Z p D) : FairP n m Z q D := by
  refine ⟨fun i hi hD => ?_, fun i hi hD y hy => by rw [← e y hy]; exact hf.2.1 i hi hD y hy, fun x hx hno => by rw [← e x hx]; exact hf.2.2 x hx hno⟩
  have hr := h.1 i hi
  have g := hf.1 i hi hD
  rw [← e (D i).toNat (by omega)]
  exact ⟨g.1, fun y hy => by rw [← e y hy]; exact g.2 y hy⟩
/-- The least prices are fair with each best deal. -/
theorem low_fair (h : IsDeal n m D) (hb : dealT Z D n = bestV n m Z) (hn : 0 < n) : FairP n m Z (lowP n m Z) D :=
  fair_congr (fun x hx => pay_low h hb hn hx) h (pay_fair h hb)
theorem low_ge (hk : k < m) : 0 ≤ lowP n m Z k := by
  have := twice_least (n := n) (Z := Z) hk
  unfold lowP
  omega
/-- Fair prices, and others less a number where these are more: fair again. -/
theorem fair_between (h : IsDeal n m D) (hp : FairP n m Z p D) (hq : FairP n m Z q D) {c : Int} (hc : 0 ≤ c) : FairP n m Z (fun x => max (p x) (q x - c)) D := by
  refine ⟨fun i hi hD => ?_, fun i hi hD y hy => ?_, fun x hx hno => ?_⟩
  · have g1 := hp.1 i hi hD
    have g2 := hq.1 i hi hD
    refine ⟨?_, fun y hy => ?_⟩
    · show 0 ≤ Z i (D i).toNat - max (p (D i).toNat) (q (D i).toNat - c)
      omega
    · have a1 := g1.2 y hy
      have a2 := g2.2 y hy
      show Z i y - max (p y) (q y - c) ≤ Z i (D i).toNat - max (p (D i).toNat) (q (D i).toNat - c)
      omega
  · have := hp.2.1 i hi hD y hy
    show Z i y ≤ max (p y) (q y - c)
    omega
  · have h1 := hp.2.2 x hx hno
    have h2 := hq.2.2 x hx hno
    show max (p x) (q x - c) = 0
    omega
end
end Go.Proofs.Ytaipodnhnekpjaa
