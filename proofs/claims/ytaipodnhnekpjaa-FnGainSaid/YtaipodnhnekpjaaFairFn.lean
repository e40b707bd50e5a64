/- Fair prices of items, in plain mathematics. -/
import Derived.Test.YtaipodnhnekpjaaDealsWay
/- Fair prices of items, in plain mathematics: the greatest ones are fair with each best deal. -/
namespace Go.Proofs.Ytaipodnhnekpjaa
set_option linter.unusedVariables false
set_option linter.unusedSimpArgs false
open Go.RowKit

/-- Prices are fair with a deal. -/
def FairP (n m : Nat) (Z : Nat → Nat → Int) (p : Nat → Int) (D : Nat → Int) : Prop :=
  (∀ i, i < n → D i ≠ -1 → 0 ≤ Z i (D i).toNat - p (D i).toNat ∧ ∀ y, y < m → Z i y - p y ≤ Z i (D i).toNat - p (D i).toNat) ∧
  (∀ i, i < n → D i = -1 → ∀ y, y < m → Z i y ≤ p y) ∧ ∀ x, x < m → (∀ i, i < n → D i ≠ (x : Int)) → p x = 0
section
variable {n m : Nat} {D L : Nat → Int} {Z : Nat → Nat → Int} {p : Nat → Int}
/-- The bidder b gets y instead. -/
def setD (D : Nat → Int) (b : Nat) (y : Int) (i : Nat) : Int := if i = b then y else D i
theorem set_twice (h : IsDeal n m D) {b y : Nat} (hy : y < m) : IsTwice n m y (setD D b y) := by
  refine ⟨fun i hi => ?_, fun i j hi hj hne e => ?_, fun a c d ha hc hd n1 n2 n3 e1 e2 e3 => ?_⟩
  · unfold setD
    by_cases e : i = b
    · rw [if_pos e]; omega
    · rw [if_neg e]; exact h.1 i hi
  · unfold setD at e ⊢
    by_cases e1 : i = b
    · rw [if_pos e1]; exact .inr rfl
    · by_cases e2 : j = b
      · rw [if_pos e2] at e; exact .inr e
      · rw [if_neg e1, if_neg e2] at e
        rw [if_neg e1]
        exact .inl (h.2 i j hi hj hne e)
  · have key : ∀ i j, i < n → j < n → i ≠ j → i ≠ b → j ≠ b → setD D b y i = (y : Int) → setD D b y j = (y : Int) → False := fun i j hi hj hne h1 h2 f1 f2 => by
      unfold setD at f1 f2
      rw [if_neg h1] at f1
      rw [if_neg h2] at f2
      have := h.2 i j hi hj hne (f1.trans f2.symm)
      omega
    by_cases q1 : a = b
    · exact key c d hc hd n3 (by omega) (by omega) e2 e3
    · by_cases q2 : c = b
      · exact key a d ha hd n2 q1 (by omega) e1 e3
      · exact key a c ha hc n1 q1 q2 e1 e2
theorem set_total (Z : Nat → Nat → Int) (D : Nat → Int) {b y : Nat} (hb : b < n) : dealT Z (setD D b y) n = dealT Z D n - (if D b ≠ -1 then Z b (D b).toNat else 0) + Z b y := by
  have h1 := drop_total (Z := Z) D (b := b) n
  have h2 := drop_total (Z := Z) (setD D b y) (b := b) n
  have e : (fun i => if i = b then (-1 : Int) else setD D b y i) = fun i => if i = b then -1 else D i := by
    funext i
    unfold setD
    by_cases e : i = b
    · rw [if_pos e, if_pos e]
    · rw [if_neg e, if_neg e, if_neg e]
  rw [e] at h2
  have hs : setD D b y b = (y : Int) := if_pos rfl
  rw [hs, if_pos ⟨hb, by omega⟩, Int.toNat_natCast] at h2
  by_cases q : D b = -1
  · rw [if_neg (fun h => h.2 q)] at h1
    rw [if_neg (fun h => h q)]
    omega
  · rw [if_pos ⟨hb, q⟩] at h1
    rw [if_pos q]
    omega
/-- The greatest fair price of an item. -/
def highP (n m : Nat) (Z : Nat → Nat → Int) (x : Nat) : Int := bestV n m Z - lessV n m Z x
theorem high_near (h : IsDeal n m D) (hb : dealT Z D n = bestV n m Z) {i y : Nat} (hi : i < n) (hy : y < m) : D i = -1 → Z i y ≤ highP n m Z y := by
  intro e
  obtain ⟨L, h3, h4, h5⟩ := less_is n Z hy
  obtain ⟨A, B, hA, hB, e1⟩ := two_deals (set_twice h hy (b := i)) h3 h4 Z
  rw [set_total Z D hi, if_neg (fun q => q e), hb, h5] at e1
  have a1 := best_ge (Z := Z) hA
  have a2 := best_ge (Z := Z) hB
  unfold highP
  omega
theorem high_move (h : IsDeal n m D) (hb : dealT Z D n = bestV n m Z) {i y : Nat} (hi : i < n) (hy : y < m) (hD : D i ≠ -1) : Z i y - highP n m Z y ≤ Z i (D i).toNat - highP n m Z (D i).toNat := by
  have hr := h.1 i hi
  obtain ⟨x, hx⟩ := Int.eq_ofNat_of_zero_le (show 0 ≤ D i by omega)
  have hxm : x < m := by omega
  rw [hx, Int.toNat_natCast]
  by_cases exy : x = y
  · rw [exy]; exact Int.le_refl _
  obtain ⟨L, h3, h4, h5⟩ := less_is n Z hy
  obtain ⟨A, B, hA, hB, hAB⟩ := two_deals' (set_twice h hy (b := i)) h3 h4
  have e1 := dealT_pair (Z := Z) n hAB
  rw [set_total Z D hi, if_pos hD, hb, h5, hx, Int.toNat_natCast] at e1
  have hno : ∀ a, a < n → setD D i y a ≠ (x : Int) := fun a ha e => by
    unfold setD at e
    by_cases q : a = i
    · rw [if_pos q] at e; omega
    · rw [if_neg q] at e
      have := h.2 a i ha hi q (e.trans hx.symm)
      omega
  have hlack : (∀ a, a < n → A a ≠ (x : Int)) ∨ ∀ b, b < n → B b ≠ (x : Int) := by
    by_cases hA1 : ∃ a, a < n ∧ A a = (x : Int)
    · right
      obtain ⟨a, ha, ea⟩ := hA1
      intro b hb2 eb
      have f1 : L a = (x : Int) ∧ B a = setD D i y a := by
        rcases hAB a ha with ⟨q1, _⟩ | ⟨q1, q2⟩
        · exact absurd (q1.symm.trans ea) (hno a ha)
        · exact ⟨q1.symm.trans ea, q2⟩
      have f2 : L b = (x : Int) := by
        rcases hAB b hb2 with ⟨_, q2⟩ | ⟨_, q2⟩
        · exact q2.symm.trans eb
        · exact absurd (q2.symm.trans eb) (hno b hb2)
      by_cases q : a = b
      · subst q
        exact hno a ha (f1.2.symm.trans eb)
      · have := h3.2 a b ha hb2 q (f1.1.trans f2.symm)
        omega
    · left
      exact fun a ha e => hA1 ⟨a, ha, e⟩
  unfold highP
  rcases hlack with q | q
  · have a1 := less_ge' (Z := Z) hxm hA q
    have a2 := best_ge (Z := Z) hB
    omega
  · have a1 := less_ge' (Z := Z) hxm hB q
    have a2 := best_ge (Z := Z) hA
    omega
/-- The greatest prices are fair with each best deal. -/
theorem high_fair (h : IsDeal n m D) (hb : dealT Z D n = bestV n m Z) : FairP n m Z (highP n m Z) D := by
  refine ⟨fun i hi hD => ⟨?_, fun y hy => high_move h hb hi hy hD⟩, fun i hi e y hy => high_near h hb hi hy e, fun x hx hno => ?_⟩
  · have hr := h.1 i hi
    obtain ⟨x, hx⟩ := Int.eq_ofNat_of_zero_le (show 0 ≤ D i by omega)
    have hxm : x < m := by omega
    rw [hx, Int.toNat_natCast]
    have h3 := less_ge' (Z := Z) hxm (drop_deal h i) fun j hj => by
      by_cases ej : j = i
      · rw [if_pos ej]; omega
      · rw [if_neg ej]
        intro e2
        have := h.2 j i hj hi ej (e2.trans hx.symm)
        omega
    rw [drop_total, hb, if_pos ⟨hi, hD⟩, hx, Int.toNat_natCast] at h3
    unfold highP
    omega
  · have h3 := less_ge' (Z := Z) hx h hno
    have h4 := less_le (n := n) (Z := Z) hx
    unfold highP
    omega
end
end Go.Proofs.Ytaipodnhnekpjaa

/- Prices and gains that cover all bids bound all totals; fair prices do so tightly; in plain mathematics. -/
namespace Go.Proofs.Ytaipodnhnekpjaa
set_option linter.unusedVariables false
set_option linter.unusedSimpArgs false
open Go.RowKit

/-- Prices and gains cover what each item is worth to each bidder. -/
def Cover (n m : Nat) (Z : Nat → Nat → Int) (p u : Nat → Int) : Prop := (∀ x, x < m → 0 ≤ p x) ∧ ∀ i, i < n → 0 ≤ u i ∧ ∀ x, x < m → Z i x - p x ≤ u i
/-- What a bidder gains in a deal. -/
def gainD (Z : Nat → Nat → Int) (p D : Nat → Int) (i : Nat) : Int := if D i = -1 then 0 else Z i (D i).toNat - p (D i).toNat
section
variable {n m k : Nat} {D T : Nat → Int} {Z : Nat → Nat → Int} {p u c : Nat → Int}
theorem total_cells (h : ∀ i, i < n → -1 ≤ D i ∧ D i < m) : dealT Z D n = sumZ (fun i => sumZ (fun x => if D i = (x : Int) then Z i x else 0) m) n := by
  rw [dealT_sum]
  refine sumZ_congr n fun i hi => ?_
  have hr := h i hi
  by_cases e : D i = -1
  · rw [if_pos e, sumZ_zero m fun x _ => if_neg (by omega)]
  · obtain ⟨y, hy⟩ := Int.eq_ofNat_of_zero_le (show 0 ≤ D i by omega)
    rw [if_neg e, sumZ_one (x := y) m (by omega) fun x _ hne => if_neg (by omega), if_pos hy, hy, Int.toNat_natCast]
theorem sum_cnt (a : Int) (D : Nat → Int) (x : Int) : ∀ (q : Nat), sumZ (fun i => if D i = x then a else 0) q = (cntN D x q : Int) * a
  | 0 => by show (0 : Int) = ((0 : Nat) : Int) * a; simp
  | q + 1 => by
    show sumZ (fun i => if D i = x then a else 0) q + (if D q = x then a else 0) = ((cntN D x q + if D q = x then 1 else 0 : Nat) : Int) * a
    rw [sum_cnt a D x q]
    by_cases e : D q = x
    · rw [if_pos e, if_pos e, Int.natCast_add, Int.add_mul]; simp
    · rw [if_neg e, if_neg e]; simp
theorem price_sum (h : ∀ i, i < n → -1 ≤ D i ∧ D i < m) : dealT (fun _ x => p x) D n = sumZ (fun x => (cntN D (x : Int) n : Int) * p x) m := by
  rw [total_cells h, sumZ_swap]
  exact sumZ_congr m fun x _ => sum_cnt (p x) D x n
theorem split_total (Z : Nat → Nat → Int) (p D : Nat → Int) : ∀ (q : Nat), dealT Z D q = sumZ (gainD Z p D) q + dealT (fun _ x => p x) D q
  | 0 => rfl
  | q + 1 => by
    show dealT Z D q + (if D q = -1 then 0 else Z q (D q).toNat) = sumZ (gainD Z p D) q + gainD Z p D q + (dealT (fun _ x => p x) D q + if D q = -1 then 0 else p (D q).toNat)
    rw [split_total Z p D q]
    unfold gainD
    by_cases e : D q = -1
    · rw [if_pos e, if_pos e, if_pos e]; omega
    · rw [if_neg e, if_neg e, if_neg e]; omega
theorem gain_le (hc : Cover n m Z p u) (hT : ∀ i, i < n → -1 ≤ T i ∧ T i < m) : ∀ i, i < n → gainD Z p T i ≤ u i := by
  intro i hi
  have hr := hT i hi
  unfold gainD
  by_cases e : T i = -1
  · rw [if_pos e]; exact (hc.2 i hi).1
  · rw [if_neg e]; exact (hc.2 i hi).2 _ (by omega)
/-- With c of each item no total is above this. -/
theorem weak (hc : Cover n m Z p u) (hT : ∀ i, i < n → -1 ≤ T i ∧ T i < m) (hn : ∀ x : Nat, x < m → (cntN T (x : Int) n : Int) ≤ c x) : dealT Z T n ≤ sumZ u n + sumZ (fun x => c x * p x) m := by
  rw [split_total Z p T n, price_sum hT]
  have h1 := sumZ_le n (gain_le hc hT)
  have h2 := sumZ_le m (f := fun x => (cntN T (x : Int) n : Int) * p x) (g := fun x => c x * p x) fun x hx => Int.mul_le_mul_of_nonneg_right (hn x hx) (hc.1 x hx)
  omega
theorem items_sum (p : Nat → Int) (k : Nat) (a : Int) : ∀ (q : Nat), sumZ (fun x => itemsX k a x * p x) q = sumZ p q + if k < q then (a - 1) * p k else 0
  | 0 => by simp [sumZ]
  | q + 1 => by
    show sumZ (fun x => itemsX k a x * p x) q + itemsX k a q * p q = sumZ p q + p q + _
    rw [items_sum p k a q]
    unfold itemsX
    by_cases e : q = k
    · subst e
      rw [if_pos rfl, if_neg (Nat.lt_irrefl q), if_pos (by omega), Int.sub_mul]
      omega
    · rw [if_neg e]
      by_cases e2 : k < q
      · rw [if_pos e2, if_pos (by omega)]; omega
      · rw [if_neg e2, if_neg (by omega)]; omega
theorem deal_cnt (h : IsDeal n m D) (x : Nat) : (cntN D (x : Int) n : Int) ≤ 1 := by
  have := (cnt_one (C := D) (x := (x : Int)) (q := n)).2 fun a b ha hb hne e1 e2 => by
    have := h.2 a b ha hb hne (e1.trans e2.symm)
    omega
  omega
theorem twice_cnt (h : IsTwice n m k D) (x : Nat) : (cntN D (x : Int) n : Int) ≤ itemsX k 2 x := by
  unfold itemsX
  by_cases e : x = k
  · rw [if_pos e, e]
    have := (cnt_two (C := D) (x := (k : Int)) (q := n)).2 h.2.2
    omega
  · rw [if_neg e]
    have := (cnt_one (C := D) (x := (x : Int)) (q := n)).2 fun a b ha hb hne e1 e2 => by
      rcases h.2.1 a b ha hb hne (e1.trans e2.symm) with e3 | e3 <;> omega
    omega
/-- What covers is above all totals. -/
theorem cover_best (hc : Cover n m Z p u) : bestV n m Z ≤ sumZ u n + sumZ p m := by
  obtain ⟨D, h1, h2⟩ := best_is n m Z
  have h3 := weak (c := fun _ => 1) hc h1.1 fun x _ => deal_cnt h1 x
  have h4 : sumZ (fun x => 1 * p x) m = sumZ p m := sumZ_congr m fun x _ => Int.one_mul _
  omega
theorem cover_twice (hc : Cover n m Z p u) (hk : k < m) : twiceV n m Z k ≤ sumZ u n + sumZ p m + p k := by
  obtain ⟨D, h1, h2⟩ := twice_is n Z hk
  have h3 := weak (c := itemsX k 2) hc h1.1 fun x _ => twice_cnt h1 x
  rw [items_sum, if_pos hk] at h3
  omega
theorem cover_less (hc : Cover n m Z p u) (hk : k < m) : lessV n m Z k ≤ sumZ u n + sumZ p m - p k := by
  obtain ⟨D, h1, h2, h5⟩ := less_is n Z hk
  have h3 := weak (c := itemsX k 0) hc h1.1 fun x hx => by
    unfold itemsX
    by_cases e : x = k
    · rw [if_pos e, e, cnt_none.2 h2]; exact Int.le_refl _
    · rw [if_neg e]; exact deal_cnt h1 x
  rw [items_sum, if_pos hk] at h3
  omega
/-- Fair prices cover, and tightly. -/
theorem fair_cover (hp : ∀ x, x < m → 0 ≤ p x) (hf : FairP n m Z p D) : Cover n m Z p (gainD Z p D) := by
  refine ⟨hp, fun i hi => ?_⟩
  unfold gainD
  by_cases e : D i = -1
  · rw [if_pos e]
    refine ⟨Int.le_refl _, fun x hx => ?_⟩
    have := hf.2.1 i hi e x hx
    omega
  · rw [if_neg e]
    exact hf.1 i hi e
theorem fair_tight (h : IsDeal n m D) (hf : FairP n m Z p D) : dealT Z D n = sumZ (gainD Z p D) n + sumZ p m := by
  rw [split_total Z p D n, price_sum h.1]
  congr 1
  refine sumZ_congr m fun x hx => ?_
  by_cases e : ∃ i, i < n ∧ D i = (x : Int)
  · have h1 := deal_cnt h x
    have h2 : ¬ cntN D (x : Int) n = 0 := fun q => by
      obtain ⟨i, hi, e⟩ := e
      exact cnt_none.1 q i hi e
    have h3 : (cntN D (x : Int) n : Int) = 1 := by omega
    rw [h3, Int.one_mul]
  · rw [hf.2.2 x hx fun i hi q => e ⟨i, hi, q⟩, Int.mul_zero]
/-- A deal with fair prices is best. -/
theorem fair_best (hp : ∀ x, x < m → 0 ≤ p x) (h : IsDeal n m D) (hf : FairP n m Z p D) : dealT Z D n = bestV n m Z := by
  have h1 := cover_best (fair_cover hp hf)
  have h2 := best_ge (Z := Z) h
  have h3 := fair_tight h hf
  omega
/-- No fair prices are less, none are greater. -/
theorem fair_low (hp : ∀ x, x < m → 0 ≤ p x) (h : IsDeal n m D) (hf : FairP n m Z p D) (hk : k < m) : twiceV n m Z k - bestV n m Z ≤ p k := by
  have h1 := cover_twice (fair_cover hp hf) hk
  have h2 := fair_best hp h hf
  have h3 := fair_tight h hf
  omega
theorem fair_high (hp : ∀ x, x < m → 0 ≤ p x) (h : IsDeal n m D) (hf : FairP n m Z p D) (hk : k < m) : p k ≤ highP n m Z k := by
  have h1 := cover_less (fair_cover hp hf) hk
  have h2 := fair_best hp h hf
  have h3 := fair_tight h hf
  unfold highP
  omega
end
end Go.Proofs.Ytaipodnhnekpjaa

/- The least prices are fair with each best deal; what bidders pay; prices between; in plain mathematics. -/
namespace Go.Proofs.Ytaipodnhnekpjaa
set_option linter.unusedVariables false
set_option linter.unusedSimpArgs false
open Go.RowKit

/-- The least fair price of an item. -/
def lowP (n m : Nat) (Z : Nat → Nat → Int) (x : Nat) : Int := twiceV n m Z x - bestV n m Z
section
variable {n m k : Nat} {D E : Nat → Int} {Z : Nat → Nat → Int} {p q : Nat → Int}
theorem sumZ_eq {f g : Nat → Int} : ∀ (q : Nat), (∀ i, i < q → f i ≤ g i) → sumZ f q = sumZ g q → ∀ i, i < q → f i = g i
  | 0, _, _, i, hi => absurd hi (Nat.not_lt_zero i)
  | q + 1, h, e, i, hi => by
    have h1 := sumZ_le q fun j hj => h j (by omega)
    have h2 := h q (by omega)
    have e' : sumZ f q + f q = sumZ g q + g q := e
    by_cases ei : i = q
    · subst ei; omega
    · exact sumZ_eq q (fun j hj => h j (by omega)) (by omega) i (by omega)
/-- Prices that are fair with some deal are so with each best one. -/
theorem fair_any (hp : ∀ x, x < m → 0 ≤ p x) (h : IsDeal n m D) (hf : FairP n m Z p D) (hE : IsDeal n m E) (hb : dealT Z E n = bestV n m Z) : FairP n m Z p E := by
  have hc := fair_cover hp hf
  have ht := fair_tight h hf
  have hD := fair_best hp h hf
  have h1 := sumZ_le n (gain_le hc hE.1)
  have h2 := sumZ_le m (f := fun x => (cntN E (x : Int) n : Int) * p x) (g := p) fun x hx => by
    have h3 := deal_cnt hE x
    have := Int.mul_le_mul_of_nonneg_right h3 (hp x hx)
    rwa [Int.one_mul] at this
  have h3 := split_total Z p E n
  rw [price_sum hE.1] at h3
  have e1 := sumZ_eq n (gain_le hc hE.1) (by omega)
  have e2 := sumZ_eq m (f := fun x => (cntN E (x : Int) n : Int) * p x) (g := p) (fun x hx => by
    have h3 := deal_cnt hE x
    have := Int.mul_le_mul_of_nonneg_right h3 (hp x hx)
    rwa [Int.one_mul] at this) (by omega)
  refine ⟨fun i hi hEi => ?_, fun i hi hEi y hy => ?_, fun x hx hno => ?_⟩
  · have g1 := e1 i hi
    have g2 := hc.2 i hi
    rw [← g1] at g2
    unfold gainD at g2
    rw [if_neg hEi] at g2
    exact g2
  · have g1 := e1 i hi
    have g2 := (hc.2 i hi).2 y hy
    rw [← g1] at g2
    unfold gainD at g2
    rw [if_pos hEi] at g2
    omega
  · have g1 := e2 x hx
    simp only [cnt_none.2 hno] at g1
    have : ((0 : Nat) : Int) * p x = 0 := by simp
    omega
/-- The market turned round: bidders for items. -/
theorem less_turn {i : Nat} (hi : i < n) : lessV m n (fun x j => Z j x) i = withoutV n m Z i := by
  apply Int.le_antisymm
  · obtain ⟨F, h1, h2, h3⟩ := less_is m (fun x j => Z j x) hi
    rw [← h3]
    have h4 := who_total (Z := fun x j => Z j x) h1
    rw [← h4]
    refine without_ge hi (who_deal h1) ?_
    have hr := who_range F m i
    by_cases e : whoGets m F i = -1
    · exact e
    · obtain ⟨x, hx⟩ := Int.eq_ofNat_of_zero_le (show 0 ≤ whoGets m F i by omega)
      have hxm : x < m := by omega
      exact absurd ((who_is h1 hxm).1 hx) (h2 x hxm)
  · obtain ⟨F, h1, h2, h3⟩ := without_is n m Z hi
    rw [← h3, ← who_total h1]
    refine less_ge' hi (who_deal h1) fun x hx e => ?_
    have := (who_is h1 hi).1 e
    omega
/-- What a bidder gains at most: as much less as all get without this one. -/
def gainB (n m : Nat) (Z : Nat → Nat → Int) (i : Nat) : Int := bestV n m Z - withoutV n m Z i
theorem high_turn {i : Nat} (hi : i < n) : highP m n (fun x j => Z j x) i = gainB n m Z i := by
  unfold highP gainB
  rw [best_swap, less_turn hi]
theorem turn_fair (h : IsDeal n m D) (hb : dealT Z D n = bestV n m Z) : FairP m n (fun x j => Z j x) (gainB n m Z) (whoGets n D) := by
  have hf := high_fair (Z := fun x j => Z j x) (who_deal h) (by rw [who_total h, hb, best_swap])
  have hr := fun x => who_range D n x
  refine ⟨fun x hx e => ?_, fun x hx e i hi => ?_, fun i hi e => ?_⟩
  · have g := hf.1 x hx e
    have := hr x
    rw [high_turn (show (whoGets n D x).toNat < n by omega)] at g
    exact ⟨g.1, fun i hi => by have := g.2 i hi; rwa [high_turn hi] at this⟩
  · have g := hf.2.1 x hx e i hi
    rwa [high_turn hi] at g
  · have g := hf.2.2 i hi e
    rwa [high_turn hi] at g
/-- What the bidder who gets an item pays. -/
noncomputable def payP (n m : Nat) (Z : Nat → Nat → Int) (D : Nat → Int) (x : Nat) : Int := if whoGets n D x = -1 then 0 else Z (whoGets n D x).toNat x - gainB n m Z (whoGets n D x).toNat
theorem pay_cover (h : IsDeal n m D) (hb : dealT Z D n = bestV n m Z) {i y : Nat} (hi : i < n) (hy : y < m) : 0 ≤ payP n m Z D y ∧ Z i y - payP n m Z D y ≤ gainB n m Z i := by
  have hf := turn_fair h hb
  unfold payP
  by_cases e : whoGets n D y = -1
  · rw [if_pos e]
    have : Z i y ≤ gainB n m Z i := hf.2.1 y hy e i hi
    exact ⟨Int.le_refl _, by omega⟩
  · rw [if_neg e]
    have g := hf.1 y hy e
    have : Z i y - gainB n m Z i ≤ Z (whoGets n D y).toNat y - gainB n m Z (whoGets n D y).toNat := g.2 i hi
    exact ⟨g.1, by omega⟩
theorem pay_none (D : Nat → Int) (hno : ∀ i, i < n → D i ≠ (k : Int)) : payP n m Z D k = 0 := by
  unfold payP
  rw [if_pos]
  unfold whoGets
  rw [dif_neg]
  rintro ⟨i, hi, e⟩
  exact hno i hi e
theorem pay_who (h : IsDeal n m D) {i x : Nat} (hi : i < n) (e : D i = (x : Int)) : payP n m Z D x = Z i x - gainB n m Z i := by
  have hw := (who_is h hi).2 e
  unfold payP
  rw [hw, if_neg (by omega), Int.toNat_natCast]
theorem pay_fair (h : IsDeal n m D) (hb : dealT Z D n = bestV n m Z) : FairP n m Z (payP n m Z D) D := by
  refine ⟨fun i hi hD => ?_, fun i hi e y hy => ?_, fun x hx hno => pay_none D hno⟩
  · have hr := h.1 i hi
    obtain ⟨x, hx⟩ := Int.eq_ofNat_of_zero_le (show 0 ≤ D i by omega)
    rw [hx, Int.toNat_natCast, pay_who h hi hx]
    have hg := without_le (m := m) (Z := Z) hi
    have hge : 0 ≤ gainB n m Z i := by unfold gainB; omega
    exact ⟨by omega, fun y hy => by have := (pay_cover h hb hi hy).2; omega⟩
  · have hf := (turn_fair h hb).2.2 i hi fun x hx e2 => by
      have := (who_is h hi).1 e2
      omega
    have := (pay_cover h hb hi hy).2
    omega
/-- It is the least fair price. -/
theorem pay_low (h : IsDeal n m D) (hb : dealT Z D n = bestV n m Z) (hn : 0 < n) (hk : k < m) : payP n m Z D k = lowP n m Z k := by
  have h1 := fair_low (fun x hx => (pay_cover h hb hn hx).1) h (pay_fair h hb) hk
  unfold lowP
  apply Int.le_antisymm _ h1
  by_cases e : ∃ i, i < n ∧ D i = (k : Int)
  · obtain ⟨i, hi, e⟩ := e
    rw [pay_who h hi e]
    obtain ⟨F, h2, h3, h4⟩ := without_is n m Z hi
    have h5 := twice_ge (Z := Z) hk (set_twice h2 hk (b := i))
    rw [set_total Z F hi, if_neg (fun q => q h3), h4] at h5
    unfold gainB
    omega
  · rw [pay_none D fun i hi q => e ⟨i, hi, q⟩]
    have := twice_least (n := n) (Z := Z) hk
    omega
theorem fair_congr (e : ∀ x, x < m → p x = q x) (h : IsDeal n m D) (hf : FairP n m Z p D) : FairP n m Z q D := by
  refine ⟨fun i hi hD => ?_, fun i hi hD y hy => by rw [← e y hy]; exact hf.2.1 i hi hD y hy, fun x hx hno => by rw [← e x hx]; exact hf.2.2 x hx hno⟩
  have hr := h.1 i hi
  have g := hf.1 i hi hD
  rw [← e (D i).toNat (by omega)]
  exact ⟨g.1, fun y hy => by rw [← e y hy]; exact g.2 y hy⟩
/-- The least prices are fair with each best deal. -/
theorem low_fair (h : IsDeal n m D) (hb : dealT Z D n = bestV n m Z) (hn : 0 < n) : FairP n m Z (lowP n m Z) D :=
  fair_congr (fun x hx => pay_low h hb hn hx) h (pay_fair h hb)
theorem low_ge (hk : k < m) : 0 ≤ lowP n m Z k := by
  have := twice_least (n := n) (Z := Z) hk
  unfold lowP
  omega
/-- Fair prices, and others less a number where these are more: fair again. -/
theorem fair_between (h : IsDeal n m D) (hp : FairP n m Z p D) (hq : FairP n m Z q D) {c : Int} (hc : 0 ≤ c) : FairP n m Z (fun x => max (p x) (q x - c)) D := by
  refine ⟨fun i hi hD => ?_, fun i hi hD y hy => ?_, fun x hx hno => ?_⟩
  · have g1 := hp.1 i hi hD
    have g2 := hq.1 i hi hD
    refine ⟨?_, fun y hy => ?_⟩
    · show 0 ≤ Z i (D i).toNat - max (p (D i).toNat) (q (D i).toNat - c)
      omega
    · have a1 := g1.2 y hy
      have a2 := g2.2 y hy
      show Z i y - max (p y) (q y - c) ≤ Z i (D i).toNat - max (p (D i).toNat) (q (D i).toNat - c)
      omega
  · have := hp.2.1 i hi hD y hy
    show Z i y ≤ max (p y) (q y - c)
    omega
  · have h1 := hp.2.2 x hx hno
    have h2 := hq.2.2 x hx hno
    show max (p x) (q x - c) = 0
    omega
end
end Go.Proofs.Ytaipodnhnekpjaa

/- Fair prices of items as functions ask for them, in plain mathematics. -/
namespace Go.Proofs.Ytaipodnhnekpjaa
set_option linter.unusedVariables false
set_option linter.unusedSimpArgs false
open Go.RowKit

/-- Item prices. -/
def ItemP (q m : Nat) (p : Nat → Int) : Prop := (∀ k, k < q → 0 ≤ p k ∧ p k ≤ 20) ∧ q = m
/-- What a bidder gains at most with the first items, or with none. -/
def gainM (Z : Nat → Nat → Int) (p : Nat → Int) (i : Nat) : Nat → Int
  | 0 => 0
  | k + 1 => max (gainM Z p i k) (Z i k - p k)
/-- Prices are fair with some deal. -/
def SomeP (n m : Nat) (Z : Nat → Nat → Int) (p : Nat → Int) : Prop := ∃ D, D ∈ dealsP m n ∧ FairP n m Z p (nth D)
/-- What a bidder pays. -/
def payB (n m : Nat) (Z : Nat → Nat → Int) (D : Nat → Int) (i : Nat) : Int := withoutV n m Z i - (bestV n m Z - if D i = -1 then 0 else Z i (D i).toNat)
section
variable {n m : Nat} {Z : Nat → Nat → Int} {p q D E : Nat → Int}
theorem gainM_nonneg (i : Nat) : ∀ k, 0 ≤ gainM Z p i k
  | 0 => Int.le_refl _
  | k + 1 => Int.le_trans (gainM_nonneg i k) (Int.le_max_left _ _)
theorem gainM_ge {i : Nat} : ∀ {q k : Nat}, k < q → Z i k - p k ≤ gainM Z p i q
  | q + 1, k, h => by
    show _ ≤ max (gainM Z p i q) (Z i q - p q)
    by_cases e : k = q
    · subst e; exact Int.le_max_right _ _
    · exact Int.le_trans (gainM_ge (show k < q by omega)) (Int.le_max_left _ _)
theorem gainM_le {i : Nat} {c : Int} (hc : 0 ≤ c) : ∀ {q : Nat}, (∀ k, k < q → Z i k - p k ≤ c) → gainM Z p i q ≤ c
  | 0, _ => hc
  | q + 1, h => Int.max_le.2 ⟨gainM_le hc fun k hk => h k (by omega), h q (by omega)⟩
theorem gainM_range {i q : Nat} (h : ∀ k, k < q → 0 ≤ Z i k ∧ Z i k ≤ 20) (hp : ∀ k, k < q → 0 ≤ p k) : 0 ≤ gainM Z p i q ∧ gainM Z p i q ≤ 20 :=
  ⟨gainM_nonneg _ _, gainM_le (by omega) fun k hk => by have := h k hk; have := hp k hk; omega⟩
theorem gainM_congr {i : Nat} {q' : Nat → Int} : ∀ {k : Nat}, (∀ x, x < k → p x = q' x) → gainM Z p i k = gainM Z q' i k
  | 0, _ => rfl
  | k + 1, h => by
    show max _ _ = max _ _
    rw [gainM_congr fun x hx => h x (by omega), h k (by omega)]
theorem gainM_mono {i : Nat} {q' : Nat → Int} {k : Nat} (h : ∀ x, x < k → q' x ≤ p x) : gainM Z p i k ≤ gainM Z q' i k :=
  gainM_le (gainM_nonneg _ _) fun x hx => by have := h x hx; have := gainM_ge (Z := Z) (p := q') (i := i) hx; omega
theorem fair_iff (hp : ∀ x, x < m → 0 ≤ p x) (hD : ∀ i, i < n → -1 ≤ D i ∧ D i < m) : FairP n m Z p D ↔ (∀ i, i < n → gainD Z p D i = gainM Z p i m) ∧ ∀ x : Nat, x < m → ¬ (0 < p x ∧ ∀ i, i < n → D i ≠ (x : Int)) := by
  constructor
  · rintro ⟨h1, h2, h3⟩
    refine ⟨fun i hi => ?_, fun x hx ⟨h4, h5⟩ => by have := h3 x hx h5; omega⟩
    unfold gainD
    by_cases e : D i = -1
    · rw [if_pos e]
      exact Int.le_antisymm (gainM_nonneg _ _) (gainM_le (Int.le_refl _) fun k hk => by have := h2 i hi e k hk; omega)
    · rw [if_neg e]
      obtain ⟨k1, k2⟩ := h1 i hi e
      have := hD i hi
      exact Int.le_antisymm (gainM_ge (show (D i).toNat < m by omega)) (gainM_le k1 fun k hk => k2 k hk)
  · rintro ⟨h1, h2⟩
    refine ⟨fun i hi e => ?_, fun i hi e y hy => ?_, fun x hx h => ?_⟩
    · have h3 := h1 i hi
      unfold gainD at h3
      rw [if_neg e] at h3
      rw [h3]
      exact ⟨gainM_nonneg _ _, fun y hy => gainM_ge hy⟩
    · have h3 := h1 i hi
      unfold gainD at h3
      rw [if_pos e] at h3
      have := gainM_ge (Z := Z) (p := p) (i := i) hy
      omega
    · have h3 := h2 x hx
      have h4 := hp x hx
      by_cases e : 0 < p x
      · exact absurd ⟨e, h⟩ h3
      · omega
theorem fair_deal_congr (e : ∀ i, i < n → D i = E i) (h : FairP n m Z p D) : FairP n m Z p E := by
  obtain ⟨h1, h2, h3⟩ := h
  refine ⟨fun i hi => ?_, fun i hi => ?_, fun x hx h => h3 x hx fun i hi => by rw [e i hi]; exact h i hi⟩
  · rw [← e i hi]; exact h1 i hi
  · rw [← e i hi]; exact h2 i hi
theorem some_of (h : IsDeal n m D) (hf : FairP n m Z p D) : SomeP n m Z p :=
  ⟨ofF n D, dealsP_mem.2 ⟨ofF_len n D, deal_congr (fun i hi => (ofF_nth hi).symm) h⟩, fair_deal_congr (fun i hi => (ofF_nth hi).symm) hf⟩
theorem some_best (hp : ∀ x, x < m → 0 ≤ p x) (hs : SomeP n m Z p) (hE : IsDeal n m E) (hb : dealT Z E n = bestV n m Z) : FairP n m Z p E := by
  obtain ⟨D, hD, hf⟩ := hs
  exact fair_any hp (dealsP_mem.1 hD).2 hf hE hb
theorem some_range (hp : ∀ x, x < m → 0 ≤ p x) (hs : SomeP n m Z p) {k : Nat} (hk : k < m) : lowP n m Z k ≤ p k ∧ p k ≤ highP n m Z k := by
  obtain ⟨D, hD, hf⟩ := hs
  exact ⟨fair_low hp (dealsP_mem.1 hD).2 hf hk, fair_high hp (dealsP_mem.1 hD).2 hf hk⟩
theorem some_congr (e : ∀ x, x < m → p x = q x) : SomeP n m Z p ↔ SomeP n m Z q :=
  ⟨fun ⟨D, hD, hf⟩ => ⟨D, hD, fair_congr e (dealsP_mem.1 hD).2 hf⟩, fun ⟨D, hD, hf⟩ => ⟨D, hD, fair_congr (fun x hx => (e x hx).symm) (dealsP_mem.1 hD).2 hf⟩⟩
theorem high_ge {k : Nat} (hk : k < m) : 0 ≤ highP n m Z k := by
  have := less_le (n := n) (Z := Z) hk
  unfold highP
  omega
theorem high_small {k : Nat} (hk : k < m) (hZ : ∀ i, i < n → ∀ x, x < m → 0 ≤ Z i x ∧ Z i x ≤ 20) : highP n m Z k ≤ 20 := by
  have := less_near (n := n) (Z := Z) hk (M := 20) (by omega) fun i hi => (hZ i hi k hk).2
  unfold highP
  omega
theorem low_high {k : Nat} (hk : k < m) : lowP n m Z k ≤ highP n m Z k := by
  have := twice_gain (n := n) (Z := Z) hk
  unfold lowP highP
  omega
theorem low_item (hZ : ∀ i, i < n → ∀ x, x < m → 0 ≤ Z i x ∧ Z i x ≤ 20) : ItemP m m (lowP n m Z) := ⟨fun k hk => ⟨low_ge hk, Int.le_trans (low_high hk) (high_small hk hZ)⟩, rfl⟩
theorem high_item (hZ : ∀ i, i < n → ∀ x, x < m → 0 ≤ Z i x ∧ Z i x ≤ 20) : ItemP m m (highP n m Z) := ⟨fun k hk => ⟨high_ge hk, high_small hk hZ⟩, rfl⟩
theorem pay_due (h : IsDeal n m D) (hb : dealT Z D n = bestV n m Z) (hn : 0 < n) {i : Nat} (hi : i < n) : payB n m Z D i = if D i = -1 then 0 else lowP n m Z (D i).toNat := by
  unfold payB
  by_cases e : D i = -1
  · rw [if_pos e, if_pos e]
    have h1 := without_le (n := n) (m := m) (Z := Z) hi
    have h2 := without_ge (Z := Z) hi h e
    omega
  · rw [if_neg e, if_neg e]
    have hd := h.1 i hi
    obtain ⟨x, hx⟩ := Int.eq_ofNat_of_zero_le (show 0 ≤ D i by omega)
    rw [hx, Int.toNat_natCast]
    have h1 := pay_who (Z := Z) h hi hx
    rw [pay_low h hb hn (show x < m by omega)] at h1
    unfold gainB at h1
    omega
theorem gain_low (h : IsDeal n m D) (hb : dealT Z D n = bestV n m Z) (hn : 0 < n) {i : Nat} (hi : i < n) : gainM Z (lowP n m Z) i m = bestV n m Z - withoutV n m Z i := by
  have h1 := ((fair_iff (fun x hx => low_ge hx) h.1).1 (low_fair h hb hn)).1 i hi
  have h2 := pay_due h hb hn hi
  unfold payB at h2
  unfold gainD at h1
  rw [← h1]
  by_cases e : D i = -1
  · rw [if_pos e] at h2 ⊢
    rw [if_pos e] at h2
    omega
  · rw [if_neg e] at h2 ⊢
    rw [if_neg e] at h2
    show Z i (D i).toNat - lowP n m Z (D i).toNat = _
    omega
theorem sumZ_nonneg {f : Nat → Int} : ∀ (q : Nat), (∀ i, i < q → 0 ≤ f i) → 0 ≤ sumZ f q
  | 0, _ => Int.le_refl _
  | q + 1, h => by
    have h1 := sumZ_nonneg q fun i hi => h i (by omega)
    have h2 := h q (by omega)
    show 0 ≤ sumZ f q + f q
    omega
theorem sum_fair (hp : ∀ x, x < m → 0 ≤ p x) (h : IsDeal n m D) (hf : FairP n m Z p D) : sumZ p m ≤ bestV n m Z := by
  have h1 := fair_tight h hf
  have h2 := fair_best hp h hf
  have h3 := sumZ_nonneg (f := gainD Z p D) n fun i hi => ((fair_cover hp hf).2 i hi).1
  omega
theorem low_sum (hn : 0 < n) : sumZ (lowP n m Z) m ≤ bestV n m Z := by
  obtain ⟨D, hD, hb⟩ := best_is n m Z
  exact sum_fair (fun x hx => low_ge hx) hD (low_fair hD hb hn)
theorem high_sum (n m : Nat) (Z : Nat → Nat → Int) : sumZ (highP n m Z) m ≤ bestV n m Z := by
  obtain ⟨D, hD, hb⟩ := best_is n m Z
  exact sum_fair (fun x hx => high_ge hx) hD (high_fair hD hb)
end

/-- The t-th list of item prices, in the order of lists. -/
def dig (m t k : Nat) : Int := ((t / 21 ^ (m - 1 - k) % 21 : Nat) : Int)
/-- How many of the first t lists of item prices are fair with some deal. -/
noncomputable def countT (n m : Nat) (Z : Nat → Nat → Int) : Nat → Nat
  | 0 => 0
  | t + 1 => countT n m Z t + if tt (SomeP n m Z (dig m t)) = true then 1 else 0
section
variable {n m : Nat} {Z : Nat → Nat → Int}
theorem dig_range (m t k : Nat) : 0 ≤ dig m t k ∧ dig m t k ≤ 20 := by unfold dig; omega
theorem countT_yes {t : Nat} (h : SomeP n m Z (dig m t)) : countT n m Z (t + 1) = countT n m Z t + 1 := by show _ + _ = _; rw [if_pos (tt_of h)]
theorem countT_no {t : Nat} (h : ¬ SomeP n m Z (dig m t)) : countT n m Z (t + 1) = countT n m Z t := by show _ + _ = _; rw [if_neg (by rw [tt_no h]; simp)]; rfl
theorem countT_le (t : Nat) : countT n m Z t ≤ t := by
  induction t with
  | zero => exact Nat.le_refl _
  | succ t ih =>
    show countT n m Z t + _ ≤ _
    split <;> omega
theorem countT_mono {s t : Nat} (h : s ≤ t) : countT n m Z s ≤ countT n m Z t := by
  induction t with
  | zero => rw [show s = 0 by omega]; exact Nat.le_refl _
  | succ t ih =>
    by_cases e : s = t + 1
    · subst e; exact Nat.le_refl _
    · exact Nat.le_trans (ih (by omega)) (Nat.le_add_right _ _)
theorem count_ge {T : Nat} {f : Nat → Nat} : ∀ {M : Nat}, (∀ c, c < M → f c < T ∧ SomeP n m Z (dig m (f c))) → (∀ c, c + 1 < M → f c < f (c + 1)) → M ≤ countT n m Z T
  | 0, _, _ => Nat.zero_le _
  | M + 1, h, hi => by
    obtain ⟨h1, h2⟩ := h M (by omega)
    have h3 : M ≤ countT n m Z (f M) := count_ge (f := f) (fun c hc => ⟨by
      have : ∀ b, c < b → b ≤ M → f c < f b := fun b => by
        induction b with
        | zero => intro h; omega
        | succ b ih =>
          intro h1 h2
          by_cases e : c = b
          · subst e; exact hi c (by omega)
          · exact Nat.lt_trans (ih (by omega) (by omega)) (hi b (by omega))
      exact this M hc (Nat.le_refl _), (h c (by omega)).2⟩) (fun c hc => hi c (by omega))
    have h4 := countT_yes h2
    have h5 := countT_mono (n := n) (m := m) (Z := Z) (show f M + 1 ≤ T by omega)
    omega
/-- The place of a list of one or two item prices. -/
def numP (m : Nat) (p : Nat → Int) : Nat := if m = 1 then (p 0).toNat else 21 * (p 0).toNat + (p 1).toNat
theorem dig_num (h1 : 1 ≤ m) (h2 : m ≤ 2) {p : Nat → Int} (hp : ∀ k, k < m → 0 ≤ p k ∧ p k ≤ 20) : numP m p < 21 ^ m ∧ ∀ k, k < m → dig m (numP m p) k = p k := by
  have h0 := hp 0 (by omega)
  by_cases e : m = 1
  · subst e
    unfold numP dig
    rw [if_pos rfl]
    refine ⟨by omega, fun k hk => ?_⟩
    obtain rfl : k = 0 := by omega
    simp
    omega
  · obtain rfl : m = 2 := by omega
    have h3 := hp 1 (by omega)
    unfold numP dig
    rw [if_neg (by omega)]
    refine ⟨by omega, fun k hk => ?_⟩
    by_cases e1 : k = 0
    · subst e1
      simp
      omega
    · obtain rfl : k = 1 := by omega
      simp
      omega
theorem num_lt (h1 : 1 ≤ m) (h2 : m ≤ 2) {p q : Nat → Int} (hp : ∀ k, k < m → 0 ≤ p k ∧ p k ≤ q k) {k : Nat} (hk : k < m) (h : p k < q k) : numP m p < numP m q := by
  have h0 := hp 0 (by omega)
  unfold numP
  by_cases e : m = 1
  · subst e
    obtain rfl : k = 0 := by omega
    rw [if_pos rfl, if_pos rfl]
    omega
  · obtain rfl : m = 2 := by omega
    have h3 := hp 1 (by omega)
    rw [if_neg e, if_neg e]
    have hk2 : k = 0 ∨ k = 1 := by omega
    rcases hk2 with rfl | rfl <;> omega
/-- Between the least and the greatest price of an item all are prices of fair lists. -/
theorem count_range (hn : 0 < n) (h1 : 1 ≤ m) (h2 : m ≤ 2) (hZ : ∀ i, i < n → ∀ x, x < m → 0 ≤ Z i x ∧ Z i x ≤ 20) {k : Nat} (hk : k < m) : highP n m Z k - lowP n m Z k + 1 ≤ (countT n m Z (21 ^ m) : Nat) := by
  obtain ⟨D, hD, hb⟩ := best_is n m Z
  have hw := low_high (n := n) (Z := Z) hk
  obtain ⟨W, hW⟩ := Int.eq_ofNat_of_zero_le (show 0 ≤ highP n m Z k - lowP n m Z k by omega)
  have hf : ∀ c : Nat, FairP n m Z (fun x => max (lowP n m Z x) (highP n m Z x - (W - (min c W : Nat)))) D := fun c => fair_between hD (low_fair hD hb hn) (high_fair hD hb) (by omega)
  have hr : ∀ (c x : Nat), x < m → 0 ≤ max (lowP n m Z x) (highP n m Z x - ((W : Int) - (min c W : Nat))) ∧ max (lowP n m Z x) (highP n m Z x - ((W : Int) - (min c W : Nat))) ≤ 20 := fun c x hx => by
    have h3 := low_ge (n := n) (Z := Z) hx
    have h4 := high_small (n := n) hx hZ
    have h5 := low_high (n := n) (Z := Z) hx
    omega
  have := count_ge (n := n) (m := m) (Z := Z) (T := 21 ^ m) (M := W + 1) (f := fun c => numP m fun x => max (lowP n m Z x) (highP n m Z x - ((W : Int) - (min c W : Nat)))) (fun c hc => by
    obtain ⟨h3, h4⟩ := dig_num h1 h2 (hr c)
    exact ⟨h3, (some_congr h4).2 (some_of hD (hf c))⟩) (fun c hc => num_lt h1 h2 (fun x hx => ⟨(hr c x hx).1, by omega⟩) hk (by omega))
  omega
theorem count_pos (hn : 0 < n) (h1 : 1 ≤ m) (h2 : m ≤ 2) (hZ : ∀ i, i < n → ∀ x, x < m → 0 ≤ Z i x ∧ Z i x ≤ 20) : 1 ≤ countT n m Z (21 ^ m) := by
  have h3 := count_range hn h1 h2 hZ (show 0 < m by omega)
  have h4 := low_high (n := n) (Z := Z) (show 0 < m by omega)
  omega
end
end Go.Proofs.Ytaipodnhnekpjaa
