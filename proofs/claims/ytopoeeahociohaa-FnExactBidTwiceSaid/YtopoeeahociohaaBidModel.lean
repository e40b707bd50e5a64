/- Deals of bids, in plain mathematics: totals, two deals out of two, bidders and items exchanged. -/
import Derived.Test.YtopoeeahociohaaMem
namespace Go.Proofs.Ytopoeeahociohaa
set_option linter.unusedVariables false
set_option linter.unusedSimpArgs false
open Go.RowKit

/-- What the first k bidders get is worth to them. -/
def dealT (Z : Nat → Nat → Int) (D : Nat → Int) : Nat → Int
  | 0 => 0
  | k + 1 => dealT Z D k + if D k = -1 then 0 else Z k (D k).toNat
/-- A deal. -/
def IsDeal (n m : Nat) (D : Nat → Int) : Prop := (∀ i, i < n → -1 ≤ D i ∧ D i < m) ∧ ∀ i j, i < n → j < n → i ≠ j → D i = D j → D i = -1
/-- A deal but that two bidders may get the item k. -/
def IsTwice (n m : Nat) (k : Int) (D : Nat → Int) : Prop :=
  (∀ i, i < n → -1 ≤ D i ∧ D i < m) ∧ (∀ i j, i < n → j < n → i ≠ j → D i = D j → D i = -1 ∨ D i = k) ∧
  ∀ h i j, h < n → i < n → j < n → h ≠ i → h ≠ j → i ≠ j → D h = k → D i = k → D j = k → False
section
variable {n m : Nat} {k : Int} {D L A B : Nat → Int} {Z : Nat → Nat → Int}
theorem dealT_congr : ∀ (q : Nat), (∀ i, i < q → A i = B i) → dealT Z A q = dealT Z B q
  | 0, _ => rfl
  | q + 1, h => by
    show dealT Z A q + (if A q = -1 then 0 else Z q (A q).toNat) = dealT Z B q + (if B q = -1 then 0 else Z q (B q).toNat)
    rw [dealT_congr q fun i hi => h i (by omega), h q (by omega)]
theorem dealT_pair : ∀ (q : Nat), (∀ i, i < q → (A i = D i ∧ B i = L i) ∨ (A i = L i ∧ B i = D i)) → dealT Z A q + dealT Z B q = dealT Z D q + dealT Z L q
  | 0, _ => rfl
  | q + 1, h => by
    have ih := dealT_pair q fun i hi => h i (by omega)
    show dealT Z A q + (if A q = -1 then 0 else Z q (A q).toNat) + (dealT Z B q + (if B q = -1 then 0 else Z q (B q).toNat)) = dealT Z D q + (if D q = -1 then 0 else Z q (D q).toNat) + (dealT Z L q + (if L q = -1 then 0 else Z q (L q).toNat))
    rcases h q (by omega) with ⟨e1, e2⟩ | ⟨e1, e2⟩ <;> rw [e1, e2] <;> omega
/-- Who leads to i: along what one gets in D and another one in L. -/
inductive Leads (n : Nat) (D L : Nat → Int) (i : Nat) : Nat → Prop
  | base : Leads n D L i i
  | step {a b : Nat} : a < n → b < n → D a ≠ -1 → L b = D a → Leads n D L i b → Leads n D L i a
theorem leads_iff (hL : IsDeal n m L) (hk : ∀ i, i < n → L i ≠ k) {i a b : Nat} (hi : D i = k) (ha : a < n) (hb : b < n) (h1 : D a ≠ -1) (h2 : L b = D a) : Leads n D L i a ↔ Leads n D L i b := by
  constructor
  · intro h
    cases h with
    | base => exact absurd (h2.trans hi) (hk b hb)
    | @step _ c _ hc _ h3 h4 =>
      by_cases e : b = c
      · rw [e]; exact h4
      · have := hL.2 b c hb hc e (h2.trans h3.symm)
        exact absurd (h2.symm.trans this) h1
  · exact fun h => .step ha hb h1 h2 h
theorem leads_not (hk : ∀ i, i < n → L i ≠ k) {i j : Nat} (hj : D j = k) (hne : j ≠ i) : ¬ Leads n D L i j := by
  intro h
  cases h with
  | base => exact hne rfl
  | @step _ b _ hb _ h3 _ => exact hk b hb (h3.trans hj)
/-- Out of a deal in which two may get the item k and one in which nobody gets it come two deals of the same total. -/
theorem two_deals' (hD : IsTwice n m k D) (hL : IsDeal n m L) (hk : ∀ i, i < n → L i ≠ k) : ∃ A B, IsDeal n m A ∧ IsDeal n m B ∧ ∀ i, i < n → (A i = D i ∧ B i = L i) ∨ (A i = L i ∧ B i = D i) := by
  classical
  by_cases h : ∃ i j, i < n ∧ j < n ∧ i ≠ j ∧ D i = k ∧ D j = k
  · obtain ⟨i, j, hi, hj, hij, e1, e2⟩ := h
    have hnot := leads_not hk e2 (Ne.symm hij)
    refine ⟨fun a => if Leads n D L i a then L a else D a, fun a => if Leads n D L i a then D a else L a, ⟨fun a ha => ?_, fun a b ha hb hab e => ?_⟩, ⟨fun a ha => ?_, fun a b ha hb hab e => ?_⟩, fun a ha => ?_⟩
    · by_cases q : Leads n D L i a
      · simp only [if_pos q]; exact hL.1 a ha
      · simp only [if_neg q]; exact hD.1 a ha
    · by_cases q : Leads n D L i a <;> by_cases r : Leads n D L i b
      · simp only [if_pos q, if_pos r] at e ⊢
        exact hL.2 a b ha hb hab e
      · simp only [if_pos q, if_neg r] at e ⊢
        by_cases e3 : L a = -1
        · exact e3
        · exact absurd ((leads_iff hL hk e1 hb ha (by rw [← e]; exact e3) e).2 q) r
      · simp only [if_neg q, if_pos r] at e ⊢
        by_cases e3 : D a = -1
        · exact e3
        · exact absurd ((leads_iff hL hk e1 ha hb e3 e.symm).2 r) q
      · simp only [if_neg q, if_neg r] at e ⊢
        rcases hD.2.1 a b ha hb hab e with e3 | e3
        · exact e3
        · exact (hD.2.2 a b i ha hb hi hab (fun h => q (h ▸ .base)) (fun h => r (h ▸ .base)) e3 (e ▸ e3) e1).elim
    · by_cases q : Leads n D L i a
      · simp only [if_pos q]; exact hD.1 a ha
      · simp only [if_neg q]; exact hL.1 a ha
    · by_cases q : Leads n D L i a <;> by_cases r : Leads n D L i b
      · simp only [if_pos q, if_pos r] at e ⊢
        rcases hD.2.1 a b ha hb hab e with e3 | e3
        · exact e3
        · exact (hD.2.2 a b j ha hb hj hab (fun h => hnot (h ▸ q)) (fun h => hnot (h ▸ r)) e3 (e ▸ e3) e2).elim
      · simp only [if_pos q, if_neg r] at e ⊢
        by_cases e3 : D a = -1
        · exact e3
        · exact absurd ((leads_iff hL hk e1 ha hb e3 e.symm).1 q) r
      · simp only [if_neg q, if_pos r] at e ⊢
        by_cases e3 : L a = -1
        · exact e3
        · exact absurd ((leads_iff hL hk e1 hb ha (by rw [← e]; exact e3) e).1 r) q
      · simp only [if_neg q, if_neg r] at e ⊢
        exact hL.2 a b ha hb hab e
    · by_cases q : Leads n D L i a
      · exact .inr ⟨if_pos q, if_pos q⟩
      · exact .inl ⟨if_neg q, if_neg q⟩
  · refine ⟨D, L, ⟨hD.1, fun a b ha hb hab e => ?_⟩, hL, fun i _ => .inl ⟨rfl, rfl⟩⟩
    rcases hD.2.1 a b ha hb hab e with e3 | e3
    · exact e3
    · exact absurd ⟨a, b, ha, hb, hab, e3, e ▸ e3⟩ h
theorem two_deals (hD : IsTwice n m k D) (hL : IsDeal n m L) (hk : ∀ i, i < n → L i ≠ k) (Z : Nat → Nat → Int) : ∃ A B, IsDeal n m A ∧ IsDeal n m B ∧ dealT Z A n + dealT Z B n = dealT Z D n + dealT Z L n := by
  obtain ⟨A, B, h1, h2, h3⟩ := two_deals' hD hL hk
  exact ⟨A, B, h1, h2, dealT_pair n h3⟩
/-- A sum of the first k numbers. -/
def sumZ (f : Nat → Int) : Nat → Int
  | 0 => 0
  | k + 1 => sumZ f k + f k
theorem sumZ_congr {f g : Nat → Int} : ∀ (q : Nat), (∀ i, i < q → f i = g i) → sumZ f q = sumZ g q
  | 0, _ => rfl
  | q + 1, h => by show sumZ f q + f q = sumZ g q + g q; rw [sumZ_congr q fun i hi => h i (by omega), h q (by omega)]
theorem sumZ_zero {f : Nat → Int} : ∀ (q : Nat), (∀ i, i < q → f i = 0) → sumZ f q = 0
  | 0, _ => rfl
  | q + 1, h => by show sumZ f q + f q = 0; rw [sumZ_zero q fun i hi => h i (by omega), h q (by omega)]; rfl
theorem sumZ_add {f g : Nat → Int} : ∀ (q : Nat), sumZ (fun i => f i + g i) q = sumZ f q + sumZ g q
  | 0 => rfl
  | q + 1 => by show sumZ (fun i => f i + g i) q + (f q + g q) = sumZ f q + f q + (sumZ g q + g q); rw [sumZ_add q]; omega
theorem sumZ_le {f g : Nat → Int} : ∀ (q : Nat), (∀ i, i < q → f i ≤ g i) → sumZ f q ≤ sumZ g q
  | 0, _ => Int.le_refl _
  | q + 1, h => by
    have h1 := sumZ_le q fun i hi => h i (by omega)
    have h2 := h q (by omega)
    show sumZ f q + f q ≤ sumZ g q + g q
    omega
theorem sumZ_swap {F : Nat → Nat → Int} (p : Nat) : ∀ (q : Nat), sumZ (fun i => sumZ (F i) p) q = sumZ (fun x => sumZ (fun i => F i x) q) p
  | 0 => (sumZ_zero p fun _ _ => rfl).symm
  | q + 1 => by
    show sumZ (fun i => sumZ (F i) p) q + sumZ (F q) p = sumZ (fun x => sumZ (fun i => F i x) q + F q x) p
    rw [sumZ_swap p q, sumZ_add]
/-- Just one of the first q numbers is not 0. -/
theorem sumZ_one {f : Nat → Int} {x : Nat} : ∀ (q : Nat), x < q → (∀ i, i < q → i ≠ x → f i = 0) → sumZ f q = f x
  | 0, h, _ => absurd h (Nat.not_lt_zero _)
  | q + 1, h, h0 => by
    show sumZ f q + f q = f x
    by_cases e : x = q
    · subst e
      rw [sumZ_zero x fun i hi => h0 i (by omega) (by omega)]
      omega
    · rw [sumZ_one q (by omega) fun i hi hne => h0 i (by omega) hne, h0 q (by omega) (by omega)]
      omega
theorem dealT_sum : ∀ (q : Nat), dealT Z D q = sumZ (fun i => if D i = -1 then 0 else Z i (D i).toNat) q
  | 0 => rfl
  | q + 1 => by show dealT Z D q + _ = sumZ _ q + _; rw [dealT_sum q]
/-- A deal's total as a sum over all bidders and items. -/
theorem dealT_cells (h : IsDeal n m D) : dealT Z D n = sumZ (fun i => sumZ (fun x => if D i = (x : Int) then Z i x else 0) m) n := by
  rw [dealT_sum]
  refine sumZ_congr n fun i hi => ?_
  have hr := h.1 i hi
  by_cases e : D i = -1
  · rw [if_pos e, sumZ_zero m fun x _ => if_neg (by omega)]
  · obtain ⟨y, hy⟩ := Int.eq_ofNat_of_zero_le (show 0 ≤ D i by omega)
    rw [if_neg e, sumZ_one (x := y) m (by omega) fun x _ hne => if_neg (by omega), if_pos hy, hy, Int.toNat_natCast]
open Classical in
/-- Who gets the item x. -/
noncomputable def whoGets (n : Nat) (D : Nat → Int) (x : Nat) : Int := if h : ∃ i, i < n ∧ D i = (x : Int) then (Classical.choose h : Nat) else -1
theorem who_is (h : IsDeal n m D) {i x : Nat} (hi : i < n) : whoGets n D x = (i : Int) ↔ D i = (x : Int) := by
  unfold whoGets
  constructor
  · intro e
    by_cases hx : ∃ i, i < n ∧ D i = (x : Int)
    · rw [dif_pos hx] at e
      have hc := Classical.choose_spec hx
      have : Classical.choose hx = i := by omega
      rw [this] at hc
      exact hc.2
    · rw [dif_neg hx] at e
      omega
  · intro e
    have hx : ∃ i, i < n ∧ D i = (x : Int) := ⟨i, hi, e⟩
    rw [dif_pos hx]
    have hc := Classical.choose_spec hx
    by_cases e2 : Classical.choose hx = i
    · rw [e2]
    · have := h.2 _ _ hc.1 hi e2 (hc.2.trans e.symm)
      omega
theorem who_range (D : Nat → Int) (n x : Nat) : -1 ≤ whoGets n D x ∧ whoGets n D x < n := by
  unfold whoGets
  by_cases hx : ∃ i, i < n ∧ D i = (x : Int)
  · rw [dif_pos hx]
    have hc := (Classical.choose_spec hx).1
    omega
  · rw [dif_neg hx]
    omega
theorem who_deal (h : IsDeal n m D) : IsDeal m n (whoGets n D) := by
  refine ⟨fun x _ => who_range D n x, fun x y _ _ hne e => ?_⟩
  have hr := who_range D n x
  by_cases e1 : whoGets n D x = -1
  · exact e1
  · obtain ⟨i, hi⟩ := Int.eq_ofNat_of_zero_le (show 0 ≤ whoGets n D x by omega)
    have hin : i < n := by omega
    have h1 := (who_is h hin).1 hi
    have h2 := (who_is h hin).1 (e.symm.trans hi)
    omega
/-- Bidders and items exchanged. -/
theorem who_total (h : IsDeal n m D) : dealT (fun x i => Z i x) (whoGets n D) m = dealT Z D n := by
  rw [dealT_cells h, dealT_cells (who_deal h), sumZ_swap]
  refine sumZ_congr n fun i hi => sumZ_congr m fun x hx => ?_
  by_cases e : D i = (x : Int)
  · rw [if_pos e, if_pos ((who_is h hi).2 e)]
  · rw [if_neg e, if_neg fun e2 => e ((who_is h hi).1 e2)]
/-- A deal less what one bidder gets. -/
theorem drop_deal (h : IsDeal n m D) (b : Nat) : IsDeal n m (fun i => if i = b then -1 else D i) := by
  refine ⟨fun i hi => ?_, fun i j hi hj hne e => ?_⟩
  · by_cases e : i = b
    · simp only [if_pos e]; omega
    · simp only [if_neg e]; exact h.1 i hi
  · by_cases e1 : i = b
    · simp only [if_pos e1]
    · by_cases e2 : j = b
      · simp only [if_neg e1, if_pos e2] at e ⊢; exact e
      · simp only [if_neg e1, if_neg e2] at e ⊢; exact h.2 i j hi hj hne e
theorem drop_total (D : Nat → Int) {b : Nat} : ∀ (q : Nat), dealT Z (fun i => if i = b then -1 else D i) q = dealT Z D q - if b < q ∧ D b ≠ -1 then Z b (D b).toNat else 0
  | 0 => by simp [dealT]
  | q + 1 => by
    have ih := drop_total D (b := b) q
    show dealT Z (fun i => if i = b then -1 else D i) q + (if (if q = b then -1 else D q) = -1 then 0 else Z q (if q = b then -1 else D q).toNat) = dealT Z D q + (if D q = -1 then 0 else Z q (D q).toNat) - _
    rw [ih]
    by_cases e : q = b
    · subst e
      rw [if_pos rfl, if_neg (show ¬ (q < q ∧ D q ≠ -1) from fun h => absurd h.1 (Nat.lt_irrefl q))]
      by_cases e2 : D q = -1
      · rw [if_pos e2, if_neg (show ¬ (q < q + 1 ∧ D q ≠ -1) from fun h => h.2 e2)]; simp
      · rw [if_neg e2, if_pos (show q < q + 1 ∧ D q ≠ -1 from ⟨by omega, e2⟩)]; simp
    · rw [if_neg e]
      by_cases e2 : b < q
      · by_cases e3 : D b = -1
        · rw [if_neg (show ¬ (b < q ∧ D b ≠ -1) from fun h => h.2 e3), if_neg (show ¬ (b < q + 1 ∧ D b ≠ -1) from fun h => h.2 e3)]; omega
        · rw [if_pos (show b < q ∧ D b ≠ -1 from ⟨e2, e3⟩), if_pos (show b < q + 1 ∧ D b ≠ -1 from ⟨by omega, e3⟩)]; omega
      · rw [if_neg (show ¬ (b < q ∧ D b ≠ -1) from fun h => e2 h.1), if_neg (show ¬ (b < q + 1 ∧ D b ≠ -1) from fun h => by have := h.1; omega)]; omega
end
end Go.Proofs.Ytopoeeahociohaa
