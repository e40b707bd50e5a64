/- Deals of bids, in plain mathematics: totals, two deals out of two, bidders and items exchanged. -/
/- All deals that begin so, with how many of each item are left, in plain mathematics. -/
/- The deals are just the lists that are made so; the greatest total, in plain mathematics. -/
/- What the laws of chapter 7 say of the greatest totals, in plain mathematics. -/
/- What bids are; all deals, bidder by bidder, as the program finds them, in plain mathematics. -/
/- A deal's total stays small. -/
/- Bids with an item twice, as bids for one item more, in plain mathematics; the same greatest total of the same deals. -/
import Derived.Test.YtaipodnhnekpjaaMem
namespace Go.Proofs.Ytaipodnhnekpjaa
set_option linter.unusedVariables false
set_option linter.unusedSimpArgs false
open Go.RowKit

/-- What the first k bidders get is worth to them. -/
def dealT (Z : Nat → Nat → Int) (D : Nat → Int) : Nat → Int
  | 0 => 0
  | k + 1 => dealT Z D k + if D k = -1 then 0 else Z k (D k).toNat
/-- A deal. -/
def IsDeal (n m : Nat) (D : Nat → Int) : Prop := (∀ i, i < n → -1 ≤ D i ∧ D i < m) ∧ ∀ i j, i < n → j < n → i ≠ j → D i = D j → D i = -1
/-- A deal but that two bidders may get the item k. -/
def IsTwice (n m : Nat) (k : Int) (D : Nat → Int) : Prop :=
  (∀ i, i < n → -1 ≤ D i ∧ D i < m) ∧ (∀ i j, i < n → j < n → i ≠ j → D i = D j → D i = -1 ∨ D i = k) ∧
  ∀ h i j, h < n → i < n → j < n → h ≠ i → h ≠ j → i ≠ j → D h = k → D i = k → D j = k → False
section
variable {n m : Nat} {k : Int} {D L A B : Nat → Int} {Z : Nat → Nat → Int}
theorem dealT_congr : ∀ (q : Nat), (∀ i, i < q → A i = B i) → dealT Z A q = dealT Z B q
  | 0, _ => rfl
  | q + 1, h => by
    show dealT Z A q + (if A q = -1 then 0 else Z q (A q).toNat) = dealT Z B q + (if B q = -1 then 0 else Z q (B q).toNat)
    rw [dealT_congr q fun i hi => h i (by omega), h q (by omega)]
theorem dealT_pair : ∀ (q : Nat), (∀ i, i < q → (A i = D i ∧ B i = L i) ∨ (A i = L i ∧ B i = D i)) → dealT Z A q + dealT Z B q = dealT Z D q + dealT Z L q
  | 0, _ => rfl
  | q + 1, h => by
    have ih := dealT_pair q fun i hi => h i (by omega)
    show dealT Z A q + (if A q = -1 then 0 else Z q (A q).toNat) + (dealT Z B q + (if B q = -1 then 0 else Z q (B q).toNat)) = dealT Z D q + (if D q = -1 then 0 else Z q (D q).toNat) + (dealT Z L q + (if L q = -1 then 0 else Z q (L q).toNat))
    rcases h q (by omega) with ⟨e1, e2⟩ | ⟨e1, e2⟩ <;> rw [e1, e2] <;> omega
/-- Who leads to i: along what one gets in D and another one in L. -/
inductive Leads (n : Nat) (D L : Nat → Int) (i : Nat) : Nat → Prop
  | base : Leads n D L i i
  | step {a b : Nat} : a < n → b < n → D a ≠ -1 → L b = D a → Leads n D L i b → Leads n D L i a
theorem leads_iff (hL : IsDeal n m L) (hk : ∀ i, i < n → L i ≠ k) {i a b : Nat} (hi : D i = k) (ha : a < n) (hb : b < n) (h1 : D a ≠ -1) (h2 : L b = D a) : Leads n D L i a ↔ Leads n D L i b := by
  constructor
  · intro h
    cases h with
    | base => exact absurd (h2.trans hi) (hk b hb)
    | @step _ c _ hc _ h3 h4 =>
      by_cases e : b = c
      · rw [e]; exact h4
      · have := hL.2 b c hb hc e (h2.trans h3.symm)
        exact absurd (h2.symm.trans this) h1
  · exact fun h => .step ha hb h1 h2 h
theorem leads_not (hk : ∀ i, i < n → L i ≠ k) {i j : Nat} (hj : D j = k) (hne : j ≠ i) : ¬ Leads n D L i j := by
  intro h
  cases h with
  | base => exact hne rfl
  | @step _ b _ hb _ h3 _ => exact hk b hb (h3.trans hj)
/-- Out of a deal in which two may get the item k and one in which nobody gets it come two deals of the same total. -/
theorem two_deals' (hD : IsTwice n m k D) (hL : IsDeal n m L) (hk : ∀ i, i < n → L i ≠ k) : ∃ A B, IsDeal n m A ∧ IsDeal n m B ∧ ∀ i, i < n → (A i = D i ∧ B i = L i) ∨ (A i = L i ∧ B i = D i) := by
  classical
  by_cases h : ∃ i j, i < n ∧ j < n ∧ i ≠ j ∧ D i = k ∧ D j = k
  · obtain ⟨i, j, hi, hj, hij, e1, e2⟩ := h
    have hnot := leads_not hk e2 (Ne.symm hij)
    refine ⟨fun a => if Leads n D L i a then L a else D a, fun a => if Leads n D L i a then D a else L a, ⟨fun a ha => ?_, fun a b ha hb hab e => ?_⟩, ⟨fun a ha => ?_, fun a b ha hb hab e => ?_⟩, fun a ha => ?_⟩
    · by_cases q : Leads n D L i a
      · simp only [if_pos q]; exact hL.1 a ha
      · simp only [if_neg q]; exact hD.1 a ha
    · by_cases q : Leads n D L i a <;> by_cases r : Leads n D L i b
      · simp only [if_pos q, if_pos r] at e ⊢
        exact hL.2 a b ha hb hab e
      · simp only [if_pos q, if_neg r] at e ⊢
        by_cases e3 : L a = -1
        · exact e3
        · exact absurd ((leads_iff hL hk e1 hb ha (by rw [← e]; exact e3) e).2 q) r
      · simp only [if_neg q, if_pos r] at e ⊢
        by_cases e3 : D a = -1
        · exact e3
        · exact absurd ((leads_iff hL hk e1 ha hb e3 e.symm).2 r) q
      · simp only [if_neg q, if_neg r] at e ⊢
        rcases hD.2.1 a b ha hb hab e with e3 | e3
        · exact e3
        · exact (hD.2.2 a b i ha hb hi hab (fun h => q (h ▸ .base)) (fun h => r (h ▸ .base)) e3 (e ▸ e3) e1).elim
    · by_cases q : Leads n D L i a
      · simp only [if_pos q]; exact hD.1 a ha
      · simp only [if_neg q]; exact hL.1 a ha
    · by_cases q : Leads n D L i a <;> by_cases r : Leads n D L i b
      · simp only [if_pos q, if_pos r] at e ⊢
        rcases hD.2.1 a b ha hb hab e with e3 | e3
        · exact e3
        · exact (hD.2.2 a b j ha hb hj hab (fun h => hnot (h ▸ q)) (fun h => hnot (h ▸ r)) e3 (e ▸ e3) e2).elim
      · simp only [if_pos q, if_neg r] at e ⊢
        by_cases e3 : D a = -1
        · exact e3
        · exact absurd ((leads_iff hL hk e1 ha hb e3 e.symm).1 q) r
      · simp only [if_neg q, if_pos r] at e ⊢
        by_cases e3 : L a = -1
        · exact e3
        · exact absurd ((leads_iff hL hk e1 hb ha (by rw [← e]; exact e3) e).1 r) q
      · simp only [if_neg q, if_neg r] at e ⊢
        exact hL.2 a b ha hb hab e
    · by_cases q : Leads n D L i a
      · exact .inr ⟨if_pos q, if_pos q⟩
      · exact .inl ⟨if_neg q, if_neg q⟩
  · refine ⟨D, L, ⟨hD.1, fun a b ha hb hab e => ?_⟩, hL, fun i _ => .inl ⟨rfl, rfl⟩⟩
    rcases hD.2.1 a b ha hb hab e with e3 | e3
    · exact e3
    · exact absurd ⟨a, b, ha, hb, hab, e3, e ▸ e3⟩ h
theorem two_deals (hD : IsTwice n m k D) (hL : IsDeal n m L) (hk : ∀ i, i < n → L i ≠ k) (Z : Nat → Nat → Int) : ∃ A B, IsDeal n m A ∧ IsDeal n m B ∧ dealT Z A n + dealT Z B n = dealT Z D n + dealT Z L n := by
  obtain ⟨A, B, h1, h2, h3⟩ := two_deals' hD hL hk
  exact ⟨A, B, h1, h2, dealT_pair n h3⟩
/-- A sum of the first k numbers. -/
def sumZ (f : Nat → Int) : Nat → Int
  | 0 => 0
  | k + 1 => sumZ f k + f k
theorem sumZ_congr {f g : Nat → Int} : ∀ (q : Nat), (∀ i, i < q → f i = g i) → sumZ f q = sumZ g q
  | 0, _ => rfl
  | q + 1, h => by show sumZ f q + f q = sumZ g q + g q; rw [sumZ_congr q fun i hi => h i (by omega), h q (by omega)]
theorem sumZ_zero {f : Nat → Int} : ∀ (q : Nat), (∀ i, i < q → f i = 0) → sumZ f q = 0
  | 0, _ => rfl
  | q + 1, h => by show sumZ f q + f q = 0; rw [sumZ_zero q fun i hi => h i (by omega), h q (by omega)]; rfl
theorem sumZ_add {f g : Nat → Int} : ∀ (q : Nat), sumZ (fun i => f i + g i) q = sumZ f q + sumZ g q
  | 0 => rfl
  | q + 1 => by show sumZ (fun i => f i + g i) q + (f q + g q) = sumZ f q + f q + (sumZ g q + g q); rw [sumZ_add q]; omega
theorem sumZ_le {f g : Nat → Int} : ∀ (q : Nat), (∀ i, i < q → f i ≤ g i) → sumZ f q ≤ sumZ g q
  | 0, _ => Int.le_refl _
  | q + 1, h => by
    have h1 := sumZ_le q fun i hi => h i (by omega)
    have h2 := h q (by omega)
    show sumZ f q + f q ≤ sumZ g q + g q
    omega
theorem sumZ_swap {F : Nat → Nat → Int} (p : Nat) : ∀ (q : Nat), sumZ (fun i => sumZ (F i) p) q = sumZ (fun x => sumZ (fun i => F i x) q) p
  | 0 => (sumZ_zero p fun _ _ => rfl).symm
  | q + 1 => by
    show sumZ (fun i => sumZ (F i) p) q + sumZ (F q) p = sumZ (fun x => sumZ (fun i => F i x) q + F q x) p
    rw [sumZ_swap p q, sumZ_add]
/-- Just one of the first q numbers is not 0. -/
theorem sumZ_one {f : Nat → Int} {x : Nat} : ∀ (q : Nat), x < q → (∀ i, i < q → i ≠ x → f i = 0) → sumZ f q = f x
  | 0, h, _ => absurd h (Nat.not_lt_zero _)
  | q + 1, h, h0 => by
    show sumZ f q + f q = f x
    by_cases e : x = q
    · subst e
      rw [sumZ_zero x fun i hi => h0 i (by omega) (by omega)]
      omega
    · rw [sumZ_one q (by omega) fun i hi hne => h0 i (by omega) hne, h0 q (by omega) (by omega)]
      omega
theorem dealT_sum : ∀ (q : Nat), dealT Z D q = sumZ (fun i => if D i = -1 then 0 else Z i (D i).toNat) q
  | 0 => rfl
  | q + 1 => by show dealT Z D q + _ = sumZ _ q + _; rw [dealT_sum q]
/-- A deal's total as a sum over all bidders and items. -/
theorem dealT_cells (h : IsDeal n m D) : dealT Z D n = sumZ (fun i => sumZ (fun x => if D i = (x : Int) then Z i x else 0) m) n := by
  rw [dealT_sum]
  refine sumZ_congr n fun i hi => ?_
  have hr := h.1 i hi
  by_cases e : D i = -1
  · rw [if_pos e, sumZ_zero m fun x _ => if_neg (by omega)]
  · obtain ⟨y, hy⟩ := Int.eq_ofNat_of_zero_le (show 0 ≤ D i by omega)
    rw [if_neg e, sumZ_one (x := y) m (by omega) fun x _ hne => if_neg (by omega), if_pos hy, hy, Int.toNat_natCast]
open Classical in
/-- Who gets the item x. -/
noncomputable def whoGets (n : Nat) (D : Nat → Int) (x : Nat) : Int := if h : ∃ i, i < n ∧ D i = (x : Int) then (Classical.choose h : Nat) else -1
theorem who_is (h : IsDeal n m D) {i x : Nat} (hi : i < n) : whoGets n D x = (i : Int) ↔ D i = (x : Int) := by
  unfold whoGets
  constructor
  · intro e
    by_cases hx : ∃ i, i < n ∧ D i = (x : Int)
    · rw [dif_pos hx] at e
      have hc := Classical.choose_spec hx
      have : Classical.choose hx = i := by omega
      rw [this] at hc
      exact hc.2
    · rw [dif_neg hx] at e
      omega
  · intro e
    have hx : ∃ i, i < n ∧ D i = (x : Int) := ⟨i, hi, e⟩
    rw [dif_pos hx]
    have hc := Classical.choose_spec hx
    by_cases e2 : Classical.choose hx = i
    · rw [e2]
    · have := h.2 _ _ hc.1 hi e2 (hc.2.trans e.symm)
      omega
theorem who_range (D : Nat → Int) (n x : Nat) : -1 ≤ whoGets n D x ∧ whoGets n D x < n := by
  unfold whoGets
  by_cases hx : ∃ i, i < n ∧ D i = (x : Int)
  · rw [dif_pos hx]
    have hc := (Classical.choose_spec hx).1
    omega
  · rw [dif_neg hx]
    omega
theorem who_deal (h : IsDeal n m D) : IsDeal m n (whoGets n D) := by
  refine ⟨fun x _ => who_range D n x, fun x y _ _ hne e => ?_⟩
  have hr := who_range D n x
  by_cases e1 : whoGets n D x = -1
  · exact e1
  · obtain ⟨i, hi⟩ := Int.eq_ofNat_of_zero_le (show 0 ≤ whoGets n D x by omega)
    have hin : i < n := by omega
    have h1 := (who_is h hin).1 hi
    have h2 := (who_is h hin).1 (e.symm.trans hi)
    omega
/-- Bidders and items exchanged. -/
theorem who_total (h : IsDeal n m D) : dealT (fun x i => Z i x) (whoGets n D) m = dealT Z D n := by
  rw [dealT_cells h, dealT_cells (who_deal h), sumZ_swap]
  refine sumZ_congr n fun i hi => sumZ_congr m fun x hx => ?_
  by_cases e : D i = (x : Int)
  · rw [if_pos e, if_pos ((who_is h hi).2 e)]
  · rw [if_neg e, if_neg fun e2 => e ((who_is h hi).1 e2)]
/-- A deal less what one bidder gets. -/
theorem drop_deal (h : IsDeal n m D) (b : Nat) : IsDeal n m (fun i => if i = b then -1 else D i) := by
  refine ⟨fun i hi => ?_, fun i j hi hj hne e => ?_⟩
  · by_cases e : i = b
    · simp only [if_pos e]; omega
    · simp only [if_neg e]; exact h.1 i hi
  · by_cases e1 : i = b
    · simp only [if_pos e1]
    · by_cases e2 : j = b
      · simp only [if_neg e1, if_pos e2] at e ⊢; exact e
      · simp only [if_neg e1, if_neg e2] at e ⊢; exact h.2 i j hi hj hne e
theorem drop_total (D : Nat → Int) {b : Nat} : ∀ (q : Nat), dealT Z (fun i => if i = b then -1 else D i) q = dealT Z D q - if b < q ∧ D b ≠ -1 then Z b (D b).toNat else 0
  | 0 => by simp [dealT]
  | q + 1 => by
    have ih := drop_total D (b := b) q
    show dealT Z (fun i => if i = b then -1 else D i) q + (if (if q = b then -1 else D q) = -1 then 0 else Z q (if q = b then -1 else D q).toNat) = dealT Z D q + (if D q = -1 then 0 else Z q (D q).toNat) - _
    rw [ih]
    by_cases e : q = b
    · subst e
      rw [if_pos rfl, if_neg (show ¬ (q < q ∧ D q ≠ -1) from fun h => absurd h.1 (Nat.lt_irrefl q))]
      by_cases e2 : D q = -1
      · rw [if_pos e2, if_neg (show ¬ (q < q + 1 ∧ D q ≠ -1) from fun h => h.2 e2)]; simp
      · rw [if_neg e2, if_pos (show q < q + 1 ∧ D q ≠ -1 from ⟨by omega, e2⟩)]; simp
    · rw [if_neg e]
      by_cases e2 : b < q
      · by_cases e3 : D b = -1
        · rw [if_neg (show ¬ (b < q ∧ D b ≠ -1) from fun h => h.2 e3), if_neg (show ¬ (b < q + 1 ∧ D b ≠ -1) from fun h => h.2 e3)]; omega
        · rw [if_pos (show b < q ∧ D b ≠ -1 from ⟨e2, e3⟩), if_pos (show b < q + 1 ∧ D b ≠ -1 from ⟨by omega, e3⟩)]; omega
      · rw [if_neg (show ¬ (b < q ∧ D b ≠ -1) from fun h => e2 h.1), if_neg (show ¬ (b < q + 1 ∧ D b ≠ -1) from fun h => by have := h.1; omega)]; omega
end
end Go.Proofs.Ytaipodnhnekpjaa

namespace Go.Proofs.Ytaipodnhnekpjaa
set_option linter.unusedVariables false
set_option linter.unusedSimpArgs false
open Go.RowKit

/-- One of the item k less. -/
def lessX (X : Nat → Int) (k j : Nat) : Int := if j = k then X j - 1 else X j
/-- All deals of f bidders more, in the order of lists. -/
def deals (m : Nat) : Nat → List Int → (Nat → Int) → List (List Int)
  | 0, B, _ => [B]
  | f + 1, B, X => deals m f (B ++ [-1]) X ++ (List.range m).flatMap fun k => if 0 < X k then deals m f (B ++ [(k : Int)]) (lessX X k) else []
/-- What the further bidders may get. -/
def Rest (m f : Nat) (X : Nat → Int) (T : List Int) : Prop := T.length = f ∧ (∀ t, t ∈ T → t = -1 ∨ ∃ k : Nat, k < m ∧ t = k) ∧ ∀ k : Nat, k < m → (T.count (k : Int) : Int) ≤ X k
section
variable {m : Nat}
theorem less_ge {X : Nat → Int} (hX : ∀ k, k < m → 0 ≤ X k) {k : Nat} (h : 0 < X k) : ∀ j, j < m → 0 ≤ lessX X k j := by
  intro j hj
  unfold lessX
  have := hX j hj
  by_cases e : j = k
  · subst e; rw [if_pos rfl]; omega
  · rw [if_neg e]; exact this
theorem count_step {t : Int} {T : List Int} {k : Nat} : ((t :: T).count (k : Int) : Int) = (T.count (k : Int) : Int) + if t = (k : Int) then 1 else 0 := by
  rw [List.count_cons]
  by_cases e : t = (k : Int)
  · rw [if_pos e, if_pos (by simpa using e)]; omega
  · rw [if_neg e, if_neg (by simpa using e)]; omega
theorem mem_deals : ∀ (f : Nat) (B : List Int) (X : Nat → Int) {D : List Int}, (∀ k, k < m → 0 ≤ X k) → (D ∈ deals m f B X ↔ ∃ T, D = B ++ T ∧ Rest m f X T)
  | 0, B, X, D, hX => by
    show D ∈ [B] ↔ _
    rw [List.mem_singleton]
    constructor
    · rintro rfl
      exact ⟨[], (List.append_nil _).symm, rfl, fun t h => absurd h (List.not_mem_nil), fun k hk => by simpa using hX k hk⟩
    · rintro ⟨T, rfl, hl, _⟩
      rw [List.eq_nil_of_length_eq_zero hl, List.append_nil]
  | f + 1, B, X, D, hX => by
    show D ∈ deals m f (B ++ [-1]) X ++ _ ↔ _
    rw [List.mem_append, mem_deals f _ X hX, List.mem_flatMap]
    constructor
    · rintro (⟨T, rfl, h1, h2, h3⟩ | ⟨k, hk, h⟩)
      · refine ⟨-1 :: T, by simp, by simp [h1], fun t ht => ?_, fun k hk => ?_⟩
        · rcases List.mem_cons.1 ht with e | ht
          · exact .inl e
          · exact h2 t ht
        · rw [count_step, if_neg (by omega)]
          have := h3 k hk
          omega
      · rw [List.mem_range] at hk
        by_cases e : 0 < X k
        · rw [if_pos e, mem_deals f _ _ (less_ge hX e)] at h
          obtain ⟨T, rfl, h1, h2, h3⟩ := h
          refine ⟨(k : Int) :: T, by simp, by simp [h1], fun t ht => ?_, fun j hj => ?_⟩
          · rcases List.mem_cons.1 ht with e | ht
            · exact .inr ⟨k, hk, e⟩
            · exact h2 t ht
          · rw [count_step]
            have := h3 j hj
            unfold lessX at this
            by_cases e1 : j = k
            · rw [if_pos e1] at this
              rw [if_pos (by omega)]
              omega
            · rw [if_neg e1] at this
              rw [if_neg (by omega)]
              omega
        · rw [if_neg e] at h
          exact absurd h (List.not_mem_nil)
    · rintro ⟨T, rfl, h1, h2, h3⟩
      cases T with
      | nil => simp at h1
      | cons t T =>
        have hl : T.length = f := by simpa using h1
        rcases h2 t (by simp) with e | ⟨k, hk, e⟩
        · left
          refine ⟨T, by rw [e]; simp, hl, fun u hu => h2 u (by simp [hu]), fun j hj => ?_⟩
          have := h3 j hj
          rw [count_step, if_neg (by omega)] at this
          omega
        · right
          have hxk := h3 k hk
          rw [count_step, if_pos e] at hxk
          have hpos : 0 < X k := by omega
          refine ⟨k, List.mem_range.2 hk, ?_⟩
          rw [if_pos hpos, mem_deals f _ _ (less_ge hX hpos)]
          refine ⟨T, by rw [e]; simp, hl, fun u hu => h2 u (by simp [hu]), fun j hj => ?_⟩
          have := h3 j hj
          rw [count_step] at this
          unfold lessX
          by_cases e1 : j = k
          · rw [if_pos e1]
            rw [if_pos (by omega)] at this
            omega
          · rw [if_neg e1]
            rw [if_neg (by omega)] at this
            omega
theorem deals_begin {f : Nat} {B : List Int} {X : Nat → Int} {D : List Int} (hX : ∀ k, k < m → 0 ≤ X k) (h : D ∈ deals m f B X) : B <+: D := by
  obtain ⟨T, rfl, _⟩ := (mem_deals f B X hX).1 h
  exact List.prefix_append _ _
theorem begin_clash {B D : List Int} {x y : Int} (h1 : B ++ [x] <+: D) (h2 : B ++ [y] <+: D) : x = y := by
  obtain ⟨S, rfl⟩ := h1
  obtain ⟨T, e⟩ := h2
  rw [List.append_assoc, List.append_assoc] at e
  have := List.append_cancel_left e
  simp only [List.cons_append, List.nil_append, List.cons.injEq] at this
  exact this.1.symm
theorem deals_nodup : ∀ (f : Nat) (B : List Int) (X : Nat → Int), (∀ k, k < m → 0 ≤ X k) → (deals m f B X).Nodup
  | 0, B, X, hX => by show [B].Nodup; simp
  | f + 1, B, X, hX => by
    show (deals m f (B ++ [-1]) X ++ _).Nodup
    rw [List.nodup_append]
    refine ⟨deals_nodup f _ X hX, ?_, fun a ha b hb e => ?_⟩
    · unfold List.Nodup
      rw [List.pairwise_flatMap]
      refine ⟨fun k hk => ?_, (List.pairwise_lt_range (n := m)).imp fun {k j} hkj a ha b hb e0 => ?_⟩
      · by_cases e : 0 < X k
        · rw [if_pos e]; exact deals_nodup f _ _ (less_ge hX e)
        · rw [if_neg e]; exact List.Pairwise.nil
      · subst e0
        by_cases e : 0 < X k
        · by_cases e2 : 0 < X j
          · rw [if_pos e] at ha
            rw [if_pos e2] at hb
            have := begin_clash (deals_begin (less_ge hX e) ha) (deals_begin (less_ge hX e2) hb)
            omega
          · rw [if_neg e2] at hb
            exact absurd hb (List.not_mem_nil)
        · rw [if_neg e] at ha
          exact absurd ha (List.not_mem_nil)
    · subst e
      obtain ⟨k, hk, h⟩ := List.mem_flatMap.1 hb
      by_cases e : 0 < X k
      · rw [if_pos e] at h
        have := begin_clash (deals_begin hX ha) (deals_begin (less_ge hX e) h)
        omega
      · rw [if_neg e] at h
        exact absurd h (List.not_mem_nil)
end
end Go.Proofs.Ytaipodnhnekpjaa

namespace Go.Proofs.Ytaipodnhnekpjaa
set_option linter.unusedVariables false
set_option linter.unusedSimpArgs false
open Go.RowKit

/-- How many of the first q numbers are x. -/
def cntN (C : Nat → Int) (x : Int) : Nat → Nat
  | 0 => 0
  | q + 1 => cntN C x q + if C q = x then 1 else 0
section
variable {C : Nat → Int} {x : Int}
theorem cnt_front (C : Nat → Int) (x : Int) : ∀ (q : Nat), cntN C x (q + 1) = cntN (fun i => C (i + 1)) x q + if C 0 = x then 1 else 0
  | 0 => by show 0 + _ = 0 + _; rfl
  | q + 1 => by
    show cntN C x (q + 1) + (if C (q + 1) = x then 1 else 0) = cntN (fun i => C (i + 1)) x q + (if C (q + 1) = x then 1 else 0) + _
    rw [cnt_front C x q]; omega
theorem cnt_list (x : Int) : ∀ (T : List Int), T.count x = cntN (nth T) x T.length
  | [] => rfl
  | t :: T => by
    rw [List.count_cons, List.length_cons, cnt_front, cnt_list x T]
    have h0 : nth (t :: T) 0 = t := by unfold nth; simp
    have h1 : (fun i => nth (t :: T) (i + 1)) = nth T := by funext i; unfold nth; simp
    rw [h0, h1]
    by_cases e : t = x
    · rw [if_pos e, if_pos (by simpa using e)]
    · rw [if_neg e, if_neg (by simpa using e)]
theorem cnt_none : ∀ {q : Nat}, cntN C x q = 0 ↔ ∀ i, i < q → C i ≠ x
  | 0 => by simp [cntN]
  | q + 1 => by
    show cntN C x q + (if C q = x then 1 else 0) = 0 ↔ _
    constructor
    · intro h i hi
      have h1 : cntN C x q = 0 := by omega
      by_cases e : i = q
      · subst e
        intro e2
        rw [if_pos e2] at h
        omega
      · exact (cnt_none (q := q)).1 h1 i (by omega)
    · intro h
      rw [(cnt_none (q := q)).2 fun i hi => h i (by omega), if_neg (h q (by omega))]
theorem cnt_one : ∀ {q : Nat}, cntN C x q ≤ 1 ↔ ∀ i j, i < q → j < q → i ≠ j → C i = x → C j = x → False
  | 0 => by simp [cntN]
  | q + 1 => by
    have ih := cnt_one (q := q)
    have ihn := cnt_none (C := C) (x := x) (q := q)
    show cntN C x q + (if C q = x then 1 else 0) ≤ 1 ↔ _
    constructor
    · intro h i j hi hj hne h1 h2
      by_cases e : C q = x
      · rw [if_pos e] at h
        have h0 := ihn.1 (by omega)
        by_cases ei : i = q
        · exact h0 j (by omega) h2
        · exact h0 i (by omega) h1
      · by_cases ei : i = q
        · exact e (ei ▸ h1)
        · by_cases ej : j = q
          · exact e (ej ▸ h2)
          · exact ih.1 (by omega) i j (by omega) (by omega) hne h1 h2
    · intro h
      by_cases e : C q = x
      · rw [if_pos e, ihn.2 fun i hi e2 => h i q (by omega) (by omega) (by omega) e2 e]; omega
      · rw [if_neg e]
        have := ih.2 fun i j hi hj hne h1 h2 => h i j (by omega) (by omega) hne h1 h2
        omega
theorem cnt_two : ∀ {q : Nat}, cntN C x q ≤ 2 ↔ ∀ h i j, h < q → i < q → j < q → h ≠ i → h ≠ j → i ≠ j → C h = x → C i = x → C j = x → False
  | 0 => by simp [cntN]
  | q + 1 => by
    have ih := cnt_two (q := q)
    have ih1 := cnt_one (C := C) (x := x) (q := q)
    show cntN C x q + (if C q = x then 1 else 0) ≤ 2 ↔ _
    constructor
    · intro hc h i j hh hi hj n1 n2 n3 h1 h2 h3
      by_cases e : C q = x
      · rw [if_pos e] at hc
        have h0 := ih1.1 (by omega)
        by_cases eh : h = q
        · exact h0 i j (by omega) (by omega) n3 h2 h3
        · by_cases ei : i = q
          · exact h0 h j (by omega) (by omega) n2 h1 h3
          · exact h0 h i (by omega) (by omega) n1 h1 h2
      · have hlt : ∀ y, y < q + 1 → C y = x → y < q := fun y hy hx => by
          by_cases ey : y = q
          · exact absurd (ey ▸ hx) e
          · omega
        exact ih.1 (by omega) h i j (hlt h hh h1) (hlt i hi h2) (hlt j hj h3) n1 n2 n3 h1 h2 h3
    · intro hc
      by_cases e : C q = x
      · rw [if_pos e]
        have := ih1.2 fun i j hi hj hne h1 h2 => hc i j q (by omega) (by omega) (by omega) hne (by omega) (by omega) h1 h2 e
        omega
      · rw [if_neg e]
        have := ih.2 fun h i j hh hi hj n1 n2 n3 h1 h2 h3 => hc h i j (by omega) (by omega) (by omega) n1 n2 n3 h1 h2 h3
        omega
end
/-- One of each item, c of the item k. -/
def itemsX (k : Nat) (c : Int) (j : Nat) : Int := if j = k then c else 1
/-- All numbers of a list are items or -1. -/
theorem rest_range {m : Nat} {T : List Int} : (∀ t, t ∈ T → t = -1 ∨ ∃ k : Nat, k < m ∧ t = k) ↔ ∀ i, i < T.length → -1 ≤ nth T i ∧ nth T i < m := by
  constructor
  · intro h i hi
    have hm : nth T i ∈ T := by unfold nth; rw [List.getD_eq_getElem?_getD, List.getElem?_eq_getElem hi]; exact List.getElem_mem hi
    rcases h _ hm with e | ⟨k, hk, e⟩ <;> omega
  · intro h t ht
    obtain ⟨i, hi, e⟩ := List.mem_iff_getElem.1 ht
    have hn : nth T i = t := by unfold nth; rw [List.getD_eq_getElem?_getD, List.getElem?_eq_getElem hi]; exact e
    have := h i hi
    rw [hn] at this
    by_cases e1 : t = -1
    · exact .inl e1
    · exact .inr ⟨t.toNat, by omega, by omega⟩
section
variable {n m : Nat} {D : List Int}
theorem mem_deal (k : Nat) : D ∈ deals m n [] (itemsX k 1) ↔ D.length = n ∧ IsDeal n m (nth D) := by
  rw [mem_deals n [] _ (fun j _ => by unfold itemsX; split <;> omega)]
  constructor
  · rintro ⟨_, rfl, h1, h2, h3⟩
    subst h1
    refine ⟨rfl, rest_range.1 h2, fun i j hi hj hne e => ?_⟩
    by_cases e1 : nth D i = -1
    · exact e1
    · have hr := rest_range.1 h2 i hi
      have hc := h3 (nth D i).toNat (by omega)
      unfold itemsX at hc
      rw [cnt_list, show (if (nth D i).toNat = k then (1 : Int) else 1) = 1 by split <;> rfl] at hc
      exact ((cnt_one (C := nth D) (x := (((nth D i).toNat : Nat) : Int)) (q := D.length)).1 (by omega) i j hi hj hne (by omega) (by omega)).elim
  · rintro ⟨h1, h2⟩
    subst h1
    refine ⟨D, (List.nil_append D).symm, rfl, rest_range.2 h2.1, fun j hj => ?_⟩
    rw [cnt_list]
    unfold itemsX
    rw [show (if j = k then (1 : Int) else 1) = 1 by split <;> rfl]
    have := (cnt_one (C := nth D) (x := (j : Int)) (q := D.length)).2 fun a b ha hb hne e1 e2 => by
      have := h2.2 a b ha hb hne (e1.trans e2.symm)
      omega
    omega
theorem mem_less {k : Nat} (hk : k < m) : D ∈ deals m n [] (itemsX k 0) ↔ D.length = n ∧ IsDeal n m (nth D) ∧ ∀ i, i < n → nth D i ≠ (k : Int) := by
  rw [mem_deals n [] _ (fun j _ => by unfold itemsX; split <;> omega)]
  constructor
  · rintro ⟨_, rfl, h1, h2, h3⟩
    subst h1
    have hk0 := h3 k hk
    unfold itemsX at hk0
    rw [if_pos rfl, cnt_list] at hk0
    have hno := (cnt_none (C := nth D) (x := (k : Int)) (q := D.length)).1 (by omega)
    refine ⟨rfl, ⟨rest_range.1 h2, fun i j hi hj hne e => ?_⟩, hno⟩
    by_cases e1 : nth D i = -1
    · exact e1
    · have hr := rest_range.1 h2 i hi
      have hc := h3 (nth D i).toNat (by omega)
      unfold itemsX at hc
      have hne2 := hno i hi
      rw [cnt_list, if_neg (by omega)] at hc
      exact ((cnt_one (C := nth D) (x := (((nth D i).toNat : Nat) : Int)) (q := D.length)).1 (by omega) i j hi hj hne (by omega) (by omega)).elim
  · rintro ⟨h1, h2, h3⟩
    subst h1
    refine ⟨D, (List.nil_append D).symm, rfl, rest_range.2 h2.1, fun j hj => ?_⟩
    rw [cnt_list]
    unfold itemsX
    by_cases e : j = k
    · rw [if_pos e, e, (cnt_none (C := nth D)).2 h3]; exact Int.le_refl _
    · rw [if_neg e]
      have := (cnt_one (C := nth D) (x := (j : Int)) (q := D.length)).2 fun a b ha hb hne e1 e2 => by
        have := h2.2 a b ha hb hne (e1.trans e2.symm)
        omega
      omega
theorem mem_twice {k : Nat} (hk : k < m) : D ∈ deals m n [] (itemsX k 2) ↔ D.length = n ∧ IsTwice n m k (nth D) := by
  rw [mem_deals n [] _ (fun j _ => by unfold itemsX; split <;> omega)]
  constructor
  · rintro ⟨_, rfl, h1, h2, h3⟩
    subst h1
    have hk0 := h3 k hk
    unfold itemsX at hk0
    rw [if_pos rfl, cnt_list] at hk0
    refine ⟨rfl, rest_range.1 h2, fun i j hi hj hne e => ?_, cnt_two.1 (by omega)⟩
    by_cases e1 : nth D i = -1
    · exact .inl e1
    · by_cases e2 : nth D i = (k : Int)
      · exact .inr e2
      · have hr := rest_range.1 h2 i hi
        have hc := h3 (nth D i).toNat (by omega)
        unfold itemsX at hc
        rw [cnt_list, if_neg (by omega)] at hc
        exact ((cnt_one (C := nth D) (x := (((nth D i).toNat : Nat) : Int)) (q := D.length)).1 (by omega) i j hi hj hne (by omega) (by omega)).elim
  · rintro ⟨h1, h2, h3, h4⟩
    subst h1
    refine ⟨D, (List.nil_append D).symm, rfl, rest_range.2 h2, fun j hj => ?_⟩
    rw [cnt_list]
    unfold itemsX
    by_cases e : j = k
    · rw [if_pos e, e]
      have := (cnt_two (C := nth D) (x := (k : Int)) (q := D.length)).2 h4
      omega
    · rw [if_neg e]
      have := (cnt_one (C := nth D) (x := (j : Int)) (q := D.length)).2 fun a b ha hb hne e1 e2 => by
        rcases h3 a b ha hb hne (e1.trans e2.symm) with e3 | e3 <;> omega
      omega
/-- The greatest total of some deals, 0 at least. -/
def mostT (n : Nat) (Z : Nat → Nat → Int) (DD : List (List Int)) : Int := DD.foldl (fun b D => max b (dealT Z (nth D) n)) 0
theorem mostF_ge (f : List Int → Int) : ∀ (DD : List (List Int)) (b : Int), b ≤ DD.foldl (fun b D => max b (f D)) b ∧ ∀ D, D ∈ DD → f D ≤ DD.foldl (fun b D => max b (f D)) b
  | [], b => ⟨Int.le_refl _, fun D h => absurd h List.not_mem_nil⟩
  | E :: DD, b => by
    obtain ⟨h1, h2⟩ := mostF_ge f DD (max b (f E))
    show b ≤ DD.foldl _ (max b (f E)) ∧ _
    refine ⟨by omega, fun D hD => ?_⟩
    show f D ≤ DD.foldl _ (max b (f E))
    rcases List.mem_cons.1 hD with rfl | hD
    · omega
    · exact h2 D hD
theorem mostF_is (f : List Int → Int) : ∀ (DD : List (List Int)) (b : Int), DD.foldl (fun b D => max b (f D)) b = b ∨ ∃ D, D ∈ DD ∧ f D = DD.foldl (fun b D => max b (f D)) b
  | [], b => .inl rfl
  | E :: DD, b => by
    show DD.foldl _ (max b (f E)) = b ∨ ∃ D, D ∈ E :: DD ∧ f D = DD.foldl _ (max b (f E))
    rcases mostF_is f DD (max b (f E)) with e | ⟨D, hD, e⟩
    · rw [e]
      by_cases h : b ≤ f E
      · exact .inr ⟨E, by simp, by omega⟩
      · exact .inl (by omega)
    · exact .inr ⟨D, by simp [hD], e⟩
end
end Go.Proofs.Ytaipodnhnekpjaa

namespace Go.Proofs.Ytaipodnhnekpjaa
set_option linter.unusedVariables false
set_option linter.unusedSimpArgs false
open Go.RowKit

/-- The greatest totals: of deals, without a bidder, without an item, with an item twice. -/
def bestV (n m : Nat) (Z : Nat → Nat → Int) : Int := mostT n Z (deals m n [] (itemsX 0 1))
def withoutV (n m : Nat) (Z : Nat → Nat → Int) (i : Nat) : Int := mostT n Z ((deals m n [] (itemsX 0 1)).filter fun D => decide (nth D i < 0))
def lessV (n m : Nat) (Z : Nat → Nat → Int) (k : Nat) : Int := mostT n Z (deals m n [] (itemsX k 0))
def twiceV (n m : Nat) (Z : Nat → Nat → Int) (k : Nat) : Int := mostT n Z (deals m n [] (itemsX k 2))
/-- A function's first n numbers as a list. -/
def ofF (n : Nat) (D : Nat → Int) : List Int := (List.range n).map D
section
variable {n m : Nat} {D : Nat → Int} {Z : Nat → Nat → Int} {k : Nat}
theorem ofF_len (n : Nat) (D : Nat → Int) : (ofF n D).length = n := by unfold ofF; simp
theorem ofF_nth {i : Nat} (h : i < n) : nth (ofF n D) i = D i := by unfold nth ofF; simp [h]
theorem ofF_total : dealT Z (nth (ofF n D)) n = dealT Z D n := dealT_congr n fun i hi => ofF_nth hi
theorem deal_congr {E : Nat → Int} (e : ∀ i, i < n → D i = E i) (h : IsDeal n m D) : IsDeal n m E :=
  ⟨fun i hi => by rw [← e i hi]; exact h.1 i hi, fun i j hi hj hne he => by rw [← e i hi]; exact h.2 i j hi hj hne (by rw [e i hi, e j hj]; exact he)⟩
theorem twice_congr {E : Nat → Int} {x : Int} (e : ∀ i, i < n → D i = E i) (h : IsTwice n m x D) : IsTwice n m x E :=
  ⟨fun i hi => by rw [← e i hi]; exact h.1 i hi, fun i j hi hj hne he => by rw [← e i hi]; exact h.2.1 i j hi hj hne (by rw [e i hi, e j hj]; exact he),
    fun a b c ha hb hc h1 h2 h3 e1 e2 e3 => h.2.2 a b c ha hb hc h1 h2 h3 ((e a ha).trans e1) ((e b hb).trans e2) ((e c hc).trans e3)⟩
theorem none_deal (n m : Nat) : IsDeal n m (fun _ => -1) := ⟨fun i hi => ⟨Int.le_refl _, show (-1 : Int) < (m : Int) by omega⟩, fun _ _ _ _ _ _ => rfl⟩
theorem none_total (Z : Nat → Nat → Int) : ∀ q, dealT Z (fun _ => -1) q = 0
  | 0 => rfl
  | q + 1 => by show dealT Z (fun _ => -1) q + (if (-1 : Int) = -1 then 0 else _) = 0; rw [none_total Z q, if_pos rfl]; rfl
theorem mostT_ge {DD : List (List Int)} {E : List Int} (h : E ∈ DD) : dealT Z (nth E) n ≤ mostT n Z DD := (mostF_ge (fun D => dealT Z (nth D) n) DD 0).2 E h
theorem mostT_is (DD : List (List Int)) : mostT n Z DD = 0 ∨ ∃ E, E ∈ DD ∧ dealT Z (nth E) n = mostT n Z DD := mostF_is (fun D => dealT Z (nth D) n) DD 0
theorem deal_mem (h : IsDeal n m D) (k : Nat) : ofF n D ∈ deals m n [] (itemsX k 1) := (mem_deal k).2 ⟨ofF_len n D, deal_congr (fun i hi => (ofF_nth hi).symm) h⟩
theorem best_ge (h : IsDeal n m D) : dealT Z D n ≤ bestV n m Z := by
  rw [← ofF_total]
  exact mostT_ge (deal_mem h 0)
theorem best_is (n m : Nat) (Z : Nat → Nat → Int) : ∃ D, IsDeal n m D ∧ dealT Z D n = bestV n m Z := by
  rcases mostT_is (n := n) (Z := Z) (deals m n [] (itemsX 0 1)) with e | ⟨E, hE, e⟩
  · exact ⟨_, none_deal n m, (none_total Z n).trans e.symm⟩
  · exact ⟨nth E, ((mem_deal 0).1 hE).2, e⟩
theorem without_ge {b : Nat} (hb : b < n) (h : IsDeal n m D) (h1 : D b = -1) : dealT Z D n ≤ withoutV n m Z b := by
  rw [← ofF_total]
  exact mostT_ge (List.mem_filter.2 ⟨deal_mem h 0, by rw [decide_eq_true_iff, ofF_nth hb, h1]; omega⟩)
theorem without_is (n m : Nat) (Z : Nat → Nat → Int) {b : Nat} (hb : b < n) : ∃ D, IsDeal n m D ∧ D b = -1 ∧ dealT Z D n = withoutV n m Z b := by
  rcases mostT_is (n := n) (Z := Z) ((deals m n [] (itemsX 0 1)).filter fun D => decide (nth D b < 0)) with e | ⟨E, hE, e⟩
  · exact ⟨_, none_deal n m, rfl, (none_total Z n).trans e.symm⟩
  · rw [List.mem_filter, decide_eq_true_iff] at hE
    have hd := ((mem_deal 0).1 hE.1).2
    have := hd.1 b hb
    exact ⟨nth E, hd, by omega, e⟩
theorem less_ge' (hk : k < m) (h : IsDeal n m D) (h1 : ∀ i, i < n → D i ≠ (k : Int)) : dealT Z D n ≤ lessV n m Z k := by
  rw [← ofF_total]
  exact mostT_ge ((mem_less hk).2 ⟨ofF_len n D, deal_congr (fun i hi => (ofF_nth hi).symm) h, fun i hi => by rw [ofF_nth hi]; exact h1 i hi⟩)
theorem less_is (n : Nat) (Z : Nat → Nat → Int) (hk : k < m) : ∃ D, IsDeal n m D ∧ (∀ i, i < n → D i ≠ (k : Int)) ∧ dealT Z D n = lessV n m Z k := by
  rcases mostT_is (n := n) (Z := Z) (deals m n [] (itemsX k 0)) with e | ⟨E, hE, e⟩
  · exact ⟨_, none_deal n m, fun i _ => by omega, (none_total Z n).trans e.symm⟩
  · have h := (mem_less hk).1 hE
    exact ⟨nth E, h.2.1, h.2.2, e⟩
theorem twice_ge (hk : k < m) (h : IsTwice n m k D) : dealT Z D n ≤ twiceV n m Z k := by
  rw [← ofF_total]
  exact mostT_ge ((mem_twice hk).2 ⟨ofF_len n D, twice_congr (fun i hi => (ofF_nth hi).symm) h⟩)
theorem deal_twice (h : IsDeal n m D) (k : Nat) : IsTwice n m k D :=
  ⟨h.1, fun i j hi hj hne e => .inl (h.2 i j hi hj hne e), fun a b c ha hb hc h1 _ _ e1 e2 _ => by have := h.2 a b ha hb h1 (e1.trans e2.symm); omega⟩
theorem twice_is (n : Nat) (Z : Nat → Nat → Int) (hk : k < m) : ∃ D, IsTwice n m k D ∧ dealT Z D n = twiceV n m Z k := by
  rcases mostT_is (n := n) (Z := Z) (deals m n [] (itemsX k 2)) with e | ⟨E, hE, e⟩
  · exact ⟨_, deal_twice (none_deal n m) k, (none_total Z n).trans e.symm⟩
  · exact ⟨nth E, ((mem_twice hk).1 hE).2, e⟩

/-- Without a bidder: at most as much, and at least that less the bidder's greatest number. -/
theorem without_le {b : Nat} (hb : b < n) : withoutV n m Z b ≤ bestV n m Z := by
  obtain ⟨D, h1, _, h3⟩ := without_is n m Z hb
  rw [← h3]; exact best_ge h1
theorem without_near {b : Nat} (hb : b < n) {M : Int} (hM0 : 0 ≤ M) (hM : ∀ x, x < m → Z b x ≤ M) : bestV n m Z - M ≤ withoutV n m Z b := by
  obtain ⟨D, h1, h2⟩ := best_is n m Z
  have h3 := without_ge (Z := Z) hb (drop_deal h1 b) (if_pos rfl)
  rw [drop_total, h2] at h3
  by_cases e : b < n ∧ D b ≠ -1
  · rw [if_pos e] at h3
    have hr := h1.1 b hb
    have := hM (D b).toNat (by omega)
    omega
  · rw [if_neg e] at h3
    omega
/-- Without an item: the same. -/
theorem less_le (hk : k < m) : lessV n m Z k ≤ bestV n m Z := by
  obtain ⟨D, h1, _, h3⟩ := less_is n Z hk
  rw [← h3]; exact best_ge h1
theorem less_near (hk : k < m) {M : Int} (hM0 : 0 ≤ M) (hM : ∀ i, i < n → Z i k ≤ M) : bestV n m Z - M ≤ lessV n m Z k := by
  obtain ⟨D, h1, h2⟩ := best_is n m Z
  by_cases h : ∃ b, b < n ∧ D b = (k : Int)
  · obtain ⟨b, hb, e⟩ := h
    have h3 := less_ge' (Z := Z) hk (drop_deal h1 b) fun i hi => by
      by_cases ei : i = b
      · rw [if_pos ei]; omega
      · rw [if_neg ei]
        intro e2
        have := h1.2 i b hi hb ei (e2.trans e.symm)
        omega
    rw [drop_total, h2, if_pos ⟨hb, by omega⟩, e, Int.toNat_natCast] at h3
    have := hM b hb
    omega
  · have h3 := less_ge' (Z := Z) hk h1 fun i hi e => h ⟨i, hi, e⟩
    omega
/-- With an item twice: at least as much, and it gains at most what the item itself does. -/
theorem twice_least (hk : k < m) : bestV n m Z ≤ twiceV n m Z k := by
  obtain ⟨D, h1, h2⟩ := best_is n m Z
  rw [← h2]; exact twice_ge hk (deal_twice h1 k)
theorem twice_gain (hk : k < m) : twiceV n m Z k - bestV n m Z ≤ bestV n m Z - lessV n m Z k := by
  obtain ⟨D, h1, h2⟩ := twice_is n Z hk
  obtain ⟨L, h3, h4, h5⟩ := less_is n Z hk
  obtain ⟨A, B, hA, hB, e⟩ := two_deals h1 h3 h4 Z
  have a1 := best_ge (Z := Z) hA
  have a2 := best_ge (Z := Z) hB
  omega
/-- Bidders and items exchanged. -/
theorem best_swap_le : bestV n m Z ≤ bestV m n (fun x i => Z i x) := by
  obtain ⟨D, h1, h2⟩ := best_is n m Z
  rw [← h2, ← who_total h1]
  exact best_ge (who_deal h1)
theorem best_swap : bestV m n (fun x i => Z i x) = bestV n m Z := Int.le_antisymm (best_swap_le (Z := fun x i => Z i x)) best_swap_le
/-- At most the sum of the greatest number of each bidder. -/
theorem best_sum {M : Nat → Int} (hM0 : ∀ i, i < n → 0 ≤ M i) (hM : ∀ i x, i < n → x < m → Z i x ≤ M i) : bestV n m Z ≤ sumZ M n := by
  obtain ⟨D, h1, h2⟩ := best_is n m Z
  rw [← h2, dealT_sum]
  refine sumZ_le n fun i hi => ?_
  have hr := h1.1 i hi
  by_cases e : D i = -1
  · rw [if_pos e]; exact hM0 i hi
  · rw [if_neg e]; exact hM i _ hi (by omega)
/-- A number is a total. -/
theorem best_cell {i x : Nat} (hi : i < n) (hx : x < m) : Z i x ≤ bestV n m Z := by
  have hd : IsDeal n m (fun j => if j = i then (x : Int) else -1) := by
    refine ⟨fun j hj => ?_, fun a b ha hb hne e => ?_⟩
    · by_cases e : j = i
      · simp only [if_pos e]; omega
      · simp only [if_neg e]; omega
    · by_cases e1 : a = i
      · by_cases e2 : b = i
        · exact absurd (e1.trans e2.symm) hne
        · simp only [if_pos e1, if_neg e2] at e; omega
      · simp only [if_neg e1]
  have h1 := best_ge (Z := Z) hd
  have h2 : dealT Z (fun j => if j = i then (x : Int) else -1) n = Z i x := by
    rw [dealT_sum, sumZ_one (x := i) n hi fun j hj hne => by simp [hne]]
    rw [if_pos rfl, if_neg (show ¬ (x : Int) = -1 by omega), Int.toNat_natCast]
  omega
end
end Go.Proofs.Ytaipodnhnekpjaa

namespace Go.Proofs.Ytaipodnhnekpjaa
set_option linter.unusedVariables false
set_option linter.unusedSimpArgs false
open Go.RowKit

/-- A list is bids. -/
def IsBids (n : Nat) (L : Nat → Nat) (Z : Nat → Nat → Int) : Prop :=
  ((1 ≤ n ∧ n ≤ 4) ∧ (1 ≤ L 0 ∧ L 0 ≤ 4)) ∧ ∀ r, r < n → L r = L 0 ∧ ∀ k, k < L 0 → 0 ≤ Z r k ∧ Z r k ≤ 20
/-- Bids and a deal. -/
def DealOk (n : Nat) (L : Nat → Nat) (Z : Nat → Nat → Int) (q : Nat) (D : Nat → Int) : Prop := (IsBids n L Z ∧ IsDeal q (L 0) D) ∧ q = n

/-- All deals of one bidder more. -/
def extD (m : Nat) (D : List Int) : List (List Int) := (D ++ [-1]) :: (List.range m).flatMap fun (k : Nat) => if (k : Int) ∈ D then [] else [D ++ [(k : Int)]]
/-- All deals of the first i bidders. -/
def dealsP (m : Nat) : Nat → List (List Int)
  | 0 => [[]]
  | i + 1 => (dealsP m i).flatMap (extD m)
/-- All deals that begin with D, of f bidders more. -/
def dealsD (m : Nat) : Nat → List Int → List (List Int)
  | 0, D => [D]
  | f + 1, D => (extD m D).flatMap (dealsD m f)
/-- Those of the items below t - 1. -/
def extTo (D : List Int) : Nat → List (List Int)
  | 0 => []
  | t + 1 => extTo D t ++ if t = 0 then [D ++ [-1]] else if ((t : Int) - 1) ∈ D then [] else [D ++ [(t : Int) - 1]]
section
variable {m : Nat}
theorem extTo_all (D : List Int) : ∀ m, extTo D (m + 1) = extD m D
  | 0 => by simp [extTo, extD]
  | m + 1 => by
    have ih := extTo_all D m
    show extTo D (m + 1) ++ (if m + 1 = 0 then _ else if (((m + 1 : Nat) : Int) - 1) ∈ D then [] else [D ++ [((m + 1 : Nat) : Int) - 1]]) = _
    rw [ih, if_neg (by omega), show ((m + 1 : Nat) : Int) - 1 = (m : Int) by omega]
    unfold extD
    rw [List.range_succ, List.flatMap_append, List.cons_append]
    simp
theorem extTo_le (D : List Int) : ∀ t, (extTo D t).length ≤ t
  | 0 => by simp [extTo]
  | t + 1 => by
    have ih := extTo_le D t
    show (extTo D t ++ _).length ≤ t + 1
    rw [List.length_append]
    by_cases h0 : t = 0
    · rw [if_pos h0]; simp; omega
    · rw [if_neg h0]
      by_cases h1 : ((t : Int) - 1) ∈ D
      · rw [if_pos h1]; simp; omega
      · rw [if_neg h1]; simp; omega
theorem extTo_len {D X : List Int} : ∀ {t : Nat}, X ∈ extTo D t → X.length = D.length + 1
  | 0, h => absurd h List.not_mem_nil
  | t + 1, h => by
    rcases List.mem_append.1 (show X ∈ extTo D t ++ _ from h) with h | h
    · exact extTo_len h
    · by_cases h0 : t = 0
      · rw [if_pos h0, List.mem_singleton] at h; rw [h]; simp
      · rw [if_neg h0] at h
        by_cases h1 : ((t : Int) - 1) ∈ D
        · rw [if_pos h1] at h; exact absurd h List.not_mem_nil
        · rw [if_neg h1, List.mem_singleton] at h; rw [h]; simp
theorem dealsP_len {X : List Int} : ∀ {i : Nat}, X ∈ dealsP m i → X.length = i
  | 0, h => by rw [List.mem_singleton.1 (show X ∈ [[]] from h)]; rfl
  | i + 1, h => by
    obtain ⟨D, hD, h⟩ := List.mem_flatMap.1 (show X ∈ (dealsP m i).flatMap (extD m) from h)
    rw [← extTo_all] at h
    rw [extTo_len h, dealsP_len hD]
theorem flatL_le {g : List Int → List (List Int)} {q : Nat} : ∀ {l : List (List Int)}, (∀ x, x ∈ l → (g x).length ≤ q) → (l.flatMap g).length ≤ l.length * q
  | [], _ => by simp
  | x :: l, h => by
    rw [List.flatMap_cons, List.length_append, List.length_cons, Nat.add_mul]
    have h1 := h x (by simp)
    have h2 := flatL_le (g := g) (q := q) (l := l) fun y hy => h y (by simp [hy])
    omega
theorem extD_le (D : List Int) : (extD m D).length ≤ m + 1 := by rw [← extTo_all]; exact extTo_le _ _
theorem dealsP_le : ∀ (i : Nat), (dealsP m i).length ≤ (m + 1) ^ i
  | 0 => by simp [dealsP]
  | i + 1 => by
    have h := flatL_le (g := extD m) (q := m + 1) (l := dealsP m i) fun x _ => extD_le x
    have h2 := Nat.mul_le_mul_right (m + 1) (dealsP_le i)
    show ((dealsP m i).flatMap (extD m)).length ≤ (m + 1) ^ i * (m + 1)
    omega
theorem dealsP_small {i : Nat} (hm : m ≤ 5) (hi : i ≤ 4) : (dealsP m i).length ≤ 1296 :=
  Nat.le_trans (dealsP_le i) (Nat.le_trans (Nat.pow_le_pow_left (show m + 1 ≤ 6 by omega) i) (Nat.pow_le_pow_right (show 0 < 6 by omega) hi))
theorem extD_none (D : List Int) : (D ++ [-1]) ∈ extD m D := List.mem_cons_self
/-- The deal in which nobody gets an item. -/
theorem dealsP_none : ∀ (i : Nat), List.replicate i (-1 : Int) ∈ dealsP m i
  | 0 => by simp [dealsP]
  | i + 1 => List.mem_flatMap.2 ⟨_, dealsP_none i, by rw [List.replicate_succ']; exact extD_none _⟩
theorem dealsP_D : ∀ (i f : Nat), (dealsP m i).flatMap (dealsD m f) = dealsD m (i + f) []
  | 0, f => by simp [dealsP]
  | i + 1, f => by
    show ((dealsP m i).flatMap (extD m)).flatMap (dealsD m f) = _
    rw [List.flatMap_assoc, show i + 1 + f = i + (f + 1) by omega, ← dealsP_D i (f + 1)]
    rfl
theorem dealsP_is (n : Nat) : dealsP m n = dealsD m n [] := by
  have h := dealsP_D (m := m) n 0
  rw [Nat.add_zero] at h
  rw [← h]
  show dealsP m n = (dealsP m n).flatMap fun D => [D]
  simp
theorem flatM_congr {α : Type} {f g : α → List (List Int)} : ∀ {l : List α}, (∀ x, x ∈ l → f x = g x) → l.flatMap f = l.flatMap g
  | [], _ => rfl
  | x :: l, h => by rw [List.flatMap_cons, List.flatMap_cons, h x (by simp), flatM_congr fun y hy => h y (by simp [hy])]
theorem deals_D : ∀ (f : Nat) (B : List Int) (X : Nat → Int), (∀ k : Nat, k < m → X k = if (k : Int) ∈ B then 0 else 1) → deals m f B X = dealsD m f B
  | 0, B, X, h => rfl
  | f + 1, B, X, h => by
    show deals m f (B ++ [-1]) X ++ _ = (extD m B).flatMap (dealsD m f)
    unfold extD
    rw [List.flatMap_cons, List.flatMap_assoc, deals_D f (B ++ [-1]) X (fun k hk => by
      rw [h k hk]
      by_cases e : (k : Int) ∈ B
      · rw [if_pos e, if_pos (List.mem_append_left _ e)]
      · rw [if_neg e, if_neg (by rw [List.mem_append, List.mem_singleton]; rintro (h | h); exact e h; omega)])]
    congr 1
    have hc : ∀ k, k ∈ List.range m → (if 0 < X k then deals m f (B ++ [(k : Int)]) (lessX X k) else []) = (if (k : Int) ∈ B then [] else [B ++ [(k : Int)]]).flatMap (dealsD m f) := by
      intro k hk
      have hk := List.mem_range.1 hk
      have hx := h k hk
      by_cases e : (k : Int) ∈ B
      · rw [if_pos e] at hx
        rw [if_pos e, if_neg (by omega)]; rfl
      · rw [if_neg e] at hx
        rw [if_neg e, if_pos (by omega), deals_D f (B ++ [(k : Int)]) (lessX X k) (fun j hj => by
          unfold lessX
          have hxj := h j hj
          by_cases e1 : j = k
          · subst e1
            rw [if_pos rfl, if_pos (by simp)]; omega
          · rw [if_neg e1, hxj]
            by_cases e2 : (j : Int) ∈ B
            · rw [if_pos e2, if_pos (List.mem_append_left _ e2)]
            · rw [if_neg e2, if_neg (by rw [List.mem_append, List.mem_singleton]; rintro (h | h); exact e2 h; omega)])]
        simp
    exact flatM_congr hc
/-- The program's deals are the model's. -/
theorem deals_way (n m k : Nat) : deals m n [] (itemsX k 1) = dealsP m n := by
  rw [dealsP_is]
  exact deals_D n [] _ fun j hj => by unfold itemsX; by_cases e : j = k <;> simp [e]
end
end Go.Proofs.Ytaipodnhnekpjaa

namespace Go.Proofs.Ytaipodnhnekpjaa
set_option linter.unusedVariables false
set_option linter.unusedSimpArgs false
open Go.RowKit

/-- The sum stays small. -/
theorem dealT_range {Z : Nat → Nat → Int} {D : Nat → Int} {M : Int} (hM : 0 ≤ M) : ∀ (q : Nat), (∀ i, i < q → D i ≠ -1 → 0 ≤ Z i (D i).toNat ∧ Z i (D i).toNat ≤ M) → 0 ≤ dealT Z D q ∧ dealT Z D q ≤ M * (q : Int)
  | 0, _ => ⟨Int.le_refl _, by show (0 : Int) ≤ _; simp⟩
  | q + 1, h => by
    obtain ⟨h1, h2⟩ := dealT_range hM q fun i hi => h i (by omega)
    show 0 ≤ dealT Z D q + _ ∧ dealT Z D q + _ ≤ M * ((q + 1 : Nat) : Int)
    have e : M * ((q + 1 : Nat) : Int) = M * (q : Int) + M := by rw [Int.natCast_add, Int.mul_add]; simp
    rw [e]
    by_cases hd : D q = -1
    · rw [if_pos hd]; omega
    · rw [if_neg hd]; have := h q (by omega) hd; omega

end Go.Proofs.Ytaipodnhnekpjaa

namespace Go.Proofs.Ytaipodnhnekpjaa
set_option linter.unusedVariables false
set_option linter.unusedSimpArgs false
open Go.RowKit

theorem mostT_nonneg {n : Nat} {Z : Nat → Nat → Int} (DD : List (List Int)) : 0 ≤ mostT n Z DD := (mostF_ge (fun D => dealT Z (nth D) n) DD 0).1
theorem mostT_le {n : Nat} {Z : Nat → Nat → Int} {AA BB : List (List Int)} (h : ∀ D, D ∈ AA → D ∈ BB) : mostT n Z AA ≤ mostT n Z BB := by
  rcases mostT_is (n := n) (Z := Z) AA with e | ⟨E, hE, e⟩
  · rw [e]; exact mostT_nonneg BB
  · rw [← e]; exact mostT_ge (h E hE)
theorem mostT_same {n : Nat} {Z : Nat → Nat → Int} {AA BB : List (List Int)} (h : ∀ D, D ∈ AA ↔ D ∈ BB) : mostT n Z AA = mostT n Z BB :=
  Int.le_antisymm (mostT_le fun D hD => (h D).1 hD) (mostT_le fun D hD => (h D).2 hD)
theorem dealsP_mem {m n : Nat} {D : List Int} : D ∈ dealsP m n ↔ D.length = n ∧ IsDeal n m (nth D) := by rw [← deals_way n m 0]; exact mem_deal 0
/-- Without a bidder, as the program and as the model say it. -/
theorem without_way {n m b : Nat} {Z : Nat → Nat → Int} (hb : b < n) : mostT n Z ((dealsP m n).filter fun D => decide (nth D b = -1)) = withoutV n m Z b := by
  unfold withoutV
  rw [deals_way]
  congr 1
  exact List.filter_congr fun D hD => by
    have h := (dealsP_mem.1 hD).2.1 b hb
    by_cases e : nth D b = -1
    · rw [decide_eq_true e, decide_eq_true (by omega)]
    · rw [decide_eq_false e, decide_eq_false (by omega)]
theorem less_way {n m k : Nat} {Z : Nat → Nat → Int} (hk : k < m) (p : List Int → Bool) (hp : ∀ D, D ∈ dealsP m n → (p D = true ↔ ∀ i, i < n → nth D i ≠ (k : Int))) : mostT n Z ((dealsP m n).filter p) = lessV n m Z k := by
  refine mostT_same fun D => ?_
  rw [mem_less hk, List.mem_filter]
  constructor
  · rintro ⟨h1, h2⟩
    exact ⟨(dealsP_mem.1 h1).1, (dealsP_mem.1 h1).2, (hp D h1).1 h2⟩
  · rintro ⟨h1, h2, h3⟩
    exact ⟨dealsP_mem.2 ⟨h1, h2⟩, (hp D (dealsP_mem.2 ⟨h1, h2⟩)).2 h3⟩

/-- One item more, worth what the item k is. -/
def secondZ (Z : Nat → Nat → Int) (m k r x : Nat) : Int := if x < m then Z r x else Z r k
section
variable {n m k : Nat} {Z : Nat → Nat → Int}
theorem second_total {E D : Nat → Int} (h : ∀ i, i < n → (E i = -1 ∧ D i = -1) ∨ (E i = m ∧ D i = k) ∨ (0 ≤ E i ∧ E i < m ∧ D i = E i)) (hk : k < m) : dealT (secondZ Z m k) E n = dealT Z D n := by
  have hq : ∀ q, q ≤ n → dealT (secondZ Z m k) E q = dealT Z D q := by
    intro q
    induction q with
    | zero => intro _; rfl
    | succ q ih =>
      intro hq
      show dealT (secondZ Z m k) E q + (if E q = -1 then 0 else secondZ Z m k q (E q).toNat) = dealT Z D q + (if D q = -1 then 0 else Z q (D q).toNat)
      rw [ih (by omega)]
      rcases h q (by omega) with ⟨e1, e2⟩ | ⟨e1, e2⟩ | ⟨e1, e2, e3⟩
      · rw [if_pos e1, if_pos e2]
      · rw [if_neg (by omega), if_neg (by omega), e1, e2]
        unfold secondZ
        rw [Int.toNat_natCast, Int.toNat_natCast, if_neg (by omega)]
      · rw [if_neg (by omega), if_neg (by omega), e3]
        unfold secondZ
        rw [if_pos (by omega)]
  exact hq n (Nat.le_refl _)
theorem second_le (hk : k < m) : bestV n (m + 1) (secondZ Z m k) ≤ twiceV n m Z k := by
  obtain ⟨E, hE, e⟩ := best_is n (m + 1) (secondZ Z m k)
  rw [← e]
  have hr := fun i (hi : i < n) => hE.1 i hi
  rw [second_total (D := fun i => if E i = m then (k : Int) else E i) (fun i hi => by
    have := hr i hi
    by_cases e1 : E i = m
    · exact .inr (.inl ⟨e1, if_pos e1⟩)
    · by_cases e2 : E i = -1
      · exact .inl ⟨e2, by rw [if_neg e1]; exact e2⟩
      · exact .inr (.inr ⟨by omega, by omega, if_neg e1⟩)) hk]
  refine twice_ge hk ⟨fun i hi => ?_, fun i j hi hj hne e => ?_, fun a b c ha hb hc h1 h2 h3 e1 e2 e3 => ?_⟩
  · have := hr i hi
    dsimp only
    by_cases e1 : E i = m
    · rw [if_pos e1]; omega
    · rw [if_neg e1]; omega
  · dsimp only at e ⊢
    by_cases e1 : E i = m
    · rw [if_pos e1]; exact .inr rfl
    · rw [if_neg e1] at e ⊢
      by_cases e2 : E j = m
      · rw [if_pos e2] at e; exact .inr e
      · rw [if_neg e2] at e; exact .inl (hE.2 i j hi hj hne e)
  · dsimp only at e1 e2 e3
    have hx : ∀ i, i < n → (if E i = m then (k : Int) else E i) = k → E i = m ∨ E i = k := fun i hi h => by
      by_cases e1 : E i = m
      · exact .inl e1
      · rw [if_neg e1] at h; exact .inr h
    have d1 := hE.2 a b ha hb h1
    have d2 := hE.2 a c ha hc h2
    have d3 := hE.2 b c hb hc h3
    rcases hx a ha e1 with f1 | f1 <;> rcases hx b hb e2 with f2 | f2 <;> rcases hx c hc e3 with f3 | f3 <;> omega
theorem second_ge (hk : k < m) : twiceV n m Z k ≤ bestV n (m + 1) (secondZ Z m k) := by
  obtain ⟨D, hD, e⟩ := twice_is n Z hk
  rw [← e]
  let E : Nat → Int := fun j => if D j = k ∧ ∃ i, i < j ∧ D i = k then (m : Int) else D j
  have hE : ∀ j, E j = if D j = k ∧ ∃ i, i < j ∧ D i = k then (m : Int) else D j := fun j => rfl
  have hr := fun i (hi : i < n) => hD.1 i hi
  rw [← second_total (E := E) (fun i hi => by
    have := hr i hi
    by_cases e1 : D i = k ∧ ∃ j, j < i ∧ D j = k
    · exact .inr (.inl ⟨by rw [hE, if_pos e1], e1.1⟩)
    · have e2 : E i = D i := by rw [hE, if_neg e1]
      by_cases e3 : D i = -1
      · exact .inl ⟨e2.trans e3, e3⟩
      · exact .inr (.inr ⟨by omega, by omega, e2.symm⟩)) hk]
  refine best_ge ⟨fun i hi => ?_, fun i j hi hj hne e => ?_⟩
  · have := hr i hi
    rw [hE]
    by_cases e1 : D i = k ∧ ∃ j, j < i ∧ D j = k
    · rw [if_pos e1]; omega
    · rw [if_neg e1]; omega
  · rw [hE i, hE j] at e
    rw [hE i]
    have hri := hr i hi
    have hrj := hr j hj
    by_cases e1 : D i = k ∧ ∃ x, x < i ∧ D x = k
    · rw [if_pos e1] at e ⊢
      exfalso
      by_cases e2 : D j = k ∧ ∃ x, x < j ∧ D x = k
      · obtain ⟨a, ha, ha'⟩ := e1.2
        obtain ⟨b, hb, hb'⟩ := e2.2
        rcases Nat.lt_or_ge i j with hij | hij
        · exact hD.2.2 a i j (by omega) hi hj (by omega) (by omega) hne ha' e1.1 e2.1
        · exact hD.2.2 b j i (by omega) hj hi (by omega) (by omega) (by omega) hb' e2.1 e1.1
      · rw [if_neg e2] at e; omega
    · rw [if_neg e1] at e ⊢
      by_cases e2 : D j = k ∧ ∃ x, x < j ∧ D x = k
      · rw [if_pos e2] at e; omega
      · rw [if_neg e2] at e
        rcases hD.2.1 i j hi hj hne e with h | h
        · exact h
        · exfalso
          have h' : D j = k := by rw [← e]; exact h
          rcases Nat.lt_or_ge i j with hij | hij
          · exact e2 ⟨h', i, hij, h⟩
          · exact e1 ⟨h, j, by omega, h'⟩
theorem second_way (hk : k < m) : bestV n (m + 1) (secondZ Z m k) = twiceV n m Z k := Int.le_antisymm (second_le hk) (second_ge hk)
end
end Go.Proofs.Ytaipodnhnekpjaa
