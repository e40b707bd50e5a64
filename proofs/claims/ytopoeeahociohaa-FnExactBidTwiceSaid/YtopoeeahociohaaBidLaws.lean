/- What the laws of chapter 7 say of the greatest totals, in plain mathematics. -/
import Derived.Test.YtopoeeahociohaaBidBest
namespace Go.Proofs.Ytopoeeahociohaa
set_option linter.unusedVariables false
set_option linter.unusedSimpArgs false
open Go.RowKit

/-- The greatest totals: of deals, without a bidder, without an item, with an item twice. -/
def bestV (n m : Nat) (Z : Nat → Nat → Int) : Int := mostT n Z (deals m n [] (itemsX 0 1))
def withoutV (n m : Nat) (Z : Nat → Nat → Int) (i : Nat) : Int := mostT n Z ((deals m n [] (itemsX 0 1)).filter fun D => decide (nth D i < 0))
def lessV (n m : Nat) (Z : Nat → Nat → Int) (k : Nat) : Int := mostT n Z (deals m n [] (itemsX k 0))
def twiceV (n m : Nat) (Z : Nat → Nat → Int) (k : Nat) : Int := mostT n Z (deals m n [] (itemsX k 2))
/-- A function's first n numbers as a list. -/
def ofF (n : Nat) (D : Nat → Int) : List Int := (List.range n).map D
section
variable {n m : Nat} {D : Nat → Int} {Z : Nat → Nat → Int} {k : Nat}
theorem ofF_len (n : Nat) (D : Nat → Int) : (ofF n D).length = n := by unfold ofF; simp
theorem ofF_nth {i : Nat} (h : i < n) : nth (ofF n D) i = D i := by unfold nth ofF; simp [h]
theorem ofF_total : dealT Z (nth (ofF n D)) n = dealT Z D n := dealT_congr n fun i hi => ofF_nth hi
theorem deal_congr {E : Nat → Int} (e : ∀ i, i < n → D i = E i) (h : IsDeal n m D) : IsDeal n m E :=
  ⟨fun i hi => by rw [← e i hi]; exact h.1 i hi, fun i j hi hj hne he => by rw [← e i hi]; exact h.2 i j hi hj hne (by rw [e i hi, e j hj]; exact he)⟩
theorem twice_congr {E : Nat → Int} {x : Int} (e : ∀ i, i < n → D i = E i) (h : IsTwice n m x D) : IsTwice n m x E :=
  ⟨fun i hi => by rw [← e i hi]; exact h.1 i hi, fun i j hi hj hne he => by rw [← e i hi]; exact h.2.1 i j hi hj hne (by rw [e i hi, e j hj]; exact he),
    fun a b c ha hb hc h1 h2 h3 e1 e2 e3 => h.2.2 a b c ha hb hc h1 h2 h3 ((e a ha).trans e1) ((e b hb).trans e2) ((e c hc).trans e3)⟩
theorem none_deal (n m : Nat) : IsDeal n m (fun _ => -1) := ⟨fun i hi => ⟨Int.le_refl _, show (-1 : Int) < (m : Int) by omega⟩, fun _ _ _ _ _ _ => rfl⟩
theorem none_total (Z : Nat → Nat → Int) : ∀ q, dealT Z (fun _ => -1) q = 0
  | 0 => rfl
  | q + 1 => by show dealT Z (fun _ => -1) q + (if (-1 : Int) = -1 then 0 else _) = 0; rw [none_total Z q, if_pos rfl]; rfl
theorem mostT_ge {DD : List (List Int)} {E : List Int} (h : E ∈ DD) : dealT Z (nth E) n ≤ mostT n Z DD := (mostF_ge (fun D => dealT Z (nth D) n) DD 0).2 E h
theorem mostT_is (DD : List (List Int)) : mostT n Z DD = 0 ∨ ∃ E, E ∈ DD ∧ dealT Z (nth E) n = mostT n Z DD := mostF_is (fun D => dealT Z (nth D) n) DD 0
theorem deal_mem (h : IsDeal n m D) (k : Nat) : ofF n D ∈ deals m n [] (itemsX k 1) := (mem_deal k).2 ⟨ofF_len n D, deal_congr (fun i hi => (ofF_nth hi).symm) h⟩
theorem best_ge (h : IsDeal n m D) : dealT Z D n ≤ bestV n m Z := by
  rw [← ofF_total]
  exact mostT_ge (deal_mem h 0)
theorem best_is (n m : Nat) (Z : Nat → Nat → Int) : ∃ D, IsDeal n m D ∧ dealT Z D n = bestV n m Z := by
  rcases mostT_is (n := n) (Z := Z) (deals m n [] (itemsX 0 1)) with e | ⟨E, hE, e⟩
  · exact ⟨_, none_deal n m, (none_total Z n).trans e.symm⟩
  · exact ⟨nth E, ((mem_deal 0).1 hE).2, e⟩
theorem without_ge {b : Nat} (hb : b < n) (h : IsDeal n m D) (h1 : D b = -1) : dealT Z D n ≤ withoutV n m Z b := by
  rw [← ofF_total]
  exact mostT_ge (List.mem_filter.2 ⟨deal_mem h 0, by rw [decide_eq_true_iff, ofF_nth hb, h1]; omega⟩)
theorem without_is (n m : Nat) (Z : Nat → Nat → Int) {b : Nat} (hb : b < n) : ∃ D, IsDeal n m D ∧ D b = -1 ∧ dealT Z D n = withoutV n m Z b := by
  rcases mostT_is (n := n) (Z := Z) ((deals m n [] (itemsX 0 1)).filter fun D => decide (nth D b < 0)) with e | ⟨E, hE, e⟩
  · exact ⟨_, none_deal n m, rfl, (none_total Z n).trans e.symm⟩
  · rw [List.mem_filter, decide_eq_true_iff] at hE
    have hd := ((mem_deal 0).1 hE.1).2
    have := hd.1 b hb
    exact ⟨nth E, hd, by omega, e⟩
theorem less_ge' (hk : k < m) (h : IsDeal n m D) (h1 : ∀ i, i < n → D i ≠ (k : Int)) : dealT Z D n ≤ lessV n m Z k := by
  rw [← ofF_total]
  exact mostT_ge ((mem_less hk).2 ⟨ofF_len n D, deal_congr (fun i hi => (ofF_nth hi).symm) h, fun i hi => by rw [ofF_nth hi]; exact h1 i hi⟩)
theorem less_is (n : Nat) (Z : Nat → Nat → Int) (hk : k < m) : ∃ D, IsDeal n m D ∧ (∀ i, i < n → D i ≠ (k : Int)) ∧ dealT Z D n = lessV n m Z k := by
  rcases mostT_is (n := n) (Z := Z) (deals m n [] (itemsX k 0)) with e | ⟨E, hE, e⟩
  · exact ⟨_, none_deal n m, fun i _ => by omega, (none_total Z n).trans e.symm⟩
  · have h := (mem_less hk).1 hE
    exact ⟨nth E, h.2.1, h.2.2, e⟩
theorem twice_ge (hk : k < m) (h : IsTwice n m k D) : dealT Z D n ≤ twiceV n m Z k := by
  rw [← ofF_total]
  exact mostT_ge ((mem_twice hk).2 ⟨ofF_len n D, twice_congr (fun i hi => (ofF_nth hi).symm) h⟩)
theorem deal_twice (h : IsDeal n m D) (k : Nat) : IsTwice n m k D :=
  ⟨h.1, fun i j hi hj hne e => .inl (h.2 i j hi hj hne e), fun a b c ha hb hc h1 _ _ e1 e2 _ => by have := h.2 a b ha hb h1 (e1.trans e2.symm); omega⟩
theorem twice_is (n : Nat) (Z : Nat → Nat → Int) (hk : k < m) : ∃ D, IsTwice n m k D ∧ dealT Z D n = twiceV n m Z k := by
  rcases mostT_is (n := n) (Z := Z) (deals m n [] (itemsX k 2)) with e | ⟨E, hE, e⟩
  · exact ⟨_, deal_twice (none_deal n m) k, (none_total Z n).trans e.symm⟩
  · exact ⟨nth E, ((mem_twice hk).1 hE).2, e⟩

/-- Without a bidder: at most as much, and at least that less the bidder's greatest number. -/
theorem without_le {b : Nat} (hb : b < n) : withoutV n m Z b ≤ bestV n m Z := by
  obtain ⟨D, h1, _, h3⟩ := without_is n m Z hb
  rw [← h3]; exact best_ge h1
theorem without_near {b : Nat} (hb : b < n) {M : Int} (hM0 : 0 ≤ M) (hM : ∀ x, x < m → Z b x ≤ M) : bestV n m Z - M ≤ withoutV n m Z b := by
  obtain ⟨D, h1, h2⟩ := best_is n m Z
  have h3 := without_ge (Z := Z) hb (drop_deal h1 b) (if_pos rfl)
  rw [drop_total, h2] at h3
  by_cases e : b < n ∧ D b ≠ -1
  · rw [if_pos e] at h3
    have hr := h1.1 b hb
    have := hM (D b).toNat (by omega)
    omega
  · rw [if_neg e] at h3
    omega
/-- Without an item: the same. -/
theorem less_le (hk : k < m) : lessV n m Z k ≤ bestV n m Z := by
  obtain ⟨D, h1, _, h3⟩ := less_is n Z hk
  rw [← h3]; exact best_ge h1
theorem less_near (hk : k < m) {M : Int} (hM0 : 0 ≤ M) (hM : ∀ i, i < n → Z i k ≤ M) : bestV n m Z - M ≤ lessV n m Z k := by
  obtain ⟨D, h1, h2⟩ := best_is n m Z
  by_cases h : ∃ b, b < n ∧ D b = (k : Int)
  · obtain ⟨b, hb, e⟩ := h
    have h3 := less_ge' (Z := Z) hk (drop_deal h1 b) fun i hi => by
      by_cases ei : i = b
      · rw [if_pos ei]; omega
      · rw [if_neg ei]
        intro e2
        have := h1.2 i b hi hb ei (e2.trans e.symm)
        omega
    rw [drop_total, h2, if_pos ⟨hb, by omega⟩, e, Int.toNat_natCast] at h3
    have := hM b hb
    omega
  · have h3 := less_ge' (Z := Z) hk h1 fun i hi e => h ⟨i, hi, e⟩
    omega
/-- With an item twice: at least as much, and it gains at most what the item itself does. -/
theorem twice_least (hk : k < m) : bestV n m Z ≤ twiceV n m Z k := by
  obtain ⟨D, h1, h2⟩ := best_is n m Z
  rw [← h2]; exact twice_ge hk (deal_twice h1 k)
theorem twice_gain (hk : k < m) : twiceV n m Z k - bestV n m Z ≤ bestV n m Z - lessV n m Z k := by
  obtain ⟨D, h1, h2⟩ := twice_is n Z hk
  obtain ⟨L, h3, h4, h5⟩ := less_is n Z hk
  obtain ⟨A, B, hA, hB, e⟩ := two_deals h1 h3 h4 Z
  have a1 := best_ge (Z := Z) hA
  have a2 := best_ge (Z := Z) hB
  omega
/-- Bidders and items exchanged. -/
theorem best_swap_le : bestV n m Z ≤ bestV m n (fun x i => Z i x) := by
  obtain ⟨D, h1, h2⟩ := best_is n m Z
  rw [← h2, ← who_total h1]
  exact best_ge (who_deal h1)
theorem best_swap : bestV m n (fun x i => Z i x) = bestV n m Z := Int.le_antisymm (best_swap_le (Z := fun x i => Z i x)) best_swap_le
/-- At most the sum of the greatest number of each bidder. -/
theorem best_sum {M : Nat → Int} (hM0 : ∀ i, i < n → 0 ≤ M i) (hM : ∀ i x, i < n → x < m → Z i x ≤ M i) : bestV n m Z ≤ sumZ M n := by
  obtain ⟨D, h1, h2⟩ := best_is n m Z
  rw [← h2, dealT_sum]
  refine sumZ_le n fun i hi => ?_
  have hr := h1.1 i hi
  by_cases e : D i = -1
  · rw [if_pos e]; exact hM0 i hi
  · rw [if_neg e]; exact hM i _ hi (by omega)
/-- A number is a total. -/
theorem best_cell {i x : Nat} (hi : i < n) (hx : x < m) : Z i x ≤ bestV n m Z := by
  have hd : IsDeal n m (fun j => if j = i then (x : Int) else -1) := by
    refine ⟨fun j hj => ?_, fun a b ha hb hne e => ?_⟩
    · by_cases e : j = i
      · simp only [if_pos e]; omega
      · simp only [if_neg e]; omega
    · by_cases e1 : a = i
      · by_cases e2 : b = i
        · exact absurd (e1.trans e2.symm) hne
        · simp only [if_pos e1, if_neg e2] at e; omega
      · simp only [if_neg e1]
  have h1 := best_ge (Z := Z) hd
  have h2 : dealT Z (fun j => if j = i then (x : Int) else -1) n = Z i x := by
    rw [dealT_sum, sumZ_one (x := i) n hi fun j hj hne => by simp [hne]]
    rw [if_pos rfl, if_neg (show ¬ (x : Int) = -1 by omega), Int.toNat_natCast]
  omega
end
end Go.Proofs.Ytopoeeahociohaa
