/- Bids with an item twice, as bids for one item more, in plain mathematics; the same greatest total of the same deals. -/
import Derived.Test.YtopoeeahociohaaDealsWay
namespace Go.Proofs.Ytopoeeahociohaa
set_option linter.unusedVariables false
set_option linter.unusedSimpArgs false
open Go.RowKit

theorem mostT_nonneg {n : Nat} {Z : Nat → Nat → Int} (DD : List (List Int)) : 0 ≤ mostT n Z DD := (mostF_ge (fun D => dealT Z (nth D) n) DD 0).1
theorem mostT_le {n : Nat} {Z : Nat → Nat → Int} {AA BB : List (List Int)} (h : ∀ D, D ∈ AA → D ∈ BB) : mostT n Z AA ≤ mostT n Z BB := by
  rcases mostT_is (n := n) (Z := Z) AA with e | ⟨E, hE, e⟩
  · rw [e]; exact mostT_nonneg BB
  · rw [← e]; exact mostT_ge (h E hE)
theorem mostT_same {n : Nat} {Z : Nat → Nat → Int} {AA BB : List (List Int)} (h : ∀ D, D ∈ AA ↔ D ∈ BB) : mostT n Z AA = mostT n Z BB :=
  Int.le_antisymm (mostT_le fun D hD => (h D).1 hD) (mostT_le fun D hD => (h D).2 hD)
theorem dealsP_mem {m n : Nat} {D : List Int} : D ∈ dealsP m n ↔ D.length = n ∧ IsDeal n m (nth D) := by rw [← deals_way n m 0]; exact mem_deal 0
/-- Without a bidder, as the program and as the model say it. -/
theorem without_way {n m b : Nat} {Z : Nat → Nat → Int} (hb : b < n) : mostT n Z ((dealsP m n).filter fun D => decide (nth D b = -1)) = withoutV n m Z b := by
  unfold withoutV
  rw [deals_way]
  congr 1
  exact List.filter_congr fun D hD => by
    have h := (dealsP_mem.1 hD).2.1 b hb
    by_cases e : nth D b = -1
    · rw [decide_eq_true e, decide_eq_true (by omega)]
    · rw [decide_eq_false e, decide_eq_false (by omega)]
theorem less_way {n m k : Nat} {Z : Nat → Nat → Int} (hk : k < m) (p : List Int → Bool) (hp : ∀ D, D ∈ dealsP m n → (p D = true ↔ ∀ i, i < n → nth D i ≠ (k : Int))) : mostT n Z ((dealsP m n).filter p) = lessV n m Z k := by
  refine mostT_same fun D => ?_
  rw [mem_less hk, List.mem_filter]
  constructor
  · rintro ⟨h1, h2⟩
    exact ⟨(dealsP_mem.1 h1).1, (dealsP_mem.1 h1).2, (hp D h1).1 h2⟩
  · rintro ⟨h1, h2, h3⟩
    exact ⟨dealsP_mem.2 ⟨h1, h2⟩, (hp D (dealsP_mem.2 ⟨h1, h2⟩)).2 h3⟩

/-- One item more, worth what the item k is. -/
def secondZ (Z : Nat → Nat → Int) (m k r x : Nat) : Int := if x < m then Z r x else Z r k
section
variable {n m k : Nat} {Z : Nat → Nat → Int}
theorem second_total {E D : Nat → Int} (h : ∀ i, i < n → (E i = -1 ∧ D i = -1) ∨ (E i = m ∧ D i = k) ∨ (0 ≤ E i ∧ E i < m ∧ D i = E i)) (hk : k < m) : dealT (secondZ Z m k) E n = dealT Z D n := by
  have hq : ∀ q, q ≤ n → dealT (secondZ Z m k) E q = dealT Z D q := by
    intro q
    induction q with
    | zero => intro _; rfl
    | succ q ih =>
      intro hq
      show dealT (secondZ Z m k) E q + (if E q = -1 then 0 else secondZ Z m k q (E q).toNat) = dealT Z D q + (if D q = -1 then 0 else Z q (D q).toNat)
      rw [ih (by omega)]
      rcases h q (by omega) with ⟨e1, e2⟩ | ⟨e1, e2⟩ | ⟨e1, e2, e3⟩
      · rw [if_pos e1, if_pos e2]
      · rw [if_neg (by omega), if_neg (by omega), e1, e2]
        unfold secondZ
        rw [Int.toNat_natCast, Int.toNat_natCast, if_neg (by omega)]
      · rw [if_neg (by omega), if_neg (by omega), e3]
        unfold secondZ
        rw [if_pos (by omega)]
  exact hq n (Nat.le_refl _)
theorem second_le (hk : k < m) : bestV n (m + 1) (secondZ Z m k) ≤ twiceV n m Z k := by
  obtain ⟨E, hE, e⟩ := best_is n (m + 1) (secondZ Z m k)
  rw [← e]
  have hr := fun i (hi : i < n) => hE.1 i hi
  rw [second_total (D := fun i => if E i = m then (k : Int) else E i) (fun i hi => by
    have := hr i hi
    by_cases e1 : E i = m
    · exact .inr (.inl ⟨e1, if_pos e1⟩)
    · by_cases e2 : E i = -1
      · exact .inl ⟨e2, by rw [if_neg e1]; exact e2⟩
      · exact .inr (.inr ⟨by omega, by omega, if_neg e1⟩)) hk]
  refine twice_ge hk ⟨fun i hi => ?_, fun i j hi hj hne e => ?_, fun a b c ha hb hc h1 h2 h3 e1 e2 e3 => ?_⟩
  · have := hr i hi
    dsimp only
    by_cases e1 : E i = m
    · rw [if_pos e1]; omega
    · rw [if_neg e1]; omega
  · dsimp only at e ⊢
    by_cases e1 : E i = m
    · rw [if_pos e1]; exact .inr rfl
    · rw [if_neg e1] at e ⊢
      by_cases e2 : E j = m
      · rw [if_pos e2] at e; exact .inr e
      · rw [if_neg e2] at e; exact .inl (hE.2 i j hi hj hne e)
  · dsimp only at e1 e2 e3
    have hx : ∀ i, i < n → (if E i = m then (k : Int) else E i) = k → E i = m ∨ E i = k := fun i hi h => by
      by_cases e1 : E i = m
      · exact .inl e1
      · rw [if_neg e1] at h; exact .inr h
    have d1 := hE.2 a b ha hb h1
    have d2 := hE.2 a c ha hc h2
    have d3 := hE.2 b c hb hc h3
    rcases hx a ha e1 with f1 | f1 <;> rcases hx b hb e2 with f2 | f2 <;> rcases hx c hc e3 with f3 | f3 <;> omega
theorem second_ge (hk : k < m) : twiceV n m Z k ≤ bestV n (m + 1) (secondZ Z m k) := by
  obtain ⟨D, hD, e⟩ := twice_is n Z hk
  rw [← e]
  let E : Nat → Int := fun j => if D j = k ∧ ∃ i, i < j ∧ D i = k then (m : Int) else D j
  have hE : ∀ j, E j = if D j = k ∧ ∃ i, i < j ∧ D i = k then (m : Int) else D j := fun j => rfl
  have hr := fun i (hi : i < n) => hD.1 i hi
  rw [← second_total (E := E) (fun i hi => by
    have := hr i hi
    by_cases e1 : D i = k ∧ ∃ j, j < i ∧ D j = k
    · exact .inr (.inl ⟨by rw [hE, if_pos e1], e1.1⟩)
    · have e2 : E i = D i := by rw [hE, if_neg e1]
      by_cases e3 : D i = -1
      · exact .inl ⟨e2.trans e3, e3⟩
      · exact .inr (.inr ⟨by omega, by omega, e2.symm⟩)) hk]
  refine best_ge ⟨fun i hi => ?_, fun i j hi hj hne e => ?_⟩
  · have := hr i hi
    rw [hE]
    by_cases e1 : D i = k ∧ ∃ j, j < i ∧ D j = k
    · rw [if_pos e1]; omega
    · rw [if_neg e1]; omega
  · rw [hE i, hE j] at e
    rw [hE i]
    have hri := hr i hi
    have hrj := hr j hj
    by_cases e1 : D i = k ∧ ∃ x, x < i ∧ D x = k
    · rw [if_pos e1] at e ⊢
      exfalso
      by_cases e2 : D j = k ∧ ∃ x, x < j ∧ D x = k
      · obtain ⟨a, ha, ha'⟩ := e1.2
        obtain ⟨b, hb, hb'⟩ := e2.2
        rcases Nat.lt_or_ge i j with hij | hij
        · exact hD.2.2 a i j (by omega) hi hj (by omega) (by omega) hne ha' e1.1 e2.1
        · exact hD.2.2 b j i (by omega) hj hi (by omega) (by omega) (by omega) hb' e2.1 e1.1
      · rw [if_neg e2] at e; omega
    · rw [if_neg e1] at e ⊢
      by_cases e2 : D j = k ∧ ∃ x, x < j ∧ D x = k
      · rw [if_pos e2] at e; omega
      · rw [if_neg e2] at e
        rcases hD.2.1 i j hi hj hne e with h | h
        · exact h
        · exfalso
          have h' : D j = k := by rw [← e]; exact h
          rcases Nat.lt_or_ge i j with hij | hij
          · exact e2 ⟨h', i, hij, h⟩
          · exact e1 ⟨h, j, by omega, h'⟩
theorem second_way (hk : k < m) : bestV n (m + 1) (secondZ Z m k) = twiceV n m Z k := Int.le_antisymm (second_le hk) (second_ge hk)
end
end Go.Proofs.Ytopoeeahociohaa
