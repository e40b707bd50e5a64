/- Fair prices of items, in plain mathematics: the greatest ones are fair with each best deal. -/
import Derived.Test.YtaipodnhnekpjaaDealsWay
namespace Go.Proofs.Ytaipodnhnekpjaa
set_option linter.unusedVariables false
set_option linter.unusedSimpArgs false
open Go.RowKit

/-- Prices are fair with a deal. -/
def FairP (n m : Nat) (Z : Nat → Nat → Int) (p : Nat → Int) (D : Nat → Int) : Prop :=
  (∀ i, i < n → D i ≠ -1 → 0 ≤ Z i (D i).toNat - p (D i).toNat ∧ ∀ y, y < m → Z i y - p y ≤ Z i (D i).toNat - p (D i).toNat) ∧
  (∀ i, i < n → D i = -1 → ∀ y, y < m → Z i y ≤ p y) ∧ ∀ x, x < m → (∀ i, i < n → D i ≠ (x : Int)) → p x = 0
section
variable {n m : Nat} {D L : Nat → Int} {Z : Nat → Nat → Int} {p : Nat → Int}
/-- The bidder b gets y instead. -/
def setD (D : Nat → Int) (b : Nat) (y : Int) (i : Nat) : Int := if i = b then y else D i
theorem set_twice (h : IsDeal n m D) {b y : Nat} (hy : y < m) : IsTwice n m y (setD D b y) := by
  refine ⟨fun i hi => ?_, fun i j hi hj hne e => ?_, fun a c d ha hc hd n1 n2 n3 e1 e2 e3 => ?_⟩
  · unfold setD
    by_cases e : i = b
    · rw [if_pos e]; omega
    · rw [if_neg e]; exact h.1 i hi
  · unfold setD at e ⊢
    by_cases e1 : i = b
    · rw [if_pos e1]; exact .inr rfl
    · by_cases e2 : j = b
      · rw [if_pos e2] at e; exact .inr e
      · rw [if_neg e1, if_neg e2] at e
        rw [if_neg e1]
        exact .inl (h.2 i j hi hj hne e)
  · have key : ∀ i j, i < n → j < n → i ≠ j → i ≠ b → j ≠ b → setD D b y i = (y : Int) → setD D b y j = (y : Int) → False := fun i j hi hj hne h1 h2 f1 f2 => by
      unfold setD at f1 f2
      rw [if_neg h1] at f1
      rw [if_neg h2] at f2
      have := h.2 i j hi hj hne (f1.trans f2.symm)
      omega
    by_cases q1 : a = b
    · exact key c d hc hd n3 (by omega) (by omega) e2 e3
    · by_cases q2 : c = b
      · exact key a d ha hd n2 q1 (by omega) e1 e3
      · exact key a c ha hc n1 q1 q2 e1 e2
theorem set_total (Z : Nat → Nat → Int) (D : Nat → Int) {b y : Nat} (hb : b < n) : dealT Z (setD D b y) n = dealT Z D n - (if D b ≠ -1 then Z b (D b).toNat else 0) + Z b y := by
  have h1 := drop_total (Z := Z) D (b := b) n
  have h2 := drop_total (Z := Z) (setD D b y) (b := b) n
  have e : (fun i => if i = b then (-1 : Int) else setD D b y i) = fun i => if i = b then -1 else D i := by
    funext i
    unfold setD
    by_cases e : i = b
    · rw [if_pos e, if_pos e]
    · rw [if_neg e, if_neg e, if_neg e]
  rw [e] at h2
  have hs : setD D b y b = (y : Int) := if_pos rfl
  rw [hs, if_pos ⟨hb, by omega⟩, Int.toNat_natCast] at h2
  by_cases q : D b = -1
  · rw [if_neg (fun h => h.2 q)] at h1
    rw [if_neg (fun h => h q)]
    omega
  · rw [if_pos ⟨hb, q⟩] at h1
    rw [if_pos q]
    omega
/-- The greatest fair price of an item. -/
def highP (n m : Nat) (Z : Nat → Nat → Int) (x : Nat) : Int := bestV n m Z - lessV n m Z x
theorem high_near (h : IsDeal n m D) (hb : dealT Z D n = bestV n m Z) {i y : Nat} (hi : i < n) (hy : y < m) : D i = -1 → Z i y ≤ highP n m Z y := by
  intro e
  obtain ⟨L, h3, h4, h5⟩ := less_is n Z hy
  obtain ⟨A, B, hA, hB, e1⟩ := two_deals (set_twice h hy (b := i)) h3 h4 Z
  rw [set_total Z D hi, if_neg (fun q => q e), hb, h5] at e1
  have a1 := best_ge (Z := Z) hA
  have a2 := best_ge (Z := Z) hB
  unfold highP
  omega
theorem high_move (h : IsDeal n m D) (hb : dealT Z D n = bestV n m Z) {i y : Nat} (hi : i < n) (hy : y < m) (hD : D i ≠ -1) : Z i y - highP n m Z y ≤ Z i (D i).toNat - highP n m Z (D i).toNat := by
  have hr := h.1 i hi
  obtain ⟨x, hx⟩ := Int.eq_ofNat_of_zero_le (show 0 ≤ D i by omega)
  have hxm : x < m := by omega
  rw [hx, Int.toNat_natCast]
  by_cases exy : x = y
  · rw [exy]; exact Int.le_refl _
  obtain ⟨L, h3, h4, h5⟩ := less_is n Z hy
  obtain ⟨A, B, hA, hB, hAB⟩ := two_deals' (set_twice h hy (b := i)) h3 h4
  have e1 := dealT_pair (Z := Z) n hAB
  rw [set_total Z D hi, if_pos hD, hb, h5, hx, Int.toNat_natCast] at e1
  have hno : ∀ a, a < n → setD D i y a ≠ (x : Int) := fun a ha e => by
    unfold setD at e
    by_cases q : a = i
    · rw [if_pos q] at e; omega
    · rw [if_neg q] at e
      have := h.2 a i ha hi q (e.trans hx.symm)
      omega
  have hlack : (∀ a, a < n → A a ≠ (x : Int)) ∨ ∀ b, b < n → B b ≠ (x : Int) := by
    by_cases hA1 : ∃ a, a < n ∧ A a = (x : Int)
    · right
      obtain ⟨a, ha, ea⟩ := hA1
      intro b hb2 eb
      have f1 : L a = (x : Int) ∧ B a = setD D i y a := by
        rcases hAB a ha with ⟨q1, _⟩ | ⟨q1, q2⟩
        · exact absurd (q1.symm.trans ea) (hno a ha)
        · exact ⟨q1.symm.trans ea, q2⟩
      have f2 : L b = (x : Int) := by
        rcases hAB b hb2 with ⟨_, q2⟩ | ⟨_, q2⟩
        · exact q2.symm.trans eb
        · exact absurd (q2.symm.trans eb) (hno b hb2)
      by_cases q : a = b
      · subst q
        exact hno a ha (f1.2.symm.trans eb)
      · have := h3.2 a b ha hb2 q (f1.1.trans f2.symm)
        omega
    · left
      exact fun a ha e => hA1 ⟨a, ha, e⟩
  unfold highP
  rcases hlack with q | q
  · have a1 := less_ge' (Z := Z) hxm hA q
    have a2 := best_ge (Z := Z) hB
    omega
  · have a1 := less_ge' (Z := Z) hxm hB q
    have a2 := best_ge (Z := Z) hA
    omega
/-- The greatest prices are fair with each best deal. -/
theorem high_fair (h : IsDeal n m D) (hb : dealT Z D n = bestV n m Z) : FairP n m Z (highP n m Z) D := by
  refine ⟨fun i hi hD => ⟨?_, fun y hy => high_move h hb hi hy hD⟩, fun i hi e y hy => high_near h hb hi hy e, fun x hx hno => ?_⟩
  · have hr := h.1 i hi
    obtain ⟨x, hx⟩ := Int.eq_ofNat_of_zero_le (show 0 ≤ D i by omega)
    have hxm : x < m := by omega
    rw [hx, Int.toNat_natCast]
    have h3 := less_ge' (Z := Z) hxm (drop_deal h i) fun j hj => by
      by_cases ej : j = i
      · rw [if_pos ej]; omega
      · rw [if_neg ej]
        intro e2
        have := h.2 j i hj hi ej (e2.trans hx.symm)
        omega
    rw [drop_total, hb, if_pos ⟨hi, hD⟩, hx, Int.toNat_natCast] at h3
    unfold highP
    omega
  · have h3 := less_ge' (Z := Z) hx h hno
    have h4 := less_le (n := n) (Z := Z) hx
    unfold highP
    omega
end
end Go.Proofs.Ytaipodnhnekpjaa
