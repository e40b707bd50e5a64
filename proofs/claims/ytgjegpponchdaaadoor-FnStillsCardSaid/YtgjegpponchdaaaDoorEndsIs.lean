/- The ends of swaps are those that the model finds, in plain mathematics. -/
import Derived.Test.YtgjegpponchdaaaDoorFollow
import Derived.Test.YtgjegpponchdaaaDoorEndsModel
namespace Go.Proofs.YtgjegpponchdaaaDoor
set_option linter.unusedVariables false
set_option linter.unusedSimpArgs false
open Go.RowKit

section
variable {n : Nat} {L : Nat → Nat} {Z : Nat → Nat → Int}
theorem led_down {s : Nat} {X : List Int} (h : Led n Z s X) : ∀ r, r ≤ s → ∃ Y, Led n Z r Y := by
  induction h with
  | start => intro r hr; obtain rfl : r = 0 := by omega
             exact ⟨_, .start⟩
  | @step t D i k h1 h2 h3 h4 ih =>
    intro r hr
    by_cases e : r = t + 1
    · subst e; exact ⟨_, .step h1 h2 h3 h4⟩
    · exact ih r (by omega)
theorem led_le {t s : Nat} {X : List Int} (hno : ∀ G, ¬ Led n Z (t + 1) G) (h : Led n Z s X) : s ≤ t := by
  rcases Nat.lt_or_ge t s with h1 | h1
  · obtain ⟨Y, hY⟩ := led_down h (t + 1) (by omega)
    exact absurd hY (hno Y)
  · exact h1
theorem long_some (hW : IsWishes n L Z) {D : List Int} {s : Nat} (h : Led n Z s D) : ∃ t : Nat, longF n Z D = t ∧ Led n Z t D ∧ ∀ r, Led n Z r D → r ≤ t := by
  obtain ⟨t, h1, h2⟩ := greatest (P := fun t => Led n Z t D) 10 ⟨s, h⟩ (fun r hr => led_ten hW hr)
  exact ⟨t, longF_of (.inr ⟨t, rfl, h1, h2⟩), h1, h2⟩
theorem long_none {D : List Int} (h : ∀ s, ¬ Led n Z s D) : longF n Z D = -1 := longF_of (.inl ⟨rfl, h⟩)
theorem long_pos (hW : IsWishes n L Z) {D : List Int} : 0 ≤ longF n Z D ↔ ∃ s, Led n Z s D := by
  constructor
  · intro h
    by_cases e : ∃ s, Led n Z s D
    · exact e
    · rw [long_none fun s hs => e ⟨s, hs⟩] at h; omega
  · rintro ⟨s, hs⟩
    obtain ⟨t, h1, _⟩ := long_some hW hs
    omega
theorem maxTo_ge {X : Nat → Int} : ∀ {k i : Nat}, i < k → X i ≤ maxTo X k
  | 0, i, h => by omega
  | k + 1, i, h => by
    show X i ≤ max (maxTo X k) (X k)
    by_cases e : i = k
    · subst e; omega
    · have := maxTo_ge (X := X) (k := k) (i := i) (by omega); omega
theorem maxTo_le {X : Nat → Int} {b : Int} (hb : 0 ≤ b) : ∀ {k : Nat}, (∀ i, i < k → X i ≤ b) → maxTo X k ≤ b
  | 0, _ => hb
  | k + 1, h => by
    have h1 := maxTo_le (X := X) hb (k := k) fun i hi => h i (by omega)
    have h2 := h k (by omega)
    show max (maxTo X k) (X k) ≤ b
    omega
/-- As many swaps as there may be. -/
theorem most_is (hW : IsWishes n L Z) {t : Nat} (h1 : ∃ G, Led n Z t G) (h2 : ∀ G, ¬ Led n Z (t + 1) G) : mostN n L Z = t := by
  rw [mostN_yes hW]
  obtain ⟨G, hG⟩ := h1
  obtain ⟨i, hi, e⟩ := giv_place (led_giv hW hG)
  have a1 := maxTo_ge (X := fun i => longF n Z ((givs n n []).getD i [])) hi
  obtain ⟨u, u1, u2, u3⟩ := long_some hW hG
  have a2 := u3 t hG
  have a3 : longF n Z ((givs n n []).getD i []) ≤ maxTo (fun i => longF n Z ((givs n n []).getD i [])) (givs n n []).length := a1
  rw [e, u1] at a3
  have a4 := maxTo_le (X := fun i => longF n Z ((givs n n []).getD i [])) (b := t) (by omega) (k := (givs n n []).length) (fun i hi => by
    show longF n Z ((givs n n []).getD i []) ≤ t
    by_cases e : ∃ s, Led n Z s ((givs n n []).getD i [])
    · obtain ⟨s, hs⟩ := e
      obtain ⟨u, u1, u2, u3⟩ := long_some hW hs
      have := led_le h2 u2
      omega
    · rw [long_none fun s hs => e ⟨s, hs⟩]; omega)
  omega
/-- The ends are those that the model finds. -/
theorem ends_is (hW : IsWishes n L Z) {t : Nat} (h2 : ∀ G, ¬ Led n Z (t + 1) G) (X : List Int) : EndsTo n Z (t + 1) X ↔ X ∈ endsAll n L Z := by
  rw [endsAll_yes hW]
  unfold endsL
  rw [List.mem_filter, tt_iff]
  constructor
  · rintro ⟨⟨s, _, hs⟩, h⟩
    exact ⟨led_giv hW hs, (long_pos hW).2 ⟨s, hs⟩, h⟩
  · rintro ⟨_, h, h'⟩
    obtain ⟨s, hs⟩ := (long_pos hW).1 h
    exact ⟨⟨s, by have := led_le h2 hs; omega, hs⟩, h'⟩
end
end Go.Proofs.YtgjegpponchdaaaDoor
