/- Trading in circles comes to an end; the program's trade. -/
import Derived.Test.YtgjegpponchdaaaDoorTrade
import Derived.Test.YtgjegpponchdaaaDoorTraders
namespace Go.Proofs.YtgjegpponchdaaaDoor
set_option linter.unusedVariables false
set_option linter.unusedSimpArgs false
open Go.RowKit

theorem turns_some {n : Nat} {L : Nat → Nat} {Z : Nat → Nat → Int} (hW : IsWishes n L Z) : ∃ t, IsTurns Z n t ∧ t ≤ n := by
  have hlen : ∀ t, (∀ s, s < t → 0 < (pplL n (tS Z n s)).length) → (pplL n (tS Z n t)).length + t ≤ n := by
    intro t
    induction t with
    | zero => intro _; rw [ppl_zero, List.length_range]; omega
    | succ t ih =>
      intro h
      have h1 := ih (fun s hs => h s (by omega))
      have h2 := left_less hW (h t (by omega))
      omega
  have hex : ∃ t, t ≤ n ∧ (pplL n (tS Z n t)).length = 0 := by
    by_cases e : ∃ t, t ≤ n ∧ (pplL n (tS Z n t)).length = 0
    · exact e
    · have h1 := hlen (n + 1) (fun s hs => by
        rcases Nat.eq_zero_or_pos (pplL n (tS Z n s)).length with h | h
        · exact absurd ⟨s, by omega, h⟩ e
        · exact h)
      omega
  obtain ⟨t, ht, h0⟩ := hex
  obtain ⟨s, hs, h1, h2⟩ := first_place (P := fun t => (pplL n (tS Z n t)).length = 0) (n := n + 1) (show t < n + 1 by omega) h0
  refine ⟨s, ⟨fun y => ?_, fun r hr => ?_⟩, by omega⟩
  · cases e : tS Z n s y
    · rfl
    · have := (mem_pplL (tS_ppl Z n s)).2 e
      rw [List.eq_nil_of_length_eq_zero h1] at this
      simp at this
  · obtain ⟨j, hj⟩ := List.exists_mem_of_length_pos (Nat.pos_of_ne_zero (h2 r hr))
    exact ⟨j, (mem_pplL (tS_ppl Z n r)).1 hj⟩
theorem turns_is {n : Nat} {L : Nat → Nat} {Z : Nat → Nat → Int} (hW : IsWishes n L Z) : IsTurns Z n (turnsN Z n) ∧ 1 ≤ turnsN Z n ∧ turnsN Z n ≤ n := by
  obtain ⟨t, h, hn⟩ := turns_some hW
  rw [turnsN_of h]
  refine ⟨h, ?_, hn⟩
  rcases Nat.eq_zero_or_pos t with e | e
  · subst e
    have h1 : tS Z n 0 0 = true := by show decide (0 < n) = true; have := hW.1.1; simp; omega
    rw [h.1 0] at h1; cases h1
  · exact e
/-- How many a trade gives a house. -/
noncomputable def tradeN (n : Nat) (L : Nat → Nat) (Z : Nat → Nat → Int) : Nat := if tt (IsWishes n L Z) = true then n else 0
theorem tradeN_yes {n : Nat} {L : Nat → Nat} {Z : Nat → Nat → Int} (h : IsWishes n L Z) : tradeN n L Z = n := by unfold tradeN; rw [tt_of h]; rfl
theorem tradeN_no {n : Nat} {L : Nat → Nat} {Z : Nat → Nat → Int} (h : ¬ IsWishes n L Z) : tradeN n L Z = 0 := by unfold tradeN; rw [tt_no h]; rfl
theorem tradeN_le (n : Nat) (L : Nat → Nat) (Z : Nat → Nat → Int) : tradeN n L Z ≤ 1048576 := by
  by_cases h : IsWishes n L Z
  · rw [tradeN_yes h]; have := h.1.2; omega
  · rw [tradeN_no h]; omega
/-- An answer in numbers, where there are wishes. -/
noncomputable def ifWishes (n : Nat) (L : Nat → Nat) (Z : Nat → Nat → Int) (x : Int) : Int := if tt (IsWishes n L Z) = true then x else 0
theorem ifWishes_yes {n : Nat} {L : Nat → Nat} {Z : Nat → Nat → Int} {x : Int} (h : IsWishes n L Z) : ifWishes n L Z x = x := by unfold ifWishes; rw [tt_of h]; rfl
theorem ifWishes_no {n : Nat} {L : Nat → Nat} {Z : Nat → Nat → Int} {x : Int} (h : ¬ IsWishes n L Z) : ifWishes n L Z x = 0 := by unfold ifWishes; rw [tt_no h]; rfl
/-- The set of those on circles when all point for the first time. -/
noncomputable def circleF (Z : Nat → Nat → Int) (n : Nat) : Int := leaveF Z n 0

theorem trade_any (n c : Nat) (a : Option Addr) (A : Nat → Option Addr) (L C : Nat → Nat) (Z : Nat → Nat → Int) (w : World) (hW : IsWishes n L Z) (ha0 : Tab w a n A L C Z) :
    Calls Tryd.prog 45 #[.slice a n c] w (RetTrade n Z w) :=
  trade_of n c a L Z w hW (fun w' hb => traders_any n c a A L C Z w' hW (ha0.below (Nat.le_refl _) hb))
end Go.Proofs.YtgjegpponchdaaaDoor
