/- What PriceFind finds: the values to money 0. -/
import Derived.Test.YtakipaehoeapcaaStepModel
import Derived.Test.YtakipaehoeapcaaLeastModel
namespace Go.Proofs.Ytakipaehoeapcaa
set_option linter.unusedVariables false

theorem rmax_ge {f : Nat → Int} {k j : Nat} (h : j < k) : f j ≤ rmax f k := by
  induction k with
  | zero => omega
  | succ k ih =>
    by_cases e : j = k
    · subst e; exact Int.le_max_right _ _
    · exact Int.le_trans (ih (by omega)) (Int.le_max_left _ _)
/-- Values of s changes, s at least 1, are at least 1; staying counts 12. -/
theorem stepV_stay {n : Nat} {L : Nat → Nat} {Z : Nat → Nat → Int} (h : IsRates n L Z) {i y s : Nat} (hi : i < n) (hy : y < n) : 12 * stepV Z n i s y ≤ stepV Z n i (s + 1) y := by
  have h1 : (fun x => stepV Z n i s x * Z x y) y ≤ rmax (fun x => stepV Z n i s x * Z x y) n := rmax_ge hy
  have h2 : Z y y = 12 := ((h.2 y hy).2 y hy).2 rfl
  show 12 * stepV Z n i s y ≤ rmax (fun x => stepV Z n i s x * Z x y) n
  have h3 : (fun x => stepV Z n i s x * Z x y) y = 12 * stepV Z n i s y := by show stepV Z n i s y * Z y y = _; rw [h2, Int.mul_comm]
  omega
theorem stepV_pos {n : Nat} {L : Nat → Nat} {Z : Nat → Nat → Int} (h : IsRates n L Z) {i y s : Nat} (hi : i < n) (hy : y < n) (hs : 1 ≤ s) : 1 ≤ stepV Z n i s y := by
  induction s with
  | zero => omega
  | succ s ih =>
    by_cases e : s = 0
    · subst e
      have h1 : (fun x => stepV Z n i 0 x * Z x y) i ≤ rmax (fun x => stepV Z n i 0 x * Z x y) n := rmax_ge hi
      have h2 := ((h.2 i hi).2 y hy).1.1
      show 1 ≤ rmax (fun x => stepV Z n i 0 x * Z x y) n
      have h3 : (fun x => stepV Z n i 0 x * Z x y) i = Z i y := by show (if i = i then (1 : Int) else 0) * Z i y = _; rw [if_pos rfl, Int.one_mul]
      omega
    · have := stepV_stay h (s := s) hi hy
      have := ih (by omega)
      omega
/-- For each money the value to money 0. -/
def foundF (Z : Nat → Nat → Int) (n : Nat) (i : Nat) : Int := stepV Z n i (n - 1) 0
theorem foundF_range {n : Nat} {L : Nat → Nat} {Z : Nat → Nat → Int} (h : IsRates n L Z) {i : Nat} (hi : i < n) : 1 ≤ foundF Z n i ∧ foundF Z n i ≤ 1000000000000000000 := by
  have h2 := h.1.1
  have h5 := h.1.2
  refine ⟨stepV_pos h hi (by omega) (by omega), ?_⟩
  have := (stepV_bound (T := Z) (n := n) (i := i) (fun x y hx hy => by have := ((h.2 x hx).2 y hy).1; omega) (n - 1) 0 (by omega) (by omega)).2
  unfold foundF
  omega
end Go.Proofs.Ytakipaehoeapcaa
