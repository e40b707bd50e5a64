/- The model's SwapStill. -/
import Derived.Test.YtlncinbphgallaaL3Both
import Derived.Test.YtlncinbphgallaaL4All
namespace Go.Proofs.Ytlncinbphgallaa
set_option linter.unusedVariables false
set_option linter.unusedSimpArgs false
open Go.RowKit

theorem specSwapStill_any (n c : Nat) (a : Option Addr) (A : Nat → Option Addr) (L C : Nat → Nat) (Z : Nat → Nat → Int) (m d : Nat) (b : Option Addr) (G : Nat → Int) (w : World) (hn0 : n ≤ 1048576) (hL0 : ∀ r, r < n → L r ≤ 1048576) (ha0 : Tab w a n A L C Z) (hm1 : m ≤ 1048576) (hb1 : Rd w b m G) :
    Calls Try.prog 30 #[.slice a n c, .slice b m d] w fun e w' => e = .returned (.bool (tt (StillOk n L Z m G))) ∧ Below w.heap.size w w' := by
  have H := Lib.hid (l3Both_any n c a A L C Z m d b G w hn0 hL0 ha0 hm1 hb1)
  by_cases h1 : GivenOk n L Z m G
  · have T1 := Lib.hid (tt_of h1)
    obtain rfl : m = n := h1.2.1
    have HM := Lib.hid (l4All_any m c a A L C Z d b G w h1 ha0 hb1)
    have hle := mayL_le (Z := Z) (G := G) h1.1.1.2
    obtain ⟨N, hN⟩ : ∃ N, N = (mayL m Z G).length := ⟨_, rfl⟩
    rw [← hN] at hle
    have QN := Lib.hid hN
    have HE := Lib.hid (show decide (N = 0) = tt (StillOk m L Z m G) from by
      by_cases h2 : N = 0
      · rw [tt_of (show StillOk m L Z m G from ⟨h1, mayL_nil.1 (List.length_eq_zero_iff.1 (by rw [← hN]; exact h2))⟩)]; exact decide_eq_true h2
      · rw [tt_no (show ¬ StillOk m L Z m G from fun h => h2 (by rw [hN, mayL_nil.2 h.2]; rfl))]; exact decide_eq_false h2)
    have d1 : ((N : Int) == 0) = decide (N = 0) := by
      by_cases h2 : N = 0
      · subst h2; rfl
      · rw [decide_eq_false h2]; simp; exact h2
    have HD := Lib.hid d1
    clear h1 ha0 hL0 hb1 hN d1
    go_enter Try.func30, Try.ntmps30
    go_wp2_with (first
      | (go_at_call 55; refine H.out.mono ?_; rintro e w' ⟨rfl, rfl⟩; rw [T1.out])
      | (go_at_call 56; refine HM.out.mono ?_; rintro e w1 ⟨v, G', Cp, rfl, hMk, hb⟩; rw [pairsL_length, ← QN.out] at hMk; obtain ⟨a1, c1, rfl, hO⟩ := hMk.slice; have HB := Lib.hid hb; clear hb hO hMk))
    go_ret
    exact ⟨by rw [← HE.out, ← HD.out]; rfl, HB.out⟩
  · have T1 := Lib.hid (tt_no h1)
    have HE := Lib.hid (tt_no (show ¬ StillOk n L Z m G from fun h => h1 h.1))
    clear h1 ha0 hL0 hb1
    go_enter Try.func30, Try.ntmps30
    go_wp2_with (first
      | (go_at_call 55; refine H.out.mono ?_; rintro e w' ⟨rfl, rfl⟩; rw [T1.out]))
    go_ret
    exact ⟨by rw [HE.out]; rfl, Below.refl _ _⟩
end Go.Proofs.Ytlncinbphgallaa
