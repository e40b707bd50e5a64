/- The model's l4People. -/
import Derived.Test.YtlncinbphgallaaL3Both
namespace Go.Proofs.Ytlncinbphgallaa
set_option linter.unusedVariables false
set_option linter.unusedSimpArgs false
open Go.RowKit

theorem l4People_any (n c : Nat) (a : Option Addr) (A : Nat → Option Addr) (L C : Nat → Nat) (Z : Nat → Nat → Int) (m d : Nat) (b : Option Addr) (G : Nat → Int) (x y : Int) (w : World) (hn0 : n ≤ 1048576) (hL0 : ∀ r, r < n → L r ≤ 1048576) (ha0 : Tab w a n A L C Z) (hm : m ≤ 1048576) (hb : Rd w b m G) :
    Calls Try.prog 50 #[.slice a n c, .slice b m d, .int .i64 x, .int .i64 y] w fun e w' => e = .returned (.bool (tt (TwoPpl n L Z m G x y))) ∧ w = w' := by
  have H := Lib.hid (l3Both_any n c a A L C Z m d b G w hn0 hL0 ha0 hm hb)
  by_cases h1 : GivenOk n L Z m G
  · have T1 := Lib.hid (tt_of h1)
    by_cases h2 : InR x 0 ((n : Int) - 1)
    · have T2 := Lib.hid (tt_of h2)
      by_cases h3 : InR y 0 ((n : Int) - 1)
      · have T3 := Lib.hid (tt_of h3)
        by_cases h4 : x = y
        · have d1 : (x != y) = false := by simp [h4]
          have HE := Lib.hid (tt_no (show ¬ TwoPpl n L Z m G x y from fun h => h.2 h4))
          clear h1 h2 h3 h4 ha0 hL0 hb
          go_enter Try.func50, Try.ntmps50
          go_wp2_with (first
            | (go_at_call 55; refine H.out.mono ?_; rintro e w' ⟨rfl, rfl⟩; rw [T1.out])
            | (go_at_call 81; refine (l6In_any _ _ _ _).mono ?_; rintro e w' ⟨rfl, rfl⟩; first | rw [T2.out] | rw [T3.out]))
          go_ret
          exact ⟨by rw [HE.out]; rfl, rfl⟩
        · have d1 : (x != y) = true := by simp [h4]
          have HE := Lib.hid (tt_of (show TwoPpl n L Z m G x y from ⟨⟨h1, h2, h3⟩, h4⟩))
          clear h1 h2 h3 h4 ha0 hL0 hb
          go_enter Try.func50, Try.ntmps50
          go_wp2_with (first
            | (go_at_call 55; refine H.out.mono ?_; rintro e w' ⟨rfl, rfl⟩; rw [T1.out])
            | (go_at_call 81; refine (l6In_any _ _ _ _).mono ?_; rintro e w' ⟨rfl, rfl⟩; first | rw [T2.out] | rw [T3.out]))
          go_ret
          exact ⟨by rw [HE.out]; rfl, rfl⟩
      · have T3 := Lib.hid (tt_no h3)
        have HE := Lib.hid (tt_no (show ¬ TwoPpl n L Z m G x y from fun h => h3 h.1.2.2))
        clear h1 h2 h3 ha0 hL0 hb
        go_enter Try.func50, Try.ntmps50
        go_wp2_with (first
          | (go_at_call 55; refine H.out.mono ?_; rintro e w' ⟨rfl, rfl⟩; rw [T1.out])
          | (go_at_call 81; refine (l6In_any _ _ _ _).mono ?_; rintro e w' ⟨rfl, rfl⟩; first | rw [T2.out] | rw [T3.out]))
        go_ret
        exact ⟨by rw [HE.out]; rfl, rfl⟩
    · have T2 := Lib.hid (tt_no h2)
      have HE := Lib.hid (tt_no (show ¬ TwoPpl n L Z m G x y from fun h => h2 h.1.2.1))
      clear h1 h2 ha0 hL0 hb
      go_enter Try.func50, Try.ntmps50
      go_wp2_with (first
        | (go_at_call 55; refine H.out.mono ?_; rintro e w' ⟨rfl, rfl⟩; rw [T1.out])
        | (go_at_call 81; refine (l6In_any _ _ _ _).mono ?_; rintro e w' ⟨rfl, rfl⟩; rw [T2.out]))
      go_ret
      exact ⟨by rw [HE.out]; rfl, rfl⟩
  · have T1 := Lib.hid (tt_no h1)
    have HE := Lib.hid (tt_no (show ¬ TwoPpl n L Z m G x y from fun h => h1 h.1.1))
    clear h1 ha0 hL0 hb
    go_enter Try.func50, Try.ntmps50
    go_wp2_with (first
      | (go_at_call 55; refine H.out.mono ?_; rintro e w' ⟨rfl, rfl⟩; rw [T1.out]))
    go_ret
    exact ⟨by rw [HE.out]; rfl, rfl⟩
end Go.Proofs.Ytlncinbphgallaa
