/- The model's TurnTake. -/
import Derived.Test.YtipfjblnanafnaaL5Take
import Derived.Test.YtipfjblnanafnaaL3Both
namespace Go.Proofs.Ytipfjblnanafnaa
set_option linter.unusedVariables false
set_option linter.unusedSimpArgs false
open Go.RowKit

theorem specTurnTake_any (n c : Nat) (a : Option Addr) (A : Nat → Option Addr) (L C : Nat → Nat) (Z : Nat → Nat → Int) (m d : Nat) (b : Option Addr) (G : Nat → Int) (w : World) (hn0 : n ≤ 1048576) (hL0 : ∀ r, r < n → L r ≤ 1048576) (ha0 : Tab w a n A L C Z) (hm1 : m ≤ 1048576) (hb1 : Rd w b m G) :
    Calls Try.prog 11 #[.slice a n c, .slice b m d] w (RetIB (tt (GivenOk n L Z m G)) (takeN n L Z m G) (tkF Z n G n) w) := by
  have H := Lib.hid (l3Both_any n c a A L C Z m d b G w hn0 hL0 ha0 hm1 hb1)
  by_cases h1 : GivenOk n L Z m G
  · have T1 := Lib.hid (tt_of h1)
    have TN := Lib.hid (takeN_yes h1)
    obtain rfl : m = n := h1.2.1
    have HM := Lib.hid (l5Take_any m c d a b A L C Z G w h1 ha0 hb1)
    clear h1 ha0 hL0 hb1
    go_enter Try.func11, Try.ntmps11
    go_wp2_with (first
      | (go_at_call 38; refine H.out.mono ?_; rintro e w' ⟨rfl, rfl⟩; rw [T1.out])
      | (go_at_call 39; refine HM.out.mono ?_; rintro e w1 ⟨g, cap, rfl, ⟨hg1, hg2, hg3⟩, hO, hb⟩; have HO := Lib.hid hO; have HB := Lib.hid hb; clear hb hO))
    go_ret2
    exact ⟨_, _, by rw [T1.out, TN.out]; rfl, by rw [TN.out]; exact .inr ⟨g, hg1, hg2, HO.out⟩, HB.out⟩
  · have T1 := Lib.hid (tt_no h1)
    have TN := Lib.hid (takeN_no h1)
    clear h1 ha0 hL0 hb1
    go_enter Try.func11, Try.ntmps11
    go_wp2_with (first
      | (go_at_call 38; refine H.out.mono ?_; rintro e w' ⟨rfl, rfl⟩; rw [T1.out]))
    go_ret2
    exact ⟨_, _, by rw [T1.out, TN.out]; rfl, .inl TN.out, below_alloc (Below.refl _ _) _⟩
end Go.Proofs.Ytipfjblnanafnaa
