/- The program's HouseTurns. -/
import Derived.Test.YtipfjblnanafnaaTradeEnds
namespace Go.Proofs.Ytipfjblnanafnaa
set_option linter.unusedVariables false
set_option linter.unusedSimpArgs false
open Go.RowKit

theorem houseTurns_any (n c : Nat) (a : Option Addr) (A : Nat → Option Addr) (L C : Nat → Nat) (Z : Nat → Nat → Int) (w : World) (hn0 : n ≤ 1048576) (hL0 : ∀ r, r < n → L r ≤ 1048576) (ha0 : Tab w a n A L C Z) :
    Calls Try.prog 24 #[.slice a n c] w fun e w' => e = .returned (.tuple #[.int .i64 (ifWishes n L Z (turnsN Z n : Nat)), .bool (tt (IsWishes n L Z))]) ∧ Below w.heap.size w w' := by
  have H := Lib.hid (readWishes_any n c a A L C Z w hn0 hL0 ha0)
  by_cases h : IsWishes n L Z
  · have T := Lib.hid (tt_of h)
    have TN := Lib.hid (ifWishes_yes (x := (turnsN Z n : Nat)) h)
    have h1 := (turns_is h).2.1
    have HT := Lib.hid (trade_any n c a A L C Z w h ha0)
    clear h ha0 hL0
    go_enter Try.func24, Try.ntmps24
    go_wp2_with (first
      | (go_at_call 40; refine H.out.mono ?_; rintro e w' ⟨rfl, rfl⟩; rw [T.out])
      | (go_at_call 46; refine HT.out.mono ?_; rintro e w1 ⟨v, rfl, hR, hO, hb⟩; obtain ⟨gv, cv, rfl⟩ := owns_form hO h1; have HB := Lib.hid hb; clear hR hO hb))
    go_ret2
    exact ⟨by rw [T.out, TN.out]; rfl, HB.out⟩
  · have T := Lib.hid (tt_no h)
    have TN := Lib.hid (ifWishes_no (x := (turnsN Z n : Nat)) h)
    clear h ha0 hL0
    go_enter Try.func24, Try.ntmps24
    go_wp2_with (go_at_call 40; refine H.out.mono ?_; rintro e w' ⟨rfl, rfl⟩; rw [T.out])
    go_ret2
    exact ⟨by rw [T.out, TN.out]; rfl, Below.refl _ _⟩
end Go.Proofs.Ytipfjblnanafnaa
