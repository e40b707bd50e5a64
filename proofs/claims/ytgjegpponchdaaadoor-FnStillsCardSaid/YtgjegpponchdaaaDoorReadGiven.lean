/- The program's readGiven. -/
import Derived.Test.YtgjegpponchdaaaDoorWishes
namespace Go.Proofs.YtgjegpponchdaaaDoor
set_option linter.unusedVariables false
set_option linter.unusedSimpArgs false
open Go.RowKit

theorem readGiven_any (n c : Nat) (a : Option Addr) (A : Nat → Option Addr) (L C : Nat → Nat) (Z : Nat → Nat → Int) (m d : Nat) (b : Option Addr) (G : Nat → Int) (w : World) (hn0 : n ≤ 1048576) (hL0 : ∀ r, r < n → L r ≤ 1048576) (ha0 : Tab w a n A L C Z) (hm : m ≤ 1048576) (hb : Rd w b m G) :
    Calls Tryd.prog 36 #[.slice a n c, .slice b m d] w (RetWishes (tt (GivenOk n L Z m G)) a n c w) := by
  have H := Lib.hid (readWishes_any n c a A L C Z w hn0 hL0 ha0)
  by_cases h1 : IsWishes n L Z
  · have T1 := Lib.hid (tt_of h1)
    have HE := Lib.hid (hasEach_any n m d b G w h1.1.2 hm hb)
    by_cases h2 : IsEach n m G
    · have T2 := Lib.hid (tt_of h2)
      have T3 := Lib.hid (tt_of (show GivenOk n L Z m G from ⟨h1, h2⟩))
      clear h1 h2 ha0 hL0 hb
      go_enter Tryd.func36, Tryd.ntmps36
      go_wp2_with (first
        | (go_at_call 39; refine H.out.mono ?_; rintro e w' ⟨rfl, rfl⟩; rw [T1.out])
        | (go_at_call 59; refine HE.out.mono ?_; rintro e w' ⟨rfl, rfl⟩; rw [T2.out]))
      go_ret2
      exact ⟨by rw [T3.out]; rfl, rfl⟩
    · have T2 := Lib.hid (tt_no h2)
      have T3 := Lib.hid (tt_no (show ¬ GivenOk n L Z m G from fun h => h2 h.2))
      clear h1 h2 ha0 hL0 hb
      go_enter Tryd.func36, Tryd.ntmps36
      go_wp2_with (first
        | (go_at_call 39; refine H.out.mono ?_; rintro e w' ⟨rfl, rfl⟩; rw [T1.out])
        | (go_at_call 59; refine HE.out.mono ?_; rintro e w' ⟨rfl, rfl⟩; rw [T2.out]))
      go_ret2
      exact ⟨by rw [T3.out]; rfl, rfl⟩
  · have T1 := Lib.hid (tt_no h1)
    have T3 := Lib.hid (tt_no (show ¬ GivenOk n L Z m G from fun h => h1 h.1))
    clear h1 ha0 hL0 hb
    go_enter Tryd.func36, Tryd.ntmps36
    go_wp2_with (first
      | (go_at_call 39; refine H.out.mono ?_; rintro e w' ⟨rfl, rfl⟩; rw [T1.out]))
    go_ret2
    exact ⟨by rw [T3.out]; rfl, rfl⟩

end Go.Proofs.YtgjegpponchdaaaDoor
