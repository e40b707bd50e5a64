/- The program's BidIn. -/
import Derived.Test.YtbmkgkiochhdmaaBidMost
namespace Go.Proofs.Ytbmkgkiochhdmaa
set_option linter.unusedVariables false
set_option linter.unusedSimpArgs false
open Go.RowKit

theorem bidIn_any (n c : Nat) (a : Option Addr) (A : Nat → Option Addr) (L C : Nat → Nat) (Z : Nat → Nat → Int) (w : World) (hn0 : n ≤ 1048576) (hL0 : ∀ r, r < n → L r ≤ 1048576) (ha0 : Tab w a n A L C Z) :
    Calls Try.prog 11 #[.slice a n c] w fun e w' => e = .returned (.bool (tt (IsBids n L Z))) ∧ Below w.heap.size w w' := by
  have H := Lib.hid (readBids_any n c a A L C Z w hn0 hL0 ha0)
  clear ha0
  by_cases h1 : IsBids n L Z
  · have T1 := Lib.hid (tt_of h1)
    clear h1
    go_enter Try.func11, Try.ntmps11
    go_wp2_with (go_at_call 34; refine H.out.mono ?_; rintro e w' ⟨rfl, rfl⟩; rw [T1.out, show bidsV true a n c = .slice a n c from rfl])
    go_ret
    exact ⟨by rw [T1.out]; rfl, Below.refl _ _⟩
  · have T1 := Lib.hid (tt_no h1)
    clear h1
    go_enter Try.func11, Try.ntmps11
    go_wp2_with (go_at_call 34; refine H.out.mono ?_; rintro e w' ⟨rfl, rfl⟩; rw [T1.out, show bidsV false a n c = .slice none 0 0 from rfl])
    go_ret
    exact ⟨by rw [T1.out]; rfl, Below.refl _ _⟩
end Go.Proofs.Ytbmkgkiochhdmaa
