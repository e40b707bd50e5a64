/- The program's BidBest. -/
import Derived.Test.YtbbcafmmgllfeaaBidMost
namespace Go.Proofs.Ytbbcafmmgllfeaa
set_option linter.unusedVariables false
set_option linter.unusedSimpArgs false
open Go.RowKit

set_option maxHeartbeats 800000 in
theorem bidBest_any (n c : Nat) (a : Option Addr) (A : Nat → Option Addr) (L C : Nat → Nat) (Z : Nat → Nat → Int) (w : World) (hn0 : n ≤ 1048576) (hL0 : ∀ r, r < n → L r ≤ 1048576) (ha0 : Tab w a n A L C Z) :
    Calls Try.prog 20 #[.slice a n c] w fun e w' => e = .returned (.tuple #[.int .i64 (ifT (IsBids n L Z) (bestV n (L 0) Z)), .bool (tt (IsBids n L Z))]) ∧ Below w.heap.size w w' := by
  have H := Lib.hid (readBids_any n c a A L C Z w hn0 hL0 ha0)
  by_cases h1 : IsBids n L Z
  · have T1 := Lib.hid (tt_of h1)
    have T2 := Lib.hid (ifT_yes (x := bestV n (L 0) Z) h1)
    have HM := Lib.hid (most_all n c (L 0) a A L C Z w h1.1.1.1 h1.1.1.2 (by have := h1.1.2.2; omega) h1.rows h1.cells ha0)
    obtain ⟨x, hx⟩ : ∃ x, x = bestV n (L 0) Z := ⟨_, rfl⟩
    rw [← hx] at HM T2 ⊢
    clear h1 ha0 hx
    go_enter Try.func20, Try.ntmps20
    go_wp2_with (first
      | (go_at_call 36; refine H.out.mono ?_; rintro e w' ⟨rfl, rfl⟩; rw [T1.out, show bidsV true a n c = .slice a n c from rfl])
      | (go_at_call 37; refine HM.out.mono ?_; rintro e w' ⟨rfl, hb⟩; have B := Lib.hid hb; clear hb))
    go_ret2
    exact ⟨by rw [T1.out, T2.out]; rfl, B.out⟩
  · have T1 := Lib.hid (tt_no h1)
    have T2 := Lib.hid (ifT_no (x := bestV n (L 0) Z) h1)
    clear h1 ha0
    go_enter Try.func20, Try.ntmps20
    go_wp2_with (go_at_call 36; refine H.out.mono ?_; rintro e w' ⟨rfl, rfl⟩; rw [T1.out, show bidsV false a n c = .slice none 0 0 from rfl])
    go_ret2
    exact ⟨by rw [T1.out, T2.out]; rfl, Below.refl _ _⟩
end Go.Proofs.Ytbbcafmmgllfeaa
