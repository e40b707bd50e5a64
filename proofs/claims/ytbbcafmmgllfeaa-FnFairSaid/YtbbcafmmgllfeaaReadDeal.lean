/- The program's readBidsAndDeal. -/
import Derived.Test.YtbbcafmmgllfeaaHasDeal
namespace Go.Proofs.Ytbbcafmmgllfeaa
set_option linter.unusedVariables false
set_option linter.unusedSimpArgs false
open Go.RowKit

set_option maxHeartbeats 800000 in
theorem readBidsAndDeal_any (n c q d : Nat) (a b : Option Addr) (A : Nat → Option Addr) (L C : Nat → Nat) (Z : Nat → Nat → Int) (D : Nat → Int) (w : World) (hn0 : n ≤ 1048576) (hL0 : ∀ r, r < n → L r ≤ 1048576) (ha0 : Tab w a n A L C Z) (hm1 : q ≤ 1048576) (hb1 : Rd w b q D) :
    Calls Try.prog 45 #[.slice a n c, .slice b q d] w fun e w' => e = .returned (.tuple #[bidsV (tt (DealOk n L Z q D)) a n c, .bool (tt (DealOk n L Z q D))]) ∧ Below w.heap.size w w' := by
  have H := Lib.hid (readBids_any n c a A L C Z w hn0 hL0 ha0)
  by_cases h1 : IsBids n L Z
  · have T1 := Lib.hid (tt_of h1)
    have HD := Lib.hid (hasDeal_any n c q d a b A L C Z D w h1.1.1.1 h1.1.1.2 h1.1.2.2 hm1 ha0 hb1)
    by_cases h2 : IsDeal q (L 0) D ∧ q = n
    · have T2 := Lib.hid (tt_of h2)
      have T3 := Lib.hid (tt_of (show DealOk n L Z q D from ⟨⟨h1, h2.1⟩, h2.2⟩))
      clear h1 h2 ha0 hb1
      go_enter Try.func45, Try.ntmps45
      go_wp2_with (first
        | (go_at_call 36; refine H.out.mono ?_; rintro e w' ⟨rfl, rfl⟩; rw [T1.out, show bidsV true a n c = .slice a n c from rfl])
        | (go_at_call 30; refine HD.out.mono ?_; rintro e w' ⟨rfl, hb⟩; rw [T2.out]; have B := Lib.hid hb; clear hb))
      go_ret2
      exact ⟨by rw [T3.out]; rfl, B.out⟩
    · have T2 := Lib.hid (tt_no h2)
      have T3 := Lib.hid (tt_no (show ¬ DealOk n L Z q D from fun h => h2 ⟨h.1.2, h.2⟩))
      clear h1 h2 ha0 hb1
      go_enter Try.func45, Try.ntmps45
      go_wp2_with (first
        | (go_at_call 36; refine H.out.mono ?_; rintro e w' ⟨rfl, rfl⟩; rw [T1.out, show bidsV true a n c = .slice a n c from rfl])
        | (go_at_call 30; refine HD.out.mono ?_; rintro e w' ⟨rfl, hb⟩; rw [T2.out]; have B := Lib.hid hb; clear hb))
      go_ret2
      exact ⟨by rw [T3.out]; rfl, B.out⟩
  · have T1 := Lib.hid (tt_no h1)
    have T3 := Lib.hid (tt_no (show ¬ DealOk n L Z q D from fun h => h1 h.1.1))
    clear h1 ha0 hb1
    go_enter Try.func45, Try.ntmps45
    go_wp2_with (go_at_call 36; refine H.out.mono ?_; rintro e w' ⟨rfl, rfl⟩; rw [T1.out, show bidsV false a n c = .slice none 0 0 from rfl])
    go_ret2
    exact ⟨by rw [T3.out]; rfl, Below.refl _ _⟩
end Go.Proofs.Ytbbcafmmgllfeaa
