/- The model's BidBest. -/
import Derived.Test.YtopoeeahociohaaSpecBidIn
import Derived.Test.YtopoeeahociohaaBidMost
import Derived.Test.YtopoeeahociohaaL7Most
namespace Go.Proofs.Ytopoeeahociohaa
set_option linter.unusedVariables false
set_option linter.unusedSimpArgs false
open Go.RowKit

set_option maxHeartbeats 800000 in
theorem specBidBest_any (n c : Nat) (a : Option Addr) (A : Nat → Option Addr) (L C : Nat → Nat) (Z : Nat → Nat → Int) (w : World) (hn0 : n ≤ 1048576) (hL0 : ∀ r, r < n → L r ≤ 1048576) (ha0 : Tab w a n A L C Z) :
    Calls Try.prog 24 #[.slice a n c] w fun e w' => e = .returned (.tuple #[.int .i64 (ifT (IsBids n L Z) (bestV n (L 0) Z)), .bool (tt (IsBids n L Z))]) ∧ Below w.heap.size w w' := by
  have H := Lib.hid (specBidIn_any n c a A L C Z w hn0 hL0 ha0)
  by_cases h1 : IsBids n L Z
  · have T1 := Lib.hid (tt_of h1)
    have T2 := Lib.hid (ifT_yes (x := bestV n (L 0) Z) h1)
    have HM := Lib.hid (fun w' (hb : Below w.heap.size w w') => l7Best_any n c a A L C Z w' h1 (ha0.below (Nat.le_refl _) hb))
    obtain ⟨x, hx⟩ : ∃ x, x = bestV n (L 0) Z := ⟨_, rfl⟩
    rw [← hx] at HM T2 ⊢
    clear h1 ha0 hx
    go_enter Try.func24, Try.ntmps24
    go_wp2_with (first
      | (go_at_call 16; refine H.out.mono ?_; rintro e w1 ⟨rfl, hb⟩; rw [T1.out]; have B1 := Lib.hid hb; clear hb)
      | (go_at_call 51; refine (HM.out _ B1.out).mono ?_; rintro e w2 ⟨rfl, hb⟩; have B2 := Lib.hid (B1.out.trans (hb.mono B1.out.size)); clear hb))
    go_ret2
    exact ⟨by rw [T1.out, T2.out]; rfl, B2.out⟩
  · have T1 := Lib.hid (tt_no h1)
    have T2 := Lib.hid (ifT_no (x := bestV n (L 0) Z) h1)
    clear h1 ha0
    go_enter Try.func24, Try.ntmps24
    go_wp2_with (go_at_call 16; refine H.out.mono ?_; rintro e w1 ⟨rfl, hb⟩; rw [T1.out]; have B1 := Lib.hid hb; clear hb)
    go_ret2
    exact ⟨by rw [T1.out, T2.out]; rfl, B1.out⟩
end Go.Proofs.Ytopoeeahociohaa
