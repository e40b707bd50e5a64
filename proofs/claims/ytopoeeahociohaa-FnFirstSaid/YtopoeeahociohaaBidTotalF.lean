/- The program's BidTotal. -/
import Derived.Test.YtopoeeahociohaaBidMost
import Derived.Test.YtopoeeahociohaaHasDeal
namespace Go.Proofs.Ytopoeeahociohaa
set_option linter.unusedVariables false
set_option linter.unusedSimpArgs false
open Go.RowKit

set_option maxHeartbeats 800000 in
theorem bidTotalF_all (n c : Nat) (a : Option Addr) (A : Nat → Option Addr) (L C : Nat → Nat) (Z : Nat → Nat → Int) (q d : Nat) (b : Option Addr) (D : Nat → Int) (w : World) (hn0 : n ≤ 1048576) (hL0 : ∀ r, r < n → L r ≤ 1048576) (ha0 : Tab w a n A L C Z) (hm1 : q ≤ 1048576) (hb1 : Rd w b q D) :
    Calls Try.prog 22 #[.slice a n c, .slice b q d] w fun e w' => e = .returned (.tuple #[.int .i64 (ifT (DealOk n L Z q D) (dealT Z D q)), .bool (tt (DealOk n L Z q D))]) ∧ Below w.heap.size w w' := by
  have H := Lib.hid (readBidsAndDeal_any n c q d a b A L C Z D w hn0 hL0 ha0 hm1 hb1)
  by_cases h1 : DealOk n L Z q D
  · have T1 := Lib.hid (tt_of h1)
    have T2 := Lib.hid (ifT_yes (x := dealT Z D q) h1)
    have HT := Lib.hid (fun w' (hb : Below w.heap.size w w') => bidTotal_any n c q d (L 0) a b A L C Z D w' (by have := h1.2; omega) (by have := h1.1.1.1.1.2; omega) h1.1.1.rows h1.1.1.cells h1.1.2.1 (ha0.below (Nat.le_refl _) hb) (hb1.below (Nat.le_refl _) hb))
    obtain ⟨x, hx⟩ : ∃ x, x = dealT Z D q := ⟨_, rfl⟩
    rw [← hx] at HT T2 ⊢
    clear h1 ha0 hb1 hx
    go_enter Try.func22, Try.ntmps22
    go_wp2_with (first
      | (go_at_call 49; refine H.out.mono ?_; rintro e w1 ⟨rfl, hb1⟩; rw [T1.out, show bidsV true a n c = .slice a n c from rfl]; have B1 := Lib.hid hb1; clear hb1)
      | (go_at_call 50; refine (HT.out _ B1.out).mono ?_; rintro e w' ⟨rfl, rfl⟩))
    go_ret2
    exact ⟨by rw [T1.out, T2.out]; rfl, B1.out⟩
  · have T1 := Lib.hid (tt_no h1)
    have T2 := Lib.hid (ifT_no (x := dealT Z D q) h1)
    clear h1 ha0 hb1
    go_enter Try.func22, Try.ntmps22
    go_wp2_with (go_at_call 49; refine H.out.mono ?_; rintro e w1 ⟨rfl, hb1⟩; rw [T1.out, show bidsV false a n c = .slice none 0 0 from rfl]; have B1 := Lib.hid hb1; clear hb1)
    go_ret2
    exact ⟨by rw [T1.out, T2.out]; rfl, B1.out⟩
theorem bidTotalF_any (n c : Nat) (a : Option Addr) (A : Nat → Option Addr) (L C : Nat → Nat) (Z : Nat → Nat → Int) (q d : Nat) (b : Option Addr) (D : Nat → Int) (w : World) (hn0 : n ≤ 1048576) (hL0 : ∀ r, r < n → L r ≤ 1048576) (ha0 : Tab w a n A L C Z) (hm1 : q ≤ 1048576) (hmd1 : q ≤ d) (hb1 : Rd w b q D) :
    Calls Try.prog 22 #[.slice a n c, .slice b q d] w fun e w' => e = .returned (.tuple #[.int .i64 (ifT (DealOk n L Z q D) (dealT Z D q)), .bool (tt (DealOk n L Z q D))]) ∧ Below w.heap.size w w' :=
  bidTotalF_all n c a A L C Z q d b D w hn0 hL0 ha0 hm1 hb1
end Go.Proofs.Ytopoeeahociohaa
