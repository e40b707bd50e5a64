/- The program's BidIs. -/
import Derived.Test.YtbbcafmmgllfeaaBidMost
import Derived.Test.YtbbcafmmgllfeaaHasDeal
import Derived.Test.YtbbcafmmgllfeaaReadDeal
namespace Go.Proofs.Ytbbcafmmgllfeaa
set_option linter.unusedVariables false
set_option linter.unusedSimpArgs false
open Go.RowKit

set_option maxHeartbeats 800000 in
theorem bidIs_all (n c : Nat) (a : Option Addr) (A : Nat → Option Addr) (L C : Nat → Nat) (Z : Nat → Nat → Int) (q d : Nat) (b : Option Addr) (D : Nat → Int) (w : World) (hn0 : n ≤ 1048576) (hL0 : ∀ r, r < n → L r ≤ 1048576) (ha0 : Tab w a n A L C Z) (hm1 : q ≤ 1048576) (hb1 : Rd w b q D) :
    Calls Try.prog 12 #[.slice a n c, .slice b q d] w fun e w' => e = .returned (.bool (tt (DealOk n L Z q D ∧ dealT Z D q = bestV n (L 0) Z))) ∧ Below w.heap.size w w' := by
  have H := Lib.hid (readBidsAndDeal_any n c q d a b A L C Z D w hn0 hL0 ha0 hm1 hb1)
  by_cases h1 : DealOk n L Z q D
  · have T1 := Lib.hid (tt_of h1)
    have HT := Lib.hid (fun w' (hb : Below w.heap.size w w') => bidTotal_any n c q d (L 0) a b A L C Z D w' (by have := h1.2; omega) (by have := h1.1.1.1.1.2; omega) h1.1.1.rows h1.1.1.cells h1.1.2.1 (ha0.below (Nat.le_refl _) hb) (hb1.below (Nat.le_refl _) hb))
    have HM := Lib.hid (fun w' (hb : Below w.heap.size w w') => most_all n c (L 0) a A L C Z w' h1.1.1.1.1.1 h1.1.1.1.1.2 (by have := h1.1.1.1.2.2; omega) h1.1.1.rows h1.1.1.cells (ha0.below (Nat.le_refl _) hb))
    have T2 := Lib.hid (tt_congr (show (DealOk n L Z q D ∧ dealT Z D q = bestV n (L 0) Z) ↔ dealT Z D q = bestV n (L 0) Z from ⟨fun h => h.2, fun h => ⟨h1, h⟩⟩))
    rw [T2.out]
    obtain ⟨x, hx⟩ : ∃ x, x = dealT Z D q := ⟨_, rfl⟩
    obtain ⟨y, hy⟩ : ∃ y, y = bestV n (L 0) Z := ⟨_, rfl⟩
    rw [← hx] at HT ⊢
    rw [← hy] at HM ⊢
    have E := Lib.hid (show (x == y) = tt (x = y) by by_cases e : x = y <;> simp [e, tt_of, tt_no])
    clear h1 ha0 hb1 hx hy T2
    go_enter Try.func12, Try.ntmps12
    go_wp2_with (first
      | (go_at_call 45; refine H.out.mono ?_; rintro e w1 ⟨rfl, hb1⟩; rw [T1.out, show bidsV true a n c = .slice a n c from rfl]; have B1 := Lib.hid hb1; clear hb1)
      | (go_at_call 46; refine (HT.out _ B1.out).mono ?_; rintro e w' ⟨rfl, rfl⟩)
      | (go_at_call 37; refine (HM.out _ B1.out).mono ?_; rintro e w2 ⟨rfl, hb⟩; have B2 := Lib.hid (B1.out.trans (hb.mono B1.out.size)); clear hb))
    go_ret
    exact ⟨by rw [← E.out]; rfl, B2.out⟩
  · have T1 := Lib.hid (tt_no h1)
    have T2 := Lib.hid (tt_no (show ¬ (DealOk n L Z q D ∧ dealT Z D q = bestV n (L 0) Z) from fun h => h1 h.1))
    clear h1 ha0 hb1
    go_enter Try.func12, Try.ntmps12
    go_wp2_with (go_at_call 45; refine H.out.mono ?_; rintro e w1 ⟨rfl, hb1⟩; rw [T1.out, show bidsV false a n c = .slice none 0 0 from rfl]; have B1 := Lib.hid hb1; clear hb1)
    go_ret
    exact ⟨by rw [T2.out]; rfl, B1.out⟩
theorem bidIs_any (n c : Nat) (a : Option Addr) (A : Nat → Option Addr) (L C : Nat → Nat) (Z : Nat → Nat → Int) (q d : Nat) (b : Option Addr) (D : Nat → Int) (w : World) (hn0 : n ≤ 1048576) (hL0 : ∀ r, r < n → L r ≤ 1048576) (ha0 : Tab w a n A L C Z) (hm1 : q ≤ 1048576) (hmd1 : q ≤ d) (hb1 : Rd w b q D) :
    Calls Try.prog 12 #[.slice a n c, .slice b q d] w fun e w' => e = .returned (.bool (tt (DealOk n L Z q D ∧ dealT Z D q = bestV n (L 0) Z))) ∧ Below w.heap.size w w' :=
  bidIs_all n c a A L C Z q d b D w hn0 hL0 ha0 hm1 hb1
end Go.Proofs.Ytbbcafmmgllfeaa
