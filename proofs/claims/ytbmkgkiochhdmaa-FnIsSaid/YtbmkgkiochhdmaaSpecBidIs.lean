/- The model's BidIs. -/
import Derived.Test.YtbmkgkiochhdmaaSpecBidIn
import Derived.Test.YtbmkgkiochhdmaaBidMost
import Derived.Test.YtbmkgkiochhdmaaL7Deal
import Derived.Test.YtbmkgkiochhdmaaL7Most
namespace Go.Proofs.Ytbmkgkiochhdmaa
set_option linter.unusedVariables false
set_option linter.unusedSimpArgs false
open Go.RowKit

set_option maxHeartbeats 800000 in
theorem specBidIs_any (n c : Nat) (a : Option Addr) (A : Nat → Option Addr) (L C : Nat → Nat) (Z : Nat → Nat → Int) (q d : Nat) (b : Option Addr) (D : Nat → Int) (w : World) (hn0 : n ≤ 1048576) (hL0 : ∀ r, r < n → L r ≤ 1048576) (ha0 : Tab w a n A L C Z) (hm1 : q ≤ 1048576) (hb1 : Rd w b q D) :
    Calls Try.prog 20 #[.slice a n c, .slice b q d] w fun e w' => e = .returned (.bool (tt (DealOk n L Z q D ∧ dealT Z D q = bestV n (L 0) Z))) ∧ Below w.heap.size w w' := by
  have H := Lib.hid (specBidIn_any n c a A L C Z w hn0 hL0 ha0)
  by_cases h1 : IsBids n L Z
  · have T1 := Lib.hid (tt_of h1)
    have HD := Lib.hid (fun w' (hb : Below w.heap.size w w') => l7Deal_any n c q d (L 0) a b A L C Z D w' h1.1.1.1 rfl h1.1.2.1 h1.1.2.2 hm1 (ha0.below (Nat.le_refl _) hb) (hb1.below (Nat.le_refl _) hb))
    have HM := Lib.hid (fun w' (hb : Below w.heap.size w w') => l7Best_any n c a A L C Z w' h1 (ha0.below (Nat.le_refl _) hb))
    by_cases h2 : IsDeal q (L 0) D ∧ q = n
    · have T2 := Lib.hid (tt_of h2)
      have T3 := Lib.hid (tt_congr (show (DealOk n L Z q D ∧ dealT Z D q = bestV n (L 0) Z) ↔ dealT Z D q = bestV n (L 0) Z from ⟨fun h => h.2, fun h => ⟨⟨⟨h1, h2.1⟩, h2.2⟩, h⟩⟩))
      rw [T3.out]
      have HT := Lib.hid (fun w' (hb : Below w.heap.size w w') => l7Total_any n c q d (L 0) a b A L C Z D w' (by have := h2.2; omega) (by have := h1.1.1.2; omega) h1.rows h1.cells h2.1.1 (ha0.below (Nat.le_refl _) hb) (hb1.below (Nat.le_refl _) hb))
      obtain ⟨x, hx⟩ : ∃ x, x = dealT Z D q := ⟨_, rfl⟩
      obtain ⟨y, hy⟩ : ∃ y, y = bestV n (L 0) Z := ⟨_, rfl⟩
      rw [← hx] at HT ⊢
      rw [← hy] at HM ⊢
      have E := Lib.hid (show (x == y) = tt (x = y) by by_cases e : x = y <;> simp [e, tt_of, tt_no])
      clear h1 h2 ha0 hb1 hx hy T3
      go_enter Try.func20, Try.ntmps20
      go_wp2_with (first
        | (go_at_call 12; refine H.out.mono ?_; rintro e w1 ⟨rfl, hb⟩; rw [T1.out]; have B1 := Lib.hid hb; clear hb)
        | (go_at_call 41; refine (HD.out _ B1.out).mono ?_; rintro e w2 ⟨rfl, hb⟩; rw [T2.out]; have B2 := Lib.hid (B1.out.trans (hb.mono B1.out.size)); clear hb)
        | (go_at_call 42; refine (HT.out _ B2.out).mono ?_; rintro e w3 ⟨rfl, hb⟩; have B3 := Lib.hid (B2.out.trans (hb.mono B2.out.size)); clear hb)
        | (go_at_call 44; refine (HM.out _ B3.out).mono ?_; rintro e w4 ⟨rfl, hb⟩; have B4 := Lib.hid (B3.out.trans (hb.mono B3.out.size)); clear hb))
      go_ret
      exact ⟨by rw [← E.out]; rfl, B4.out⟩
    · have T2 := Lib.hid (tt_no h2)
      have T3 := Lib.hid (tt_no (show ¬ (DealOk n L Z q D ∧ dealT Z D q = bestV n (L 0) Z) from fun h => h2 ⟨h.1.1.2, h.1.2⟩))
      clear h1 h2 ha0 hb1
      go_enter Try.func20, Try.ntmps20
      go_wp2_with (first
        | (go_at_call 12; refine H.out.mono ?_; rintro e w1 ⟨rfl, hb⟩; rw [T1.out]; have B1 := Lib.hid hb; clear hb)
        | (go_at_call 41; refine (HD.out _ B1.out).mono ?_; rintro e w2 ⟨rfl, hb⟩; rw [T2.out]; have B2 := Lib.hid (B1.out.trans (hb.mono B1.out.size)); clear hb))
      go_ret
      exact ⟨by rw [T3.out]; rfl, B2.out⟩
  · have T1 := Lib.hid (tt_no h1)
    have T3 := Lib.hid (tt_no (show ¬ (DealOk n L Z q D ∧ dealT Z D q = bestV n (L 0) Z) from fun h => h1 h.1.1.1))
    clear h1 ha0 hb1
    go_enter Try.func20, Try.ntmps20
    go_wp2_with (go_at_call 12; refine H.out.mono ?_; rintro e w1 ⟨rfl, hb⟩; rw [T1.out]; have B1 := Lib.hid hb; clear hb)
    go_ret
    exact ⟨by rw [T3.out]; rfl, B1.out⟩
end Go.Proofs.Ytbmkgkiochhdmaa
