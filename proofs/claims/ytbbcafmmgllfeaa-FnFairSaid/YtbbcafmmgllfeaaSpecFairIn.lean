/- The model's FairIn. -/
import Derived.Test.YtbbcafmmgllfeaaFairAns
import Derived.Test.YtbbcafmmgllfeaaSpecBidIn
import Derived.Test.YtbbcafmmgllfeaaL8Fair
import Derived.Test.YtbbcafmmgllfeaaL7Deal
namespace Go.Proofs.Ytbbcafmmgllfeaa
set_option linter.unusedVariables false
set_option linter.unusedSimpArgs false
open Go.RowKit

set_option maxHeartbeats 800000 in
theorem specFairIn_any (n c : Nat) (a : Option Addr) (A : Nat → Option Addr) (L C : Nat → Nat) (Z : Nat → Nat → Int) (q d : Nat) (b : Option Addr) (P : Nat → Int) (r e : Nat) (g : Option Addr) (D : Nat → Int) (w : World) (hn0 : n ≤ 1048576) (hL0 : ∀ r, r < n → L r ≤ 1048576) (ha0 : Tab w a n A L C Z) (hm1 : q ≤ 1048576) (hb1 : Rd w b q P) (hm2 : r ≤ 1048576) (hb2 : Rd w g r D) :
    Calls Try.prog 9 #[.slice a n c, .slice b q d, .slice g r e] w fun e' w' => e' = .returned (.bool (tt (FairOk n L Z q P r D))) ∧ Below w.heap.size w w' := by
  have H := Lib.hid (specBidIn_any n c a A L C Z w hn0 hL0 ha0)
  by_cases h1 : IsBids n L Z
  · have T1 := Lib.hid (tt_of h1)
    have HP := Lib.hid (fun w' (hb : Below w.heap.size w w') => l8Prices_any n c q d a b A L C Z P w' h1.1.1.1 hm1 (ha0.below (Nat.le_refl _) hb) (hb1.below (Nat.le_refl _) hb))
    by_cases h2 : ItemP q (L 0) P
    · have T2 := Lib.hid (tt_of h2)
      obtain rfl := h2.2
      have HD := Lib.hid (fun w' (hb : Below w.heap.size w w') => l7Deal_any n c r e (L 0) a g A L C Z D w' h1.1.1.1 rfl h1.1.2.1 h1.1.2.2 hm2 (ha0.below (Nat.le_refl _) hb) (hb2.below (Nat.le_refl _) hb))
      by_cases h3 : IsDeal r (L 0) D ∧ r = n
      · have T3 := Lib.hid (tt_of h3)
        obtain rfl := h3.2
        have HF := Lib.hid (fun w' (hb : Below w.heap.size w w') => l8Fair_any r c (L 0) d e a b g A L C Z P D w' h1.1.1.2 h1.1.2.2 h1.rows h1.cells h2.1 h3.1.1 (ha0.below (Nat.le_refl _) hb) (hb1.below (Nat.le_refl _) hb) (hb2.below (Nat.le_refl _) hb))
        rw [show tt (FairOk r L Z (L 0) P r D) = tt (FairP r (L 0) Z P D) from tt_congr ⟨fun h => h.2.2, fun h => ⟨⟨h1, h2⟩, h3, h⟩⟩]
        obtain ⟨t, ht⟩ : ∃ t, t = tt (FairP r (L 0) Z P D) := ⟨_, rfl⟩
        rw [← ht] at HF ⊢
        clear h1 h2 h3 ha0 hb1 hb2 ht
        go_enter Try.func9, Try.ntmps9
        go_wp2_with (first
          | (go_at_call 32; refine H.out.mono ?_; rintro e' w1 ⟨rfl, hb⟩; rw [T1.out]; have B1 := Lib.hid hb; clear hb)
          | (go_at_call 33; refine (HP.out _ B1.out).mono ?_; rintro e' w' ⟨rfl, rfl⟩; rw [T2.out])
          | (go_at_call 34; refine (HD.out _ B1.out).mono ?_; rintro e' w2 ⟨rfl, hb⟩; rw [T3.out]; have B2 := Lib.hid (B1.out.trans (hb.mono B1.out.size)); clear hb)
          | (go_at_call 35; refine (HF.out _ B2.out).mono ?_; rintro e' w3 ⟨rfl, hb⟩; have B3 := Lib.hid (B2.out.trans (hb.mono B2.out.size)); clear hb))
        go_ret
        exact ⟨by rfl, B3.out⟩
      · have T3 := Lib.hid (tt_no h3)
        have NO := Lib.hid (tt_no (show ¬ FairOk n L Z (L 0) P r D from fun h => h3 h.2.1))
        clear h1 h2 h3 ha0 hb1 hb2
        go_enter Try.func9, Try.ntmps9
        go_wp2_with (first
          | (go_at_call 32; refine H.out.mono ?_; rintro e' w1 ⟨rfl, hb⟩; rw [T1.out]; have B1 := Lib.hid hb; clear hb)
          | (go_at_call 33; refine (HP.out _ B1.out).mono ?_; rintro e' w' ⟨rfl, rfl⟩; rw [T2.out])
          | (go_at_call 34; refine (HD.out _ B1.out).mono ?_; rintro e' w2 ⟨rfl, hb⟩; rw [T3.out]; have B2 := Lib.hid (B1.out.trans (hb.mono B1.out.size)); clear hb))
        go_ret
        exact ⟨by rw [NO.out]; rfl, B2.out⟩
    · have T2 := Lib.hid (tt_no h2)
      have NO := Lib.hid (tt_no (show ¬ FairOk n L Z q P r D from fun h => h2 h.1.2))
      clear h1 h2 ha0 hb1 hb2
      go_enter Try.func9, Try.ntmps9
      go_wp2_with (first
        | (go_at_call 32; refine H.out.mono ?_; rintro e' w1 ⟨rfl, hb⟩; rw [T1.out]; have B1 := Lib.hid hb; clear hb)
        | (go_at_call 33; refine (HP.out _ B1.out).mono ?_; rintro e' w' ⟨rfl, rfl⟩; rw [T2.out]))
      go_ret
      exact ⟨by rw [NO.out]; rfl, B1.out⟩
  · have T1 := Lib.hid (tt_no h1)
    have NO := Lib.hid (tt_no (show ¬ FairOk n L Z q P r D from fun h => h1 h.1.1))
    clear h1 ha0 hb1 hb2
    go_enter Try.func9, Try.ntmps9
    go_wp2_with (go_at_call 32; refine H.out.mono ?_; rintro e' w1 ⟨rfl, hb⟩; rw [T1.out]; have B1 := Lib.hid hb; clear hb)
    go_ret
    exact ⟨by rw [NO.out]; rfl, B1.out⟩
end Go.Proofs.Ytbbcafmmgllfeaa
