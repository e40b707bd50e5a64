/- The program's FairIn. -/
import Derived.Test.YtaipodnhnekpjaaFairAns
import Derived.Test.YtaipodnhnekpjaaItemFair
import Derived.Test.YtaipodnhnekpjaaHasDeal
namespace Go.Proofs.Ytaipodnhnekpjaa
set_option linter.unusedVariables false
set_option linter.unusedSimpArgs false
open Go.RowKit

set_option maxHeartbeats 800000 in
theorem fairIn_all (n c : Nat) (a : Option Addr) (A : Nat → Option Addr) (L C : Nat → Nat) (Z : Nat → Nat → Int) (q d : Nat) (b : Option Addr) (P : Nat → Int) (r e : Nat) (g : Option Addr) (D : Nat → Int) (w : World) (hn0 : n ≤ 1048576) (hL0 : ∀ r, r < n → L r ≤ 1048576) (ha0 : Tab w a n A L C Z) (hm1 : q ≤ 1048576) (hb1 : Rd w b q P) (hm2 : r ≤ 1048576) (hb2 : Rd w g r D) :
    Calls Try.prog 19 #[.slice a n c, .slice b q d, .slice g r e] w fun e' w' => e' = .returned (.bool (tt (FairOk n L Z q P r D))) ∧ Below w.heap.size w w' := by
  have H := Lib.hid (readBidsAndPrices_any n c q d a b A L C Z P w hn0 hL0 ha0 hm1 hb1)
  by_cases h1 : IsBids n L Z ∧ ItemP q (L 0) P
  · have T1 := Lib.hid (tt_of h1)
    obtain ⟨h1, h2⟩ := h1
    obtain ⟨h2, h2e⟩ := h2
    have HD := Lib.hid (hasDeal_any n c r e a g A L C Z D w h1.1.1.1 h1.1.1.2 h1.1.2.2 hm2 ha0 hb2)
    by_cases h3 : IsDeal r (L 0) D ∧ r = n
    · have T3 := Lib.hid (tt_of h3)
      obtain rfl := h3.2
      have HF := Lib.hid (fun w' (hb : Below w.heap.size w w') => itemFair_any r c q d e a b g A L C Z P D w' h1.1.1.2 (by rw [h2e]; exact h1.1.2.2) (fun r hr => (h1.rows r hr).trans h2e.symm) (by rw [h2e]; exact h1.cells) h2 (by rw [h2e]; exact h3.1.1) (ha0.below (Nat.le_refl _) hb) (hb1.below (Nat.le_refl _) hb) (hb2.below (Nat.le_refl _) hb))
      rw [show tt (FairOk r L Z q P r D) = tt (FairP r q Z P D) from tt_congr ⟨fun h => by rw [h2e]; exact h.2.2, fun h => ⟨⟨h1, h2, h2e⟩, h3, by rw [← h2e]; exact h⟩⟩]
      obtain ⟨t, ht⟩ : ∃ t, t = tt (FairP r q Z P D) := ⟨_, rfl⟩
      rw [← ht] at HF ⊢
      clear h1 h2 h2e h3 ha0 hb1 hb2 ht
      go_enter Try.func19, Try.ntmps19
      go_wp2_with (first
        | (go_at_call 49; refine H.out.mono ?_; rintro e' w' ⟨rfl, rfl⟩; rw [T1.out, show bidsV true a r c = .slice a r c from rfl, show bidsV true b q d = .slice b q d from rfl])
        | (go_at_call 50; refine HD.out.mono ?_; rintro e' w2 ⟨rfl, hb⟩; rw [T3.out]; have B2 := Lib.hid hb; clear hb)
        | (go_at_call 51; refine (HF.out _ B2.out).mono ?_; rintro e' w3 ⟨rfl, qq, hqq⟩; have B3 := Lib.hid (show Below w.heap.size w w3 from by rw [hqq]; exact below_drewN B2.out qq); clear hqq))
      go_ret
      exact ⟨by rfl, B3.out⟩
    · have T3 := Lib.hid (tt_no h3)
      have NO := Lib.hid (tt_no (show ¬ FairOk n L Z q P r D from fun h => h3 h.2.1))
      clear h1 h2 h2e h3 ha0 hb1 hb2
      go_enter Try.func19, Try.ntmps19
      go_wp2_with (first
        | (go_at_call 49; refine H.out.mono ?_; rintro e' w' ⟨rfl, rfl⟩; rw [T1.out, show bidsV true a n c = .slice a n c from rfl, show bidsV true b q d = .slice b q d from rfl])
        | (go_at_call 50; refine HD.out.mono ?_; rintro e' w2 ⟨rfl, hb⟩; rw [T3.out]; have B2 := Lib.hid hb; clear hb))
      go_ret
      exact ⟨by rw [NO.out]; rfl, B2.out⟩
  · have T1 := Lib.hid (tt_no h1)
    have NO := Lib.hid (tt_no (show ¬ FairOk n L Z q P r D from fun h => h1 h.1))
    clear h1 ha0 hb1 hb2
    go_enter Try.func19, Try.ntmps19
    go_wp2_with (go_at_call 49; refine H.out.mono ?_; rintro e' w' ⟨rfl, rfl⟩; rw [T1.out, show bidsV false a n c = .slice none 0 0 from rfl, show bidsV false b q d = .slice none 0 0 from rfl])
    go_ret
    exact ⟨by rw [NO.out]; rfl, Below.refl _ _⟩
theorem fairIn_any (n c : Nat) (a : Option Addr) (A : Nat → Option Addr) (L C : Nat → Nat) (Z : Nat → Nat → Int) (q d : Nat) (b : Option Addr) (P : Nat → Int) (r e : Nat) (g : Option Addr) (D : Nat → Int) (w : World) (hn0 : n ≤ 1048576) (hL0 : ∀ r, r < n → L r ≤ 1048576) (ha0 : Tab w a n A L C Z) (hm1 : q ≤ 1048576) (hmd1 : q ≤ d) (hb1 : Rd w b q P) (hm2 : r ≤ 1048576) (hmd2 : r ≤ e) (hb2 : Rd w g r D) :
    Calls Try.prog 19 #[.slice a n c, .slice b q d, .slice g r e] w fun e' w' => e' = .returned (.bool (tt (FairOk n L Z q P r D))) ∧ Below w.heap.size w w' :=
  fairIn_all n c a A L C Z q d b P r e g D w hn0 hL0 ha0 hm1 hb1 hm2 hb2
end Go.Proofs.Ytaipodnhnekpjaa
