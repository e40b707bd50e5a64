/- The model's FairSome. -/
import Derived.Test.YtbbcafmmgllfeaaFairAns
import Derived.Test.YtbbcafmmgllfeaaSpecBidIn
import Derived.Test.YtbbcafmmgllfeaaL8Fair
import Derived.Test.YtbbcafmmgllfeaaL8Some
namespace Go.Proofs.Ytbbcafmmgllfeaa
set_option linter.unusedVariables false
set_option linter.unusedSimpArgs false
open Go.RowKit

set_option maxHeartbeats 800000 in
theorem specFairSome_any (n c : Nat) (a : Option Addr) (A : Nat → Option Addr) (L C : Nat → Nat) (Z : Nat → Nat → Int) (q d : Nat) (b : Option Addr) (P : Nat → Int) (w : World) (hn0 : n ≤ 1048576) (hL0 : ∀ r, r < n → L r ≤ 1048576) (ha0 : Tab w a n A L C Z) (hm1 : q ≤ 1048576) (hb1 : Rd w b q P) :
    Calls Try.prog 15 #[.slice a n c, .slice b q d] w fun e' w' => e' = .returned (.bool (tt (SomeOk n L Z q P))) ∧ Below w.heap.size w w' := by
  have H := Lib.hid (specBidIn_any n c a A L C Z w hn0 hL0 ha0)
  by_cases h1 : IsBids n L Z
  · have T1 := Lib.hid (tt_of h1)
    have HP := Lib.hid (fun w' (hb : Below w.heap.size w w') => l8Prices_any n c q d a b A L C Z P w' h1.1.1.1 hm1 (ha0.below (Nat.le_refl _) hb) (hb1.below (Nat.le_refl _) hb))
    by_cases h2 : ItemP q (L 0) P
    · have T2 := Lib.hid (tt_of h2)
      obtain rfl := h2.2
      have HF := Lib.hid (fun w' (hb : Below w.heap.size w w') => l8Some_any n c (L 0) d a b A L C Z P w' h1 rfl h2.1 (ha0.below (Nat.le_refl _) hb) (hb1.below (Nat.le_refl _) hb))
      rw [show tt (SomeOk n L Z (L 0) P) = tt (SomeP n (L 0) Z P) from tt_congr ⟨fun h => h.2, fun h => ⟨⟨h1, h2⟩, h⟩⟩]
      obtain ⟨t, ht⟩ : ∃ t, t = tt (SomeP n (L 0) Z P) := ⟨_, rfl⟩
      rw [← ht] at HF ⊢
      clear h1 h2 ha0 hb1 ht
      go_enter Try.func15, Try.ntmps15
      go_wp2_with (first
        | (go_at_call 32; refine H.out.mono ?_; rintro e' w1 ⟨rfl, hb⟩; rw [T1.out]; have B1 := Lib.hid hb; clear hb)
        | (go_at_call 33; refine (HP.out _ B1.out).mono ?_; rintro e' w' ⟨rfl, rfl⟩; rw [T2.out])
        | (go_at_call 50; refine (HF.out _ B1.out).mono ?_; rintro e' w3 ⟨rfl, hb⟩; have B3 := Lib.hid (B1.out.trans (hb.mono B1.out.size)); clear hb))
      go_ret
      exact ⟨by rfl, B3.out⟩
    · have T2 := Lib.hid (tt_no h2)
      have NO := Lib.hid (tt_no (show ¬ SomeOk n L Z q P from fun h => h2 h.1.2))
      clear h1 h2 ha0 hb1
      go_enter Try.func15, Try.ntmps15
      go_wp2_with (first
        | (go_at_call 32; refine H.out.mono ?_; rintro e' w1 ⟨rfl, hb⟩; rw [T1.out]; have B1 := Lib.hid hb; clear hb)
        | (go_at_call 33; refine (HP.out _ B1.out).mono ?_; rintro e' w' ⟨rfl, rfl⟩; rw [T2.out]))
      go_ret
      exact ⟨by rw [NO.out]; rfl, B1.out⟩
  · have T1 := Lib.hid (tt_no h1)
    have NO := Lib.hid (tt_no (show ¬ SomeOk n L Z q P from fun h => h1 h.1.1))
    clear h1 ha0 hb1
    go_enter Try.func15, Try.ntmps15
    go_wp2_with (go_at_call 32; refine H.out.mono ?_; rintro e' w1 ⟨rfl, hb⟩; rw [T1.out]; have B1 := Lib.hid hb; clear hb)
    go_ret
    exact ⟨by rw [NO.out]; rfl, B1.out⟩
end Go.Proofs.Ytbbcafmmgllfeaa
