/- The program's FairSome. -/
import Derived.Test.YtbbcafmmgllfeaaFairAns
import Derived.Test.YtbbcafmmgllfeaaItemSome
import Derived.Test.YtbbcafmmgllfeaaBidDeals
namespace Go.Proofs.Ytbbcafmmgllfeaa
set_option linter.unusedVariables false
set_option linter.unusedSimpArgs false
open Go.RowKit

set_option maxHeartbeats 800000 in
theorem fairSome_all (n c : Nat) (a : Option Addr) (A : Nat → Option Addr) (L C : Nat → Nat) (Z : Nat → Nat → Int) (q d : Nat) (b : Option Addr) (P : Nat → Int) (w : World) (hn0 : n ≤ 1048576) (hL0 : ∀ r, r < n → L r ≤ 1048576) (ha0 : Tab w a n A L C Z) (hm1 : q ≤ 1048576) (hb1 : Rd w b q P) :
    Calls Try.prog 13 #[.slice a n c, .slice b q d] w fun e' w' => e' = .returned (.bool (tt (SomeOk n L Z q P))) ∧ Below w.heap.size w w' := by
  have H := Lib.hid (readBidsAndPrices_any n c q d a b A L C Z P w hn0 hL0 ha0 hm1 hb1)
  by_cases h1 : IsBids n L Z ∧ ItemP q (L 0) P
  · have T1 := Lib.hid (tt_of h1)
    obtain ⟨h1, h2⟩ := h1
    obtain ⟨h2, h2e⟩ := h2
    have HD := Lib.hid (bidDeals_any n c q a A L C Z w h1.1.1.1 h1.1.1.2 h2e (by have := h1.1.2.2; omega) ha0)
    have HF := Lib.hid (fun w' g cap G Cp (hb : Below w.heap.size w w') (hrow : ∀ r, r < (dealsP q n).length → w'.cell? ⟨g, r, none⟩ = some (.slice (some ⟨G r, 0, none⟩) n (Cp r)) ∧ w'.frozen? ⟨g, r, none⟩ = false ∧ Rd w' (some ⟨G r, 0, none⟩) n (nth (rowD q n r))) => fairWithSome_any n c q d g cap _ a b A L C G Cp Z P w' h1.1.1.2 (by rw [h2e]; exact h1.1.2.2) (fun r hr => (h1.rows r hr).trans h2e.symm) (by rw [h2e]; exact h1.cells) h2 rfl (ha0.below (Nat.le_refl _) hb) (hb1.below (Nat.le_refl _) hb) hrow)
    rw [show tt (SomeOk n L Z q P) = tt (SomeP n q Z P) from tt_congr ⟨fun h => by rw [h2e]; exact h.2, fun h => ⟨⟨h1, h2, h2e⟩, by rw [← h2e]; exact h⟩⟩]
    obtain ⟨t, ht⟩ : ∃ t, t = tt (SomeP n q Z P) := ⟨_, rfl⟩
    rw [← ht] at HF ⊢
    clear h1 h2 h2e ha0 hb1 ht
    go_enter Try.func13, Try.ntmps13
    go_wp2_with (first
      | (go_at_call 29; refine H.out.mono ?_; rintro e' w' ⟨rfl, rfl⟩; rw [T1.out, show bidsV true a n c = .slice a n c from rfl, show bidsV true b q d = .slice b q d from rfl])
      | (go_at_call 48; refine HD.out.mono ?_; rintro e' w2 ⟨g, cap, G, Cp, rfl, hM, hb⟩; have B2 := Lib.hid hb; have HR := Lib.hid (fun r (hr : r < (dealsP q n).length) => show w2.cell? ⟨g, r, none⟩ = some (.slice (some ⟨G r, 0, none⟩) n (Cp r)) ∧ w2.frozen? ⟨g, r, none⟩ = false ∧ Rd w2 (some ⟨G r, 0, none⟩) n (nth (rowD q n r)) from ⟨(making_row hM hr).1, (making_row hM hr).2.1, (making_row hM hr).2.2.2.2.2.rd⟩); clear hb hM)
      | (go_at_call 47; refine (HF.out _ _ _ _ _ B2.out HR.out).mono ?_; rintro e' w3 ⟨rfl, hb⟩; have B3 := Lib.hid (B2.out.trans (hb.mono B2.out.size)); clear hb))
    go_ret
    exact ⟨by rfl, B3.out⟩
  · have T1 := Lib.hid (tt_no h1)
    have NO := Lib.hid (tt_no (show ¬ SomeOk n L Z q P from fun h => h1 h.1))
    clear h1 ha0 hb1
    go_enter Try.func13, Try.ntmps13
    go_wp2_with (go_at_call 29; refine H.out.mono ?_; rintro e' w' ⟨rfl, rfl⟩; rw [T1.out, show bidsV false a n c = .slice none 0 0 from rfl, show bidsV false b q d = .slice none 0 0 from rfl])
    go_ret
    exact ⟨by rw [NO.out]; rfl, Below.refl _ _⟩
theorem fairSome_any (n c : Nat) (a : Option Addr) (A : Nat → Option Addr) (L C : Nat → Nat) (Z : Nat → Nat → Int) (q d : Nat) (b : Option Addr) (P : Nat → Int) (w : World) (hn0 : n ≤ 1048576) (hL0 : ∀ r, r < n → L r ≤ 1048576) (ha0 : Tab w a n A L C Z) (hm1 : q ≤ 1048576) (hmd1 : q ≤ d) (hb1 : Rd w b q P) :
    Calls Try.prog 13 #[.slice a n c, .slice b q d] w fun e' w' => e' = .returned (.bool (tt (SomeOk n L Z q P))) ∧ Below w.heap.size w w' :=
  fairSome_all n c a A L C Z q d b P w hn0 hL0 ha0 hm1 hb1
end Go.Proofs.Ytbbcafmmgllfeaa
