/- The model's OddsWins. -/
import Derived.Test.YtimkgplabbcklaaL9Stakes
namespace Go.Proofs.Ytimkgplabbcklaa
set_option linter.unusedVariables false
set_option linter.unusedSimpArgs false
open Go.RowKit

set_option maxHeartbeats 800000 in
theorem specOddsWins_any (m c q d : Nat) (a b : Option Addr) (X Y : Nat → Int) (w : World) (hm0 : m ≤ 1048576) (hb0 : Rd w a m X) (hm1 : q ≤ 1048576) (hb1 : Rd w b q Y) :
    Calls Try.prog 22 #[.slice a m c, .slice b q d] w fun e w' => e = .returned (.bool (tt (WinsP m X q Y))) ∧ Below w.heap.size w w' := by
  have H := Lib.hid (l9Stakes_any m c q d a b X Y w hm0 hb0 hm1 hb1)
  by_cases h : StakedP m X q Y
  · have T1 := Lib.hid (tt_of h)
    have hq := h.1.2
    subst hq
    have h1 := h.1.1
    have HS := l9Least_any q c d a b X Y w (by have := h1.1; omega) h1.1.2 hb0 hb1 h1.2 h.2
    clear h1
    obtain ⟨t, ht⟩ : ∃ t, t = leastR X Y q := ⟨_, rfl⟩
    obtain ⟨s, hs⟩ : ∃ s, s = sumR Y q := ⟨_, rfl⟩
    have E := Lib.hid (show decide (t > s) = tt (WinsP q X q Y) from by
      rw [ht, hs]
      by_cases e : sumR Y q < leastR X Y q
      · rw [tt_of (show WinsP q X q Y from ⟨h, e⟩)]; simpa using e
      · rw [tt_no (show ¬ WinsP q X q Y from fun h' => e h'.2)]; simpa using e)
    rw [← ht, ← hs] at HS
    clear ht hs h
    have HS := Lib.hid HS
    clear hb0 hb1
    go_enter Try.func22, Try.ntmps22
    go_wp2_with (first
      | (go_at_call 41; refine H.out.mono ?_; rintro e w' ⟨rfl, rfl⟩; rw [T1.out])
      | (go_at_call 42; refine HS.out.mono ?_; rintro e w' ⟨rfl, t1, rfl⟩))
    go_ret
    exact ⟨by first | (rw [E.out]; rfl) | (rw [← E.out]; rfl) | (rw [← E.out]; simp), below_drewN (Below.refl _ _) t1⟩
  · have T1 := Lib.hid (tt_no h)
    have E := Lib.hid (tt_no (show ¬ WinsP m X q Y from fun h' => h h'.1))
    clear h
    clear hb0 hb1
    go_enter Try.func22, Try.ntmps22
    go_wp2_with (go_at_call 41; refine H.out.mono ?_; rintro e w' ⟨rfl, rfl⟩; rw [T1.out])
    go_ret
    exact ⟨by first | (rw [E.out]; rfl) | (rw [← E.out]; rfl) | (rw [← E.out]; simp), Below.refl _ _⟩
end Go.Proofs.Ytimkgplabbcklaa
