/- The model's OddsLeast. -/
import Derived.Test.YtimkgplabbcklaaL9Stakes
namespace Go.Proofs.Ytimkgplabbcklaa
set_option linter.unusedVariables false
set_option linter.unusedSimpArgs false
open Go.RowKit

set_option maxHeartbeats 800000 in
theorem specOddsLeast_any (m c q d : Nat) (a b : Option Addr) (X Y : Nat → Int) (w : World) (hm0 : m ≤ 1048576) (hb0 : Rd w a m X) (hm1 : q ≤ 1048576) (hb1 : Rd w b q Y) :
    Calls Try.prog 20 #[.slice a m c, .slice b q d] w fun e w' => e = .returned (.tuple #[.int .i64 (leastA m X q Y), .int .i64 (stakedA m X q Y), .bool (tt (StakedP m X q Y))]) ∧ Below w.heap.size w w' := by
  have H := Lib.hid (l9Stakes_any m c q d a b X Y w hm0 hb0 hm1 hb1)
  by_cases h : StakedP m X q Y
  · have T1 := Lib.hid (tt_of h)
    have hq := h.1.2
    subst hq
    have h1 := h.1.1
    have HS := l9Least_any q c d a b X Y w (by have := h1.1; omega) h1.1.2 hb0 hb1 h1.2 h.2
    clear h1
    have K1 := Lib.hid (leastA_yes h)
    have K2 := Lib.hid (stakedA_yes h)
    rw [K1.out, K2.out, T1.out]
    obtain ⟨t, ht⟩ : ∃ t, t = leastR X Y q := ⟨_, rfl⟩
    obtain ⟨s, hs⟩ : ∃ s, s = sumR Y q := ⟨_, rfl⟩
    rw [← ht, ← hs] at HS ⊢
    clear ht hs h K1 K2
    have HS := Lib.hid HS
    clear hb0 hb1
    go_enter Try.func20, Try.ntmps20
    go_wp2_with (first
      | (go_at_call 41; refine H.out.mono ?_; rintro e w' ⟨rfl, rfl⟩; rw [T1.out])
      | (go_at_call 42; refine HS.out.mono ?_; rintro e w' ⟨rfl, t1, rfl⟩))
    go_ret3
    exact ⟨rfl, below_drewN (Below.refl _ _) t1⟩
  · have T1 := Lib.hid (tt_no h)
    rw [leastA_no h, stakedA_no h, T1.out]
    clear h
    clear hb0 hb1
    go_enter Try.func20, Try.ntmps20
    go_wp2_with (go_at_call 41; refine H.out.mono ?_; rintro e w' ⟨rfl, rfl⟩; rw [T1.out])
    go_ret3
    exact ⟨rfl, Below.refl _ _⟩
end Go.Proofs.Ytimkgplabbcklaa
