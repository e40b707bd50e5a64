/- The model's WantFirst. -/
import Derived.Test.YteigenmagifplaaL6wBest
import Derived.Test.YteigenmagifplaaMostAns
import Derived.Test.YteigenmagifplaaL6wGiven
import Derived.Test.YteigenmagifplaaL6wMoved
namespace Go.Proofs.Yteigenmagifplaa
set_option linter.unusedVariables false
set_option linter.unusedSimpArgs false
open Go.RowKit

set_option maxHeartbeats 800000 in
theorem specWantFirst_any (n c : Nat) (a : Option Addr) (W : Nat → Int) (k : Int) (w : World) (hm0 : n ≤ 1048576) (hb0 : Rd w a n W) (hx1 : I64 k) :
    Calls Try.prog 28 #[.slice a n c, .int .i64 k] w (RetIB (tt (WantK n W k)) (firstN n W k) (nth (bestL n W k.toNat)) w) := by
  have H := Lib.hid (l6wGiven_any n c a W k w hm0 hb0)
  by_cases h : WantK n W k
  · have T1 := Lib.hid (tt_of h)
    have HK := Lib.hid h
    obtain ⟨f, rfl⟩ := Int.eq_ofNat_of_zero_le (show 0 ≤ k by have := h.2.1; omega)
    have hf2 : 2 ≤ f := by have := h.2.1; omega
    have hfn : f ≤ n := by have := h.2.2; omega
    have hn6 := h.1.1.2
    have TA := Lib.hid (firstN_yes h)
    have HB := Lib.hid (fun w' (hb : Below w.heap.size w w') => l6wBest_any n c f a W w' h.1 hfn (hb0.below (Nat.le_refl _) hb))
    clear hb0 h
    go_enter Try.func28, Try.ntmps28
    go_wp2_with (first
      | (go_at_call 35; refine H.out.mono ?_; rintro e w1 ⟨rfl, hb1⟩; rw [T1.out]; have B1 := Lib.hid hb1; clear hb1)
      | (go_at_call 50; refine (HB.out _ B1.out).mono ?_; rintro e w2 ⟨g2, c2, rfl, ⟨hg1, hg2⟩, hO, hb2⟩; have HO := Lib.hid hO; have B2 := Lib.hid hb2; clear hO hb2))
    go_ret2
    exact ⟨_, _, by rw [T1.out, TA.out]; rfl, by rw [TA.out, Int.toNat_natCast]; exact .inr ⟨g2, by have := B1.out.size; omega, hg2, HO.out⟩, below_chain B1.out B2.out⟩
  · have T1 := Lib.hid (tt_no h)
    have TA := Lib.hid (firstN_no h)
    clear hb0 h
    go_enter Try.func28, Try.ntmps28
    go_wp2_with (go_at_call 35; refine H.out.mono ?_; rintro e w1 ⟨rfl, hb1⟩; rw [T1.out]; have B1 := Lib.hid hb1; clear hb1)
    go_ret2
    exact ⟨_, _, by rw [T1.out, TA.out]; rfl, .inl TA.out, below_alloc B1.out _⟩
end Go.Proofs.Yteigenmagifplaa
