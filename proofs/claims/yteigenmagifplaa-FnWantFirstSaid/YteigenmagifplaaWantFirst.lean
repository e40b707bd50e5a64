/- The program's WantFirst. -/
import Derived.Test.YteigenmagifplaaJoined
import Derived.Test.YteigenmagifplaaMostAns
import Derived.Test.YteigenmagifplaaWantSteps
import Derived.Test.YteigenmagifplaaReadWants
namespace Go.Proofs.Yteigenmagifplaa
set_option linter.unusedVariables false
set_option linter.unusedSimpArgs false
open Go.RowKit

set_option maxHeartbeats 800000 in
theorem wantFirst_any (n c : Nat) (a : Option Addr) (W : Nat → Int) (k : Int) (w : World) (hm0 : n ≤ 1048576) (hmd0 : n ≤ c) (hb0 : Rd w a n W) (hx1 : I64 k) :
    Calls Try.prog 27 #[.slice a n c, .int .i64 k] w (RetIB (tt (WantK n W k)) (firstN n W k) (nth (bestL n W k.toNat)) w) := by
  have H := Lib.hid (readUpTo_any n c a W k w hm0 hb0)
  by_cases h : WantK n W k
  · have T1 := Lib.hid (tt_of h)
    have HK := Lib.hid h
    obtain ⟨f, rfl⟩ := Int.eq_ofNat_of_zero_le (show 0 ≤ k by have := h.2.1; omega)
    have hf2 : 2 ≤ f := by have := h.2.1; omega
    have hfn : f ≤ n := by have := h.2.2; omega
    have hn6 := h.1.1.2
    have TA := Lib.hid (firstN_yes h)
    clear hb0 h
    go_enter Try.func27, Try.ntmps27
    go_wp2_with (first
      | (go_at_call 33; refine H.out.mono ?_; rintro e w1 ⟨v, rfl, hv, hb1⟩; rw [T1.out]; obtain ⟨g, rfl, hg3, hg4, hr⟩ := hv HK.out; have B1 := Lib.hid hb1; have R1 := Lib.hid hr; clear hb1 hr)
      | (go_at_call 48; refine (joined_any n g f W w1 HK.out.1 hf2 hfn R1.out).mono ?_; rintro e w2 ⟨g2, c2, rfl, ⟨hg1, hg2⟩, hO, hb2⟩; have HO := Lib.hid hO; have B2 := Lib.hid hb2; clear hO hb2))
    go_ret2
    exact ⟨_, _, by rw [T1.out, TA.out]; rfl, by rw [TA.out, Int.toNat_natCast]; exact .inr ⟨g2, by have := B1.out.size; omega, hg2, HO.out⟩, below_chain B1.out B2.out⟩
  · have T1 := Lib.hid (tt_no h)
    have TA := Lib.hid (firstN_no h)
    clear hb0 h
    go_enter Try.func27, Try.ntmps27
    go_wp2_with (go_at_call 33; refine H.out.mono ?_; rintro e w1 ⟨v, rfl, hv, hb1⟩; rw [T1.out]; have B1 := Lib.hid hb1; clear hb1 hv)
    go_ret2
    exact ⟨none, 0, by rw [T1.out, TA.out]; rfl, .inl TA.out, B1.out⟩
end Go.Proofs.Yteigenmagifplaa
