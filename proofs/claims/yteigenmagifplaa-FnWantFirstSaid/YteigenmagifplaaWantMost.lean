/- The program's WantMost. -/
import Derived.Test.YteigenmagifplaaJoined
import Derived.Test.YteigenmagifplaaMostAns
import Derived.Test.YteigenmagifplaaWantSteps
import Derived.Test.YteigenmagifplaaReadWants
namespace Go.Proofs.Yteigenmagifplaa
set_option linter.unusedVariables false
set_option linter.unusedSimpArgs false
open Go.RowKit

set_option maxHeartbeats 800000 in
theorem wantMost_all (n c : Nat) (a : Option Addr) (W : Nat → Int) (k : Int) (w : World) (hm0 : n ≤ 1048576) (hb0 : Rd w a n W) (hx1 : I64 k) :
    Calls Try.prog 21 #[.slice a n c, .int .i64 k] w fun e w' => e = .returned (.tuple #[.int .i64 (mostA n W k), .bool (tt (WantK n W k))]) ∧ Below w.heap.size w w' := by
  have H := Lib.hid (readUpTo_any n c a W k w hm0 hb0)
  by_cases h : WantK n W k
  · have T1 := Lib.hid (tt_of h)
    have HK := Lib.hid h
    obtain ⟨f, rfl⟩ := Int.eq_ofNat_of_zero_le (show 0 ≤ k by have := h.2.1; omega)
    have hf2 : 2 ≤ f := by have := h.2.1; omega
    have hfn : f ≤ n := by have := h.2.2; omega
    have hn6 := h.1.1.2
    have TA := Lib.hid (show (movedN (nth (bestL n W f)) n : Int) = mostA n W f by rw [mostA_yes h, Int.toNat_natCast]; rfl)
    clear hb0 h
    go_enter Try.func21, Try.ntmps21
    go_wp2_with (first
      | (go_at_call 33; refine H.out.mono ?_; rintro e w1 ⟨v, rfl, hv, hb1⟩; rw [T1.out]; obtain ⟨g, rfl, hg3, hg4, hr⟩ := hv HK.out; have B1 := Lib.hid hb1; have R1 := Lib.hid hr; clear hb1 hr)
      | (go_at_call 48; refine (joined_any n g f W w1 HK.out.1 hf2 hfn R1.out).mono ?_; rintro e w2 ⟨g2, c2, rfl, ⟨hg1, hg2⟩, hO, hb2⟩; have HO := Lib.hid hO; have B2 := Lib.hid hb2; clear hO hb2)
      | (go_at_call 47; refine (takers_any n c2 _ _ w2 (by omega) HO.out.rd).mono ?_; rintro e w' ⟨rfl, rfl⟩; rw [TA.out]))
    go_ret2
    exact ⟨by rw [T1.out]; rfl, below_chain B1.out B2.out⟩
  · have T1 := Lib.hid (tt_no h)
    have TA := Lib.hid (mostA_no h)
    clear hb0 h
    go_enter Try.func21, Try.ntmps21
    go_wp2_with (go_at_call 33; refine H.out.mono ?_; rintro e w1 ⟨v, rfl, hv, hb1⟩; rw [T1.out]; have B1 := Lib.hid hb1; clear hb1 hv)
    go_ret2
    exact ⟨by rw [T1.out, TA.out]; rfl, B1.out⟩
theorem wantMost_any (n c : Nat) (a : Option Addr) (W : Nat → Int) (k : Int) (w : World) (hm0 : n ≤ 1048576) (hmd0 : n ≤ c) (hb0 : Rd w a n W) (hx1 : I64 k) :
    Calls Try.prog 21 #[.slice a n c, .int .i64 k] w fun e w' => e = .returned (.tuple #[.int .i64 (mostA n W k), .bool (tt (WantK n W k))]) ∧ Below w.heap.size w w' :=
  wantMost_all n c a W k w hm0 hb0 hx1
end Go.Proofs.Yteigenmagifplaa
