/- The program's WantCircles. -/
import Derived.Test.YtamglhpgdaoaoaaCircles
import Derived.Test.YtamglhpgdaoaoaaOnModel
namespace Go.Proofs.Ytamglhpgdaoaoaa
set_option linter.unusedVariables false
set_option linter.unusedSimpArgs false
open Go.RowKit

theorem readUpTo_no (n c : Nat) (a : Option Addr) (W : Nat → Int) (k : Int) (w : World) (hm0 : n ≤ 1048576) (ha : Rd w a n W) (h : ¬ WantK n W k) :
    Calls Try.prog 63 #[.slice a n c, .int .i64 k] w fun e w' => (∃ v, e = .returned (.tuple #[v, .bool false])) ∧ Below w.heap.size w w' :=
  (readUpTo_any n c a W k w hm0 ha).mono fun e w' ⟨v, h1, _, h4⟩ => ⟨⟨v, by rw [h1, tt_no h]⟩, h4⟩

set_option maxHeartbeats 800000 in
theorem wantCircles_all (n c : Nat) (a : Option Addr) (W : Nat → Int) (k : Int) (w : World) (hm0 : n ≤ 1048576) (hb0 : Rd w a n W) (hx1 : I64 k) :
    Calls Try.prog 30 #[.slice a n c, .int .i64 k] w (RetTB (tt (WantK n W k)) (circsA n W k).length (lenL (circsA n W k)) (nthL (circsA n W k)) w) := by
  have H := Lib.hid (readUpTo_any n c a W k w hm0 hb0)
  clear hb0
  by_cases h : WantK n W k
  · have T1 := Lib.hid (tt_of h)
    have TA := Lib.hid (circsA_yes h)
    have HK := Lib.hid h
    obtain ⟨f, rfl⟩ := Int.eq_ofNat_of_zero_le (show 0 ≤ k by have := h.2.1; omega)
    have hf2 : 2 ≤ f := by have := h.2.1; omega
    have hfn : f ≤ n := by have := h.2.2; omega
    rw [Int.toNat_natCast] at TA
    clear h
    go_enter Try.func30, Try.ntmps30
    go_wp2_with (first
      | (go_at_call 63; refine H.out.mono ?_; rintro e w1 ⟨v, rfl, hv, hb1⟩; rw [T1.out]; obtain ⟨g, rfl, hg1, hg2, hr⟩ := hv HK.out; have B1 := Lib.hid hb1; have R1 := Lib.hid hr; clear hb1 hr)
      | (go_at_call 59; refine (circles_any n g f W w1 HK.out.1 hf2 hfn R1.out).mono ?_; rintro e w2 ⟨a1, c1, A1, C1, rfl, hO, hb2⟩; have HO := Lib.hid hO; have B2 := Lib.hid hb2; clear hO hb2))
    go_ret2
    exact ⟨_, _, _, _, by rw [T1.out, TA.out]; rfl, by rw [TA.out]; exact HO.out.sub B1.out.size (Nat.le_refl _), B1.out.trans (B2.out.mono B1.out.size)⟩
  · have T1 := Lib.hid (tt_no h)
    have TA := Lib.hid (circsA_no h)
    clear h
    go_enter Try.func30, Try.ntmps30
    go_wp2_with (go_at_call 63; refine H.out.mono ?_; rintro e w1 ⟨v, rfl, hv, hb1⟩; rw [T1.out]; have B1 := Lib.hid hb1; clear hb1 hv)
    go_ret2
    exact ⟨none, 0, fun _ => none, fun _ => 0, by rw [T1.out, TA.out]; rfl, by rw [TA.out]; exact .inl rfl, B1.out⟩
theorem wantCircles_any (n c : Nat) (a : Option Addr) (W : Nat → Int) (k : Int) (w : World) (hm0 : n ≤ 1048576) (hmd0 : n ≤ c) (hb0 : Rd w a n W) (hx1 : I64 k) :
    Calls Try.prog 30 #[.slice a n c, .int .i64 k] w (RetTB (tt (WantK n W k)) (circsA n W k).length (lenL (circsA n W k)) (nthL (circsA n W k)) w) :=
  wantCircles_all n c a W k w hm0 hb0 hx1
end Go.Proofs.Ytamglhpgdaoaoaa
