/- The model's SwapMay. -/
import Derived.Test.YtlncinbphgallaaL4People
import Derived.Test.YtlncinbphgallaaL4May
namespace Go.Proofs.Ytlncinbphgallaa
set_option linter.unusedVariables false
set_option linter.unusedSimpArgs false
open Go.RowKit

theorem specSwapMay_any (n c : Nat) (a : Option Addr) (A : Nat → Option Addr) (L C : Nat → Nat) (Z : Nat → Nat → Int) (m d : Nat) (b : Option Addr) (G : Nat → Int) (x y : Int) (w : World) (hn0 : n ≤ 1048576) (hL0 : ∀ r, r < n → L r ≤ 1048576) (ha0 : Tab w a n A L C Z) (hm1 : m ≤ 1048576) (hb1 : Rd w b m G) (hx2 : I64 x) (hx3 : I64 y) :
    Calls Try.prog 16 #[.slice a n c, .slice b m d, .int .i64 x, .int .i64 y] w fun e w' => e = .returned (.bool (tt (SwapMayOk n L Z m G x y))) ∧ Below w.heap.size w w' := by
  have H := Lib.hid (l4People_any n c a A L C Z m d b G x y w hn0 hL0 ha0 hm1 hb1)
  by_cases h1 : TwoPpl n L Z m G x y
  · have T1 := Lib.hid (tt_of h1)
    obtain ⟨i, rfl⟩ := Int.eq_ofNat_of_zero_le h1.1.2.1.1
    obtain ⟨k, rfl⟩ := Int.eq_ofNat_of_zero_le h1.1.2.2.1
    have hi : i < n := by have := h1.1.2.1.2; omega
    have hk : k < n := by have := h1.1.2.2.2; omega
    obtain rfl : m = n := h1.1.1.2.1
    have HM := Lib.hid (l4May_any m c i k a A L C Z d b G w h1.1.1 ha0 hb1 hi hk)
    have HE := Lib.hid (tt_congr (show MayP m Z G i k ↔ SwapMayOk m L Z m G i k from ⟨fun h => ⟨h1.1, h⟩, fun h => h.2⟩))
    clear h1 ha0 hL0 hb1 hx2 hx3
    go_enter Try.func16, Try.ntmps16
    go_wp2_with (first
      | (go_at_call 50; refine H.out.mono ?_; rintro e w' ⟨rfl, rfl⟩; rw [T1.out])
      | (go_at_call 51; refine HM.out.mono ?_; rintro e w1 ⟨rfl, hb⟩; rw [HE.out]; have HB := Lib.hid hb; clear hb))
    go_ret
    exact ⟨rfl, HB.out⟩
  · have T1 := Lib.hid (tt_no h1)
    have HE := Lib.hid (tt_no (show ¬ SwapMayOk n L Z m G x y from fun h => h1 ⟨h.1, fun e => may_ne h.2 (by rw [e])⟩))
    clear h1 ha0 hL0 hb1 hx2 hx3
    go_enter Try.func16, Try.ntmps16
    go_wp2_with (first
      | (go_at_call 50; refine H.out.mono ?_; rintro e w' ⟨rfl, rfl⟩; rw [T1.out]))
    go_ret
    exact ⟨by rw [HE.out]; rfl, Below.refl _ _⟩
end Go.Proofs.Ytlncinbphgallaa
