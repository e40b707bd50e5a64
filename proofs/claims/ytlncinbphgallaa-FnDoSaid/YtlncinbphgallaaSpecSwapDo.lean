/- The model's SwapDo. -/
import Derived.Test.YtlncinbphgallaaL4People
import Derived.Test.YtlncinbphgallaaL4Do
namespace Go.Proofs.Ytlncinbphgallaa
set_option linter.unusedVariables false
set_option linter.unusedSimpArgs false
open Go.RowKit

theorem specSwapDo_any (n c : Nat) (a : Option Addr) (A : Nat → Option Addr) (L C : Nat → Nat) (Z : Nat → Nat → Int) (m d : Nat) (b : Option Addr) (G : Nat → Int) (x y : Int) (w : World) (hn0 : n ≤ 1048576) (hL0 : ∀ r, r < n → L r ≤ 1048576) (ha0 : Tab w a n A L C Z) (hm1 : m ≤ 1048576) (hb1 : Rd w b m G) (hx2 : I64 x) (hx3 : I64 y) :
    Calls Try.prog 27 #[.slice a n c, .slice b m d, .int .i64 x, .int .i64 y] w (RetIB (tt (TwoPpl n L Z m G x y)) (swapN n L Z m G x y) (swapF G x.toNat y.toNat) w) := by
  have H := Lib.hid (l4People_any n c a A L C Z m d b G x y w hn0 hL0 ha0 hm1 hb1)
  by_cases h1 : TwoPpl n L Z m G x y
  · have T1 := Lib.hid (tt_of h1)
    have TN := Lib.hid (swapN_yes h1)
    obtain ⟨i, rfl⟩ := Int.eq_ofNat_of_zero_le h1.1.2.1.1
    obtain ⟨k, rfl⟩ := Int.eq_ofNat_of_zero_le h1.1.2.2.1
    have hi : i < n := by have := h1.1.2.1.2; omega
    have hk : k < n := by have := h1.1.2.2.2; omega
    have hik : i ≠ k := fun e => h1.2 (by rw [e])
    obtain rfl : m = n := h1.1.1.2.1
    have HM := Lib.hid (l4Do_any m d i k b G w h1.1.1.1.1.2 hb1 hi hk hik)
    clear h1 ha0 hL0 hb1 hx2 hx3
    go_enter Try.func27, Try.ntmps27
    go_wp2_with (first
      | (go_at_call 50; refine H.out.mono ?_; rintro e w' ⟨rfl, rfl⟩; rw [T1.out])
      | (go_at_call 58; refine HM.out.mono ?_; rintro e w1 ⟨g, cap, rfl, ⟨hg1, hg2, hg3⟩, hO, hb⟩; have HO := Lib.hid hO; have HB := Lib.hid hb; clear hb hO))
    go_ret2
    exact ⟨_, _, by rw [T1.out, TN.out]; rfl, by rw [TN.out]; exact .inr ⟨g, hg1, hg2, HO.out⟩, HB.out⟩
  · have T1 := Lib.hid (tt_no h1)
    have TN := Lib.hid (swapN_no h1)
    clear h1 ha0 hL0 hb1 hx2 hx3
    go_enter Try.func27, Try.ntmps27
    go_wp2_with (first
      | (go_at_call 50; refine H.out.mono ?_; rintro e w' ⟨rfl, rfl⟩; rw [T1.out]))
    go_ret2
    exact ⟨_, _, by rw [T1.out, TN.out]; rfl, .inl TN.out, below_alloc (Below.refl _ _) _⟩
end Go.Proofs.Ytlncinbphgallaa
