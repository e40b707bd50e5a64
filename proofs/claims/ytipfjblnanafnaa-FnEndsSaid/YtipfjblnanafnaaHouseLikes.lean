/- The program's HouseLikes. -/
import Derived.Test.YtipfjblnanafnaaLikes
import Derived.Test.YtipfjblnanafnaaHasW
namespace Go.Proofs.Ytipfjblnanafnaa
set_option linter.unusedVariables false
set_option linter.unusedSimpArgs false
open Go.RowKit

set_option maxHeartbeats 800000 in
theorem houseLikes_any (n c : Nat) (a : Option Addr) (A : Nat → Option Addr) (L C : Nat → Nat) (Z : Nat → Nat → Int) (p x y : Int) (w : World) (hn0 : n ≤ 1048576) (hL0 : ∀ r, r < n → L r ≤ 1048576) (ha0 : Tab w a n A L C Z) (hx1 : I64 p) (hx2 : I64 x) (hx3 : I64 y) :
    Calls Try.prog 34 #[.slice a n c, .int .i64 p, .int .i64 x, .int .i64 y] w fun e w' => e = .returned (.bool (tt (LikesOk n L Z p x y))) ∧ Below w.heap.size w w' := by
  have H := Lib.hid (readWishes_any n c a A L C Z w hn0 hL0 ha0)
  by_cases h1 : IsWishes n L Z
  · have T1 := Lib.hid (tt_of h1)
    by_cases h2 : InR p 0 ((n : Int) - 1)
    · have T2 := Lib.hid (tt_of h2)
      by_cases h3 : InR x 0 ((n : Int) - 1)
      · have T3 := Lib.hid (tt_of h3)
        by_cases h4 : InR y 0 ((n : Int) - 1)
        · have T4 := Lib.hid (tt_of h4)
          obtain ⟨q, rfl⟩ := Int.eq_ofNat_of_zero_le h2.1
          have HE := Lib.hid (show decide (idxF (Z q) x n < idxF (Z q) y n) = tt (LikesOk n L Z q x y) by
            by_cases h : idxF (Z q) x n < idxF (Z q) y n
            · rw [tt_of (show LikesOk n L Z q x y from ⟨h1, h2, h3, h4, h⟩)]; simpa using h
            · rw [tt_no (show ¬ LikesOk n L Z q x y from fun h' => h h'.2.2.2.2)]; simpa using h)
          have HK := Lib.hid (likes_any n c q a A L C Z x y w h1 (by have := h2.2; omega) ha0)
          clear h1 h2 h3 h4 hL0 ha0 hx1 hx2 hx3
          go_enter Try.func34, Try.ntmps34
          go_wp2_with (first
            | (go_at_call 40; refine H.out.mono ?_; rintro e w' ⟨rfl, rfl⟩; rw [T1.out])
            | (go_at_call 58; refine (hasW_any n c a _ _ hn0).mono ?_; rintro e w' ⟨rfl, rfl⟩; first | rw [T2.out] | rw [T3.out] | rw [T4.out])
            | (go_at_call 59; refine HK.out.mono ?_; rintro e w1 ⟨rfl, hb1⟩; have B1 := Lib.hid hb1; clear hb1))
          go_ret
          exact ⟨by rw [← HE.out]; rfl, B1.out⟩
        · have T4 := Lib.hid (tt_no h4)
          have TL := Lib.hid (tt_no (show ¬ LikesOk n L Z p x y from fun h => h4 h.2.2.2.1))
          clear h1 h2 h3 h4 hL0 ha0
          go_enter Try.func34, Try.ntmps34
          go_wp2_with (first
            | (go_at_call 40; refine H.out.mono ?_; rintro e w' ⟨rfl, rfl⟩; rw [T1.out])
            | (go_at_call 58; refine (hasW_any n c a _ _ hn0).mono ?_; rintro e w' ⟨rfl, rfl⟩; first | rw [T2.out] | rw [T3.out] | rw [T4.out]))
          go_ret
          exact ⟨by rw [TL.out]; rfl, Below.refl _ _⟩
      · have T3 := Lib.hid (tt_no h3)
        have TL := Lib.hid (tt_no (show ¬ LikesOk n L Z p x y from fun h => h3 h.2.2.1))
        clear h1 h2 h3 hL0 ha0
        go_enter Try.func34, Try.ntmps34
        go_wp2_with (first
          | (go_at_call 40; refine H.out.mono ?_; rintro e w' ⟨rfl, rfl⟩; rw [T1.out])
          | (go_at_call 58; refine (hasW_any n c a _ _ hn0).mono ?_; rintro e w' ⟨rfl, rfl⟩; first | rw [T2.out] | rw [T3.out]))
        go_ret
        exact ⟨by rw [TL.out]; rfl, Below.refl _ _⟩
    · have T2 := Lib.hid (tt_no h2)
      have TL := Lib.hid (tt_no (show ¬ LikesOk n L Z p x y from fun h => h2 h.2.1))
      clear h1 h2 hL0 ha0
      go_enter Try.func34, Try.ntmps34
      go_wp2_with (first
        | (go_at_call 40; refine H.out.mono ?_; rintro e w' ⟨rfl, rfl⟩; rw [T1.out])
        | (go_at_call 58; refine (hasW_any n c a _ _ hn0).mono ?_; rintro e w' ⟨rfl, rfl⟩; first | rw [T2.out]))
      go_ret
      exact ⟨by rw [TL.out]; rfl, Below.refl _ _⟩
  · have T1 := Lib.hid (tt_no h1)
    have TL := Lib.hid (tt_no (show ¬ LikesOk n L Z p x y from fun h => h1 h.1))
    clear h1 hL0 ha0
    go_enter Try.func34, Try.ntmps34
    go_wp2_with (first
      | (go_at_call 40; refine H.out.mono ?_; rintro e w' ⟨rfl, rfl⟩; rw [T1.out]))
    go_ret
    exact ⟨by rw [TL.out]; rfl, Below.refl _ _⟩
end Go.Proofs.Ytipfjblnanafnaa
