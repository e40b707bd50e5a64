/- The program's SwapDo. -/
import Derived.Test.YtlncinbphgallaaReadHeld
import Derived.Test.YtlncinbphgallaaSwapped
import Derived.Test.YtlncinbphgallaaHasW
namespace Go.Proofs.Ytlncinbphgallaa
set_option linter.unusedVariables false
set_option linter.unusedSimpArgs false
open Go.RowKit

set_option maxRecDepth 100000 in
set_option maxHeartbeats 1600000 in
theorem swapDo_anyc (n c : Nat) (a : Option Addr) (A : Nat → Option Addr) (L C : Nat → Nat) (Z : Nat → Nat → Int) (m d : Nat) (b : Option Addr) (G : Nat → Int) (x y : Int) (w : World) (hn0 : n ≤ 1048576) (hL0 : ∀ r, r < n → L r ≤ 1048576) (ha0 : Tab w a n A L C Z) (hm1 : m ≤ 1048576) (hb1 : Rd w b m G) (hx2 : I64 x) (hx3 : I64 y) :
    Calls Try.prog 28 #[.slice a n c, .slice b m d, .int .i64 x, .int .i64 y] w (RetIB (tt (TwoPpl n L Z m G x y)) (swapN n L Z m G x y) (swapF G x.toNat y.toNat) w) := by
  by_cases hg : GivenOk n L Z m G
  · have H := Lib.hid (readHeld_yes n c a A L C Z m d b G w hn0 hL0 ha0 hm1 hb1 hg)
    have hn5 := hg.1.1.2
    by_cases hx : InR x 0 ((n : Int) - 1)
    · have T1 := Lib.hid (tt_of hx)
      by_cases hy : InR y 0 ((n : Int) - 1)
      · have T2 := Lib.hid (tt_of hy)
        by_cases hxy : x = y
        · have HE := Lib.hid (tt_no (show ¬ TwoPpl n L Z m G x y from fun h => h.2 hxy))
          have HN := Lib.hid (swapN_no (show ¬ TwoPpl n L Z m G x y from fun h => h.2 hxy))
          subst hxy
          have d1 : (x == x) = true := by simp
          clear hg hx hy ha0 hL0 hb1 hx2 hx3
          go_enter Try.func28, Try.ntmps28
          go_wp2_with (first
            | (go_at_call 52; refine H.out.mono ?_; rintro e w1 ⟨rfl, hb1⟩)
            | ((with_reducible refine arr_alloc 6 _ (Try.zeroHeld _) ?_); intro w2 hA2 hs2 hb2; clear hs2)
            | ((with_reducible refine arr_store 6 _ _ _ _ _ _ (heldF n G) ?_ ?_ hA2 Try.sizeHeld ?_); exact rfl; exact rfl; intro w3 hA3 hs3 ho3 hb3; have hb4 := (below_chain hb1 hb2).trans (hb3.mono hb1.size); clear hA2 hs3 ho3)
            | (go_at_call 53; refine (hasW_any n c a _ _ hn0).mono ?_; rintro e w' ⟨rfl, rfl⟩; first | rw [T1.out] | rw [T2.out]))
          go_ret2
          exact ⟨none, 0, by rw [HE.out, HN.out]; rfl, .inl HN.out, hb4⟩
        · have d1 : (x == y) = false := by simp [hxy]
          have hP : TwoPpl n L Z m G x y := ⟨⟨hg, hx, hy⟩, hxy⟩
          have HE := Lib.hid (tt_of hP)
          have HN := Lib.hid (swapN_yes hP)
          obtain ⟨i, rfl⟩ := Int.eq_ofNat_of_zero_le hx.1
          obtain ⟨k, rfl⟩ := Int.eq_ofNat_of_zero_le hy.1
          have hi : i < n := by have := hx.2; omega
          have hk : k < n := by have := hy.2; omega
          have hik : i ≠ k := fun e => hxy (by rw [e])
          clear hg hx hy ha0 hL0 hb1 hx2 hx3 hP hxy
          go_enter Try.func28, Try.ntmps28
          go_wp2_with (first
            | (go_at_call 52; refine H.out.mono ?_; rintro e w1 ⟨rfl, hb1⟩)
            | ((with_reducible refine arr_alloc 6 _ (Try.zeroHeld _) ?_); intro w2 hA2 hs2 hb2; clear hs2)
            | ((with_reducible refine arr_store 6 _ _ _ _ _ _ (heldF n G) ?_ ?_ hA2 Try.sizeHeld ?_); exact rfl; exact rfl; intro w3 hA3 hs3 ho3 hb3; have hb4 := (below_chain hb1 hb2).trans (hb3.mono hb1.size); clear hA2 hs3 ho3)
            | (go_at_call 53; refine (hasW_any n c a _ _ hn0).mono ?_; rintro e w' ⟨rfl, rfl⟩; first | rw [T1.out] | rw [T2.out])
            | ((with_reducible refine st_load 6 _ _ _ _ _ _ ?_ hA3 Try.underlying54 rfl Try.sizeHeld ?_); exact rfl)
            | (go_at_call 59; refine (swapped_any n i k G _ hn5 hi hk hik).mono ?_; rintro e w5 ⟨rfl, hb5⟩; have hb6 := Lib.hid (below_chain hb4 hb5); clear hb5)
            | (go_at_call 60; refine (list_any n _ _ (by omega) hn5).mono ?_; rintro e w7 ⟨g, cap, rfl, hown, hb7⟩; have HO := Lib.hid (OwnR.of_owns hown); have hl := hown.lt g rfl; have hb8 := Lib.hid (below_chain hb6.out hb7); clear hown hb7))
          go_ret2
          exact ⟨_, _, by rw [HE.out, HN.out]; rfl, by rw [HN.out]; exact .inr ⟨g, Nat.le_trans hb6.out.size hl.1, hl.2, HO.out⟩, hb8.out⟩
      · have T2 := Lib.hid (tt_no hy)
        have HE := Lib.hid (tt_no (show ¬ TwoPpl n L Z m G x y from fun h => hy h.1.2.2))
        have HN := Lib.hid (swapN_no (show ¬ TwoPpl n L Z m G x y from fun h => hy h.1.2.2))
        clear hg hx hy ha0 hL0 hb1 hx2 hx3
        go_enter Try.func28, Try.ntmps28
        go_wp2_with (first
          | (go_at_call 52; refine H.out.mono ?_; rintro e w1 ⟨rfl, hb1⟩)
          | ((with_reducible refine arr_alloc 6 _ (Try.zeroHeld _) ?_); intro w2 hA2 hs2 hb2; clear hs2)
          | ((with_reducible refine arr_store 6 _ _ _ _ _ _ (heldF n G) ?_ ?_ hA2 Try.sizeHeld ?_); exact rfl; exact rfl; intro w3 hA3 hs3 ho3 hb3; have hb4 := (below_chain hb1 hb2).trans (hb3.mono hb1.size); clear hA2 hs3 ho3)
          | (go_at_call 53; refine (hasW_any n c a _ _ hn0).mono ?_; rintro e w' ⟨rfl, rfl⟩; first | rw [T1.out] | rw [T2.out]))
        go_ret2
        exact ⟨none, 0, by rw [HE.out, HN.out]; rfl, .inl HN.out, hb4⟩
    · have T1 := Lib.hid (tt_no hx)
      have HE := Lib.hid (tt_no (show ¬ TwoPpl n L Z m G x y from fun h => hx h.1.2.1))
      have HN := Lib.hid (swapN_no (show ¬ TwoPpl n L Z m G x y from fun h => hx h.1.2.1))
      clear hg hx ha0 hL0 hb1 hx2 hx3
      go_enter Try.func28, Try.ntmps28
      go_wp2_with (first
        | (go_at_call 52; refine H.out.mono ?_; rintro e w1 ⟨rfl, hb1⟩)
        | ((with_reducible refine arr_alloc 6 _ (Try.zeroHeld _) ?_); intro w2 hA2 hs2 hb2; clear hs2)
        | ((with_reducible refine arr_store 6 _ _ _ _ _ _ (heldF n G) ?_ ?_ hA2 Try.sizeHeld ?_); exact rfl; exact rfl; intro w3 hA3 hs3 ho3 hb3; have hb4 := (below_chain hb1 hb2).trans (hb3.mono hb1.size); clear hA2 hs3 ho3)
        | (go_at_call 53; refine (hasW_any n c a _ _ hn0).mono ?_; rintro e w' ⟨rfl, rfl⟩; rw [T1.out]))
      go_ret2
      exact ⟨none, 0, by rw [HE.out, HN.out]; rfl, .inl HN.out, hb4⟩
  · have H := Lib.hid (readHeld_no n c a A L C Z m d b G w hn0 hL0 ha0 hm1 hb1 hg)
    have HE := Lib.hid (tt_no (show ¬ TwoPpl n L Z m G x y from fun h => hg h.1.1))
    have HN := Lib.hid (swapN_no (show ¬ TwoPpl n L Z m G x y from fun h => hg h.1.1))
    clear hg ha0 hL0 hb1 hx2 hx3
    go_enter Try.func28, Try.ntmps28
    go_wp2_with (first
      | (go_at_call 52; refine H.out.mono ?_; rintro e w1 ⟨rfl, hb1⟩)
      | ((with_reducible refine arr_alloc 6 _ (Try.zeroHeld _) ?_); intro w2 hA2 hs2 hb2; clear hs2)
      | ((with_reducible refine arr_store 6 _ _ _ _ _ _ (fun _ => 0) ?_ ?_ hA2 Try.sizeHeld ?_); exact rfl; exact rfl; intro w3 hA3 hs3 ho3 hb3; have hb4 := (below_chain hb1 hb2).trans (hb3.mono hb1.size); clear hA2 hs3 ho3))
    go_ret2
    exact ⟨none, 0, by rw [HE.out, HN.out]; rfl, .inl HN.out, hb4⟩
theorem swapDo_any (n c : Nat) (a : Option Addr) (A : Nat → Option Addr) (L C : Nat → Nat) (Z : Nat → Nat → Int) (m d : Nat) (b : Option Addr) (G : Nat → Int) (x y : Int) (w : World) (hn0 : n ≤ 1048576) (hL0 : ∀ r, r < n → L r ≤ 1048576) (ha0 : Tab w a n A L C Z) (hm1 : m ≤ 1048576) (hmd1 : m ≤ d) (hb1 : Rd w b m G) (hx2 : I64 x) (hx3 : I64 y) :
    Calls Try.prog 28 #[.slice a n c, .slice b m d, .int .i64 x, .int .i64 y] w (RetIB (tt (TwoPpl n L Z m G x y)) (swapN n L Z m G x y) (swapF G x.toNat y.toNat) w) :=
  swapDo_anyc n c a A L C Z m d b G x y w hn0 hL0 ha0 hm1 hb1 hx2 hx3
end Go.Proofs.Ytlncinbphgallaa
