/- The walk of the law FnWantAll: it answers true at every code that can be read. -/
import Derived.Test.YteigenmagifplaaDrawWantAll
import Derived.Test.YteigenmagifplaaWantAll
import Derived.Test.YteigenmagifplaaSpecWantAll
import Derived.Test.YteigenmagifplaaWantTry
import Derived.Test.YteigenmagifplaaWantMost
import Derived.Test.YteigenmagifplaaWantOn
import Derived.Test.YteigenmagifplaaFnWantModel
namespace Go.Proofs.Yteigenmagifplaa
set_option linter.unusedVariables false
open Go.RowKit

set_option maxHeartbeats 3200000 in
theorem fnWantAll_walk (n c : Nat) (a : Option Addr) (B : Nat → Nat) (w : World) (hc : n ≤ c) (hb : RdB w a n B) (hab : 0 < n → ∀ b o, a = some ⟨b, o, none⟩ → b < w.heap.size) :
    Calls Try.prog 8 #[.slice a n c] w fun e w' => e = .returned (.bool true) ∧ Below w.heap.size w w' := by
  by_cases hfit : n ≤ 1048576
  · have hd : ¬ (1048576 < n) := by omega
    have HD := Lib.hid (drawWantAll_any n c a B w hfit hc hb hab)
    clear hb hab
    go_enter Try.func8, Try.ntmps8
    go_wp2_with fail
    refine HD.out.mono ?_
    rintro e w1 ⟨ga, m, gc, X, k, rfl, ⟨hm2, hm6, hmc⟩, ⟨hk0, hk1⟩, hX, hb1⟩
    have X1 := Lib.hid hX
    have B1 := Lib.hid hb1
    have hik : I64 k := by unfold I64; omega
    have hik1 : I64 (k + 1) := by unfold I64; omega
    clear hX hb1 HD
    go_wp2_with fail
    refine (wantAll_any m gc _ X k _ (by omega) hmc X1.out hik).mono ?_
    rintro e w2 ⟨rfl, hb2⟩
    have X2 := Lib.hid (X1.out.below (Nat.le_refl _) hb2)
    have B2 := Lib.hid (below_chain B1.out hb2)
    clear hb2 B1 X1
    go_wp2_with fail
    refine (specWantAll_any m gc _ X k _ (by omega) X2.out hik).mono ?_
    rintro e w3 ⟨rfl, hb3⟩
    have X3 := Lib.hid (X2.out.below (Nat.le_refl _) hb3)
    have B3 := Lib.hid (below_chain B2.out hb3)
    clear hb3 B2 X2
    by_cases h : AllOk m X k
    · have K1 := Lib.hid (tt_of h)
      have hA := all_on h
      have K2 := Lib.hid hA.1
      have K3 := Lib.hid hA.2.1
      have K4 := Lib.hid (tt_of h.1)
      have K5 := Lib.hid (tt_of h.1.1)
      obtain ⟨Z, hZ⟩ : ∃ Z, Z = 2 ^ m := ⟨_, rfl⟩
      have hZ1 : 1 ≤ Z := by rw [hZ]; exact Nat.two_pow_pos m
      have hp6 : (2 : Nat) ^ m ≤ 2 ^ 6 := Nat.pow_le_pow_right (by omega) hm6
      have hZ6 : Z ≤ 64 := by rw [hZ]; exact hp6
      have K6 := Lib.hid (show ((onAns m X : Nat) : Int) = (Z : Int) - 1 by rw [hA.2.2, hZ]; have := Nat.two_pow_pos m; omega)
      have hsh : wrap64 (2 ^ min m 64) = (Z : Int) := by rw [hZ, show min m 64 = m by omega]; exact wrap_pow (show m < 62 by omega)
      have hsh2 : wrap64 (2 ^ m) = (Z : Int) := by rw [hZ]; exact wrap_pow (show m < 62 by omega)
      rw [K1.out]
      clear h hA hZ hp6
      have hsb : wrap64 ((Z : Int) - 1) = (Z : Int) - 1 := IntWalk.wrap64_in _ (by omega)
      go_wp2_with fail
      refine (wantTry_all m gc _ X _ (by omega) X3.out).mono ?_
      rintro e w4 ⟨rfl, hb4⟩
      rw [K2.out]
      rw [K5.out]
      have X4 := Lib.hid (X3.out.below (Nat.le_refl _) hb4)
      have B4 := Lib.hid (below_chain B3.out hb4)
      clear hb4 B3 X3
      go_wp2_with fail
      refine (wantMost_all m gc _ X k _ (by omega) X4.out hik).mono ?_
      rintro e w5 ⟨rfl, hb5⟩
      rw [K3.out]
      rw [K4.out]
      have X5 := Lib.hid (X4.out.below (Nat.le_refl _) hb5)
      have B5 := Lib.hid (below_chain B4.out hb5)
      clear hb5 B4 X4
      go_wp2_with fail
      refine (wantOn_all m gc _ X _ (by omega) X5.out).mono ?_
      rintro e w6 ⟨rfl, hb6⟩
      rw [K6.out]
      rw [K5.out]
      have X6 := Lib.hid (X5.out.below (Nat.le_refl _) hb6)
      have B6 := Lib.hid (below_chain B5.out hb6)
      clear hb6 B5 X5
      go_wp2_with fail
      go_ret
      exact ⟨rfl, B6.out⟩
    · have K1 := Lib.hid (tt_no h)
      rw [K1.out]
      clear h
      go_wp2_with fail
      go_ret
      exact ⟨rfl, B3.out⟩
  · have hd : 1048576 < n := by omega
    clear hb hab
    go_enter Try.func8, Try.ntmps8
    go_wp2
    go_ret
    exact ⟨rfl, Below.refl _ _⟩
end Go.Proofs.Yteigenmagifplaa
