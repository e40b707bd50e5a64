/- The walk of the law FnMostTwo: it answers true at every code that can be read. -/
import Derived.Test.YteigenmagifplaaDrawWantMost
import Derived.Test.YteigenmagifplaaWantMost
import Derived.Test.YteigenmagifplaaSpecWantMost
import Derived.Test.YteigenmagifplaaWantTry
import Derived.Test.YteigenmagifplaaFnWantModel
namespace Go.Proofs.Yteigenmagifplaa
set_option linter.unusedVariables false
open Go.RowKit

set_option maxHeartbeats 3200000 in
theorem fnMostTwo_walk (n c : Nat) (a : Option Addr) (B : Nat → Nat) (w : World) (hc : n ≤ c) (hb : RdB w a n B) (hab : 0 < n → ∀ b o, a = some ⟨b, o, none⟩ → b < w.heap.size) :
    Calls Try.prog 9 #[.slice a n c] w fun e w' => e = .returned (.bool true) ∧ Below w.heap.size w w' := by
  by_cases hfit : n ≤ 1048576
  · have hd : ¬ (1048576 < n) := by omega
    have HD := Lib.hid (drawWantMost_any n c a B w hfit hc hb hab)
    clear hb hab
    go_enter Try.func9, Try.ntmps9
    go_wp2_with fail
    refine HD.out.mono ?_
    rintro e w1 ⟨ga, m, gc, X, k, rfl, ⟨hm2, hm6, hmc⟩, ⟨hk0, hk1⟩, hX, hb1⟩
    have X1 := Lib.hid hX
    have B1 := Lib.hid hb1
    have hik : I64 k := by unfold I64; omega
    have hik1 : I64 (k + 1) := by unfold I64; omega
    clear hX hb1 HD
    go_wp2_with fail
    refine (wantMost_all m gc _ X k _ (by omega) X1.out hik).mono ?_
    rintro e w2 ⟨rfl, hb2⟩
    have X2 := Lib.hid (X1.out.below (Nat.le_refl _) hb2)
    have B2 := Lib.hid (below_chain B1.out hb2)
    clear hb2 B1 X1
    go_wp2_with fail
    refine (specWantMost_any m gc _ X k _ (by omega) X2.out hik).mono ?_
    rintro e w3 ⟨rfl, hb3⟩
    have X3 := Lib.hid (X2.out.below (Nat.le_refl _) hb3)
    have B3 := Lib.hid (below_chain B2.out hb3)
    clear hb3 B2 X2
    by_cases h : WantK m X k
    · have K1 := Lib.hid (tt_of h)
      have K2 := Lib.hid (mostA_yes h)
      have K3 := Lib.hid (tt_of h.1)
      have hk2 : 2 ≤ k ∧ k ≤ m := by have := h.2; unfold InR at this; omega
      obtain ⟨z, hz⟩ : ∃ z, z = mostN' m X k.toNat := ⟨_, rfl⟩
      have hzm : z ≤ m := by rw [hz]; exact most_le m X _
      obtain ⟨y, hy⟩ : ∃ y, y = mostN' m X m := ⟨_, rfl⟩
      have hym : y ≤ m := by rw [hy]; exact most_le m X _
      have hzy : z ≤ y := by rw [hz, hy]; exact most_mono h.1 (by omega)
      have hev : k = 2 → z % 2 = 0 := by rintro rfl; rw [hz]; exact two_even h.1
      have KY := Lib.hid (show tryAns m X = (y : Nat) by rw [hy]; exact tryAns_yes h.1)
      rw [K1.out, K2.out, ← hz]
      clear h hz hy
      have hev' : ¬ (2 < k) → (((z : Int).tmod 2) == 0) = true := by intro h2; have := hev (by omega); rw [Int.tmod_eq_emod_of_nonneg (by omega)]; simp; omega
      go_wp2_with fail
      refine (wantTry_all m gc _ X _ (by omega) X3.out).mono ?_
      rintro e w4 ⟨rfl, hb4⟩
      rw [KY.out]
      rw [K3.out]
      have X4 := Lib.hid (X3.out.below (Nat.le_refl _) hb4)
      have B4 := Lib.hid (below_chain B3.out hb4)
      clear hb4 B3 X3
      by_cases h2 : 2 < k
      · clear hev hev'
        go_wp2_with fail
        go_ret
        exact ⟨rfl, B4.out⟩
      · have h3 := hev' (by omega)
        have h4 : ((z : Int) % 2 == 0) = true := by rw [Int.tmod_eq_emod_of_nonneg (by omega)] at h3; exact h3
        clear hev hev'
        go_wp2_with fail
        go_ret
        exact ⟨rfl, B4.out⟩
    · have K1 := Lib.hid (tt_no h)
      rw [K1.out, mostA_no h]
      clear h
      go_wp2_with fail
      go_ret
      exact ⟨rfl, B3.out⟩
  · have hd : 1048576 < n := by omega
    clear hb hab
    go_enter Try.func9, Try.ntmps9
    go_wp2
    go_ret
    exact ⟨rfl, Below.refl _ _⟩
end Go.Proofs.Yteigenmagifplaa
