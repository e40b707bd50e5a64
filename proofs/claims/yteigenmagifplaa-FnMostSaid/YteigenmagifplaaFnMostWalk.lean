/- The walk of the law FnMost: it answers true at every code that can be read. -/
import Derived.Test.YteigenmagifplaaDrawWantMost
import Derived.Test.YteigenmagifplaaWantMost
import Derived.Test.YteigenmagifplaaSpecWantMost
import Derived.Test.YteigenmagifplaaWantTurn
import Derived.Test.YteigenmagifplaaWantCircs
import Derived.Test.YteigenmagifplaaFnWantModel
namespace Go.Proofs.Yteigenmagifplaa
set_option linter.unusedVariables false
open Go.RowKit

set_option maxHeartbeats 3200000 in
theorem fnMost_walk (n c : Nat) (a : Option Addr) (B : Nat → Nat) (w : World) (hc : n ≤ c) (hb : RdB w a n B) (hab : 0 < n → ∀ b o, a = some ⟨b, o, none⟩ → b < w.heap.size) :
    Calls Try.prog 5 #[.slice a n c] w fun e w' => e = .returned (.bool true) ∧ Below w.heap.size w w' := by
  by_cases hfit : n ≤ 1048576
  · have hd : ¬ (1048576 < n) := by omega
    have HD := Lib.hid (drawWantMost_any n c a B w hfit hc hb hab)
    clear hb hab
    go_enter Try.func5, Try.ntmps5
    go_wp2_with fail
    refine HD.out.mono ?_
    rintro e w1 ⟨ga, m, gc, X, k, rfl, ⟨hm2, hm6, hmc⟩, ⟨hk0, hk1⟩, hX, hb1⟩
    have X1 := Lib.hid hX
    have B1 := Lib.hid hb1
    have hik : I64 k := by unfold I64; omega
    have hik1 : I64 (k + 1) := by unfold I64; omega
    clear hX hb1 HD
    go_wp2_with fail
    refine (wantMost_all m gc _ X k _ (by omega) X1.out hik).mono ?_
    rintro e w2 ⟨rfl, hb2⟩
    have X2 := Lib.hid (X1.out.below (Nat.le_refl _) hb2)
    have B2 := Lib.hid (below_chain B1.out hb2)
    clear hb2 B1 X1
    go_wp2_with fail
    refine (specWantMost_any m gc _ X k _ (by omega) X2.out hik).mono ?_
    rintro e w3 ⟨rfl, hb3⟩
    have X3 := Lib.hid (X2.out.below (Nat.le_refl _) hb3)
    have B3 := Lib.hid (below_chain B2.out hb3)
    clear hb3 B2 X2
    by_cases h : WantK m X k
    · have K1 := Lib.hid (tt_of h)
      have K2 := Lib.hid (mostA_yes h)
      have K3 := Lib.hid (tt_of h.1)
      have hk2 : 2 ≤ k ∧ k ≤ m := by have := h.2; unfold InR at this; omega
      obtain ⟨z, hz⟩ : ∃ z, z = mostN' m X k.toNat := ⟨_, rfl⟩
      have hzm : z ≤ m := by rw [hz]; exact most_le m X _
      have K4 := Lib.hid (wantN_yes h.1)
      have hT : WantK m (turnW m X) k := ⟨turn_is h.1, h.2⟩
      have K5 := Lib.hid (tt_of hT)
      have K6 := Lib.hid (show mostA m (turnW m X) k = (z : Nat) by rw [mostA_yes hT, turn_most h.1, hz])
      have KZ := Lib.hid (show z = 0 ↔ (circsA m X k).length = 0 by rw [hz, circsA_yes h, most_zero h.1]; simp)
      have hcs := circsA_small m X k
      obtain ⟨y, hy⟩ : ∃ y, y = mostN' m X (k + 1).toNat := ⟨_, rfl⟩
      have hzy : z ≤ y := by rw [hz, hy]; exact most_mono h.1 (by omega)
      have hwk : wrap64 (k + 1) = k + 1 := IntWalk.wrap64_in _ (by omega)
      have K7 := Lib.hid (show WantK m X (k + 1) → mostA m X (k + 1) = (y : Nat) from fun h => by rw [mostA_yes h, hy])
      rw [K1.out, K2.out, ← hz]
      clear h hT hz hy
      go_wp2_with fail
      refine (wantTurn_all m gc _ X _ (by omega) X3.out).mono ?_
      rintro e w4 ⟨ta, tc, rfl, hO4, hb4⟩
      rw [K4.out] at hO4 ⊢
      rw [K3.out]
      have T4 := Lib.hid hO4.rd
      have X4 := Lib.hid (X3.out.below (Nat.le_refl _) hb4)
      have B4 := Lib.hid (below_chain B3.out hb4)
      clear hb4 B3 X3
      clear hO4
      go_wp2_with fail
      refine (wantMost_all m tc _ (turnW m X) k _ (by omega) T4.out hik).mono ?_
      rintro e w5 ⟨rfl, hb5⟩
      rw [K6.out]
      rw [K5.out]
      have X5 := Lib.hid (X4.out.below (Nat.le_refl _) hb5)
      have T5 := Lib.hid (T4.out.below (Nat.le_refl _) hb5)
      have B5 := Lib.hid (below_chain B4.out hb5)
      clear hb5 B4 X4 T4
      clear T5
      go_wp2_with fail
      refine (wantMost_all m gc _ X (k + 1) _ (by omega) X5.out hik1).mono ?_
      rintro e w6 ⟨rfl, hb6⟩
      have X6 := Lib.hid (X5.out.below (Nat.le_refl _) hb6)
      have B6 := Lib.hid (below_chain B5.out hb6)
      clear hb6 B5 X5
      go_wp2_with fail
      refine (wantCircles_any m gc _ X k _ (by omega) hmc X6.out hik).mono ?_
      rintro e w7 ⟨Ca, Cc, CA, CC, rfl, hO7, hb7⟩
      rw [K1.out]
      have C7 := Lib.hid hO7.tab
      have X7 := Lib.hid (X6.out.below (Nat.le_refl _) hb7)
      have B7 := Lib.hid (below_chain B6.out hb7)
      clear hb7 B6 X6
      clear hO7
      obtain ⟨l, hl⟩ : ∃ l, l = (circsA m X k).length := ⟨_, rfl⟩
      have KZ' := KZ.out
      rw [← hl] at KZ' ⊢
      rw [← hl] at hcs
      have hcs1 := hcs.1
      clear hcs hl KZ C7
      by_cases hk3 : WantK m X (k + 1)
      · have K8 := Lib.hid (K7.out hk3)
        have K9 := Lib.hid (tt_of hk3)
        rw [K8.out, K9.out]
        clear hk3 K7
        by_cases hz0 : z = 0
        · have hl0 : l = 0 := KZ'.1 hz0
          subst hz0; subst hl0
          clear KZ'
          go_wp2_with fail
          go_ret
          exact ⟨rfl, B7.out⟩
        · have hl0 : ¬ l = 0 := fun e => hz0 (KZ'.2 e)
          have d1 : ((z : Int) == 0) = false := by simp; omega
          have d2 : ((l : Int) == 0) = false := by simp; omega
          clear KZ'
          go_wp2_with fail
          go_ret
          exact ⟨rfl, B7.out⟩
      · have K9 := Lib.hid (tt_no hk3)
        rw [mostA_no hk3, K9.out]
        clear hk3 K7
        by_cases hz0 : z = 0
        · have hl0 : l = 0 := KZ'.1 hz0
          subst hz0; subst hl0
          clear KZ'
          go_wp2_with fail
          go_ret
          exact ⟨rfl, B7.out⟩
        · have hl0 : ¬ l = 0 := fun e => hz0 (KZ'.2 e)
          have d1 : ((z : Int) == 0) = false := by simp; omega
          have d2 : ((l : Int) == 0) = false := by simp; omega
          clear KZ'
          go_wp2_with fail
          go_ret
          exact ⟨rfl, B7.out⟩
    · have K1 := Lib.hid (tt_no h)
      rw [K1.out, mostA_no h]
      clear h
      go_wp2_with fail
      go_ret
      exact ⟨rfl, B3.out⟩
  · have hd : 1048576 < n := by omega
    clear hb hab
    go_enter Try.func5, Try.ntmps5
    go_wp2
    go_ret
    exact ⟨rfl, Below.refl _ _⟩
end Go.Proofs.Yteigenmagifplaa
