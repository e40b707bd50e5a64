/- The walk of the law FnOn: it answers true at every code that can be read. -/
import Derived.Test.YteigenmagifplaaDrawWantOn
import Derived.Test.YteigenmagifplaaWantOn
import Derived.Test.YteigenmagifplaaSpecWantOn
import Derived.Test.YteigenmagifplaaWantTurn
import Derived.Test.YteigenmagifplaaFnWantModel
namespace Go.Proofs.Yteigenmagifplaa
set_option linter.unusedVariables false
open Go.RowKit

set_option maxHeartbeats 3200000 in
theorem fnOn_walk (n c : Nat) (a : Option Addr) (B : Nat → Nat) (w : World) (hc : n ≤ c) (hb : RdB w a n B) (hab : 0 < n → ∀ b o, a = some ⟨b, o, none⟩ → b < w.heap.size) :
    Calls Try.prog 4 #[.slice a n c] w fun e w' => e = .returned (.bool true) ∧ Below w.heap.size w w' := by
  by_cases hfit : n ≤ 1048576
  · have hd : ¬ (1048576 < n) := by omega
    have HD := Lib.hid (drawWantOn_any n c a B w hfit hc hb hab)
    clear hb hab
    go_enter Try.func4, Try.ntmps4
    go_wp2_with fail
    refine HD.out.mono ?_
    rintro e w1 ⟨ga, m, gc, X, rfl, ⟨hm2, hm6, hmc⟩, hX, hb1⟩
    have X1 := Lib.hid hX
    have B1 := Lib.hid hb1
    clear hX hb1 HD
    go_wp2_with fail
    refine (wantOn_all m gc _ X _ (by omega) X1.out).mono ?_
    rintro e w2 ⟨rfl, hb2⟩
    have X2 := Lib.hid (X1.out.below (Nat.le_refl _) hb2)
    have B2 := Lib.hid (below_chain B1.out hb2)
    clear hb2 B1 X1
    go_wp2_with fail
    refine (specWantOn_any m gc _ X _ (by omega) X2.out).mono ?_
    rintro e w3 ⟨rfl, hb3⟩
    have X3 := Lib.hid (X2.out.below (Nat.le_refl _) hb3)
    have B3 := Lib.hid (below_chain B2.out hb3)
    clear hb3 B2 X2
    by_cases h : IsWants m X
    · have K1 := Lib.hid (tt_of h)
      have K2 := Lib.hid (wantN_yes h)
      have K3 := Lib.hid (tt_of (turn_is h))
      have hkm : WantK m X (m : Nat) := ⟨h, by unfold InR; omega⟩
      have K4 := Lib.hid (tt_of hkm)
      have KE := Lib.hid (onAns_turn h)
      have KZ := Lib.hid (show (onAns m X = 0) ↔ (circsA m X (m : Nat)).length = 0 by rw [circsA_yes hkm, onAns_zero h]; simp)
      have hcs := circsA_small m X (m : Nat)
      obtain ⟨z, hz⟩ : ∃ z, z = onAns m X := ⟨_, rfl⟩
      have hzl : z < 2 ^ m := by rw [hz]; exact onAns_lt
      have hz6 : z < 64 := Nat.lt_of_lt_of_le hzl (show 2 ^ m ≤ 2 ^ 6 from Nat.pow_le_pow_right (by omega) hm6)
      rw [← hz] at KZ KE
      rw [K1.out, ← hz]
      clear h hkm hzl hz
      go_wp2_with fail
      refine (wantTurn_all m gc _ X _ (by omega) X3.out).mono ?_
      rintro e w4 ⟨ta, tc, rfl, hO4, hb4⟩
      rw [K2.out] at hO4 ⊢
      rw [K1.out]
      have T4 := Lib.hid hO4.rd
      have X4 := Lib.hid (X3.out.below (Nat.le_refl _) hb4)
      have B4 := Lib.hid (below_chain B3.out hb4)
      clear hb4 B3 X3
      clear hO4
      go_wp2_with fail
      refine (wantOn_all m tc _ (turnW m X) _ (by omega) T4.out).mono ?_
      rintro e w5 ⟨rfl, hb5⟩
      rw [KE.out]
      rw [K3.out]
      have X5 := Lib.hid (X4.out.below (Nat.le_refl _) hb5)
      have T5 := Lib.hid (T4.out.below (Nat.le_refl _) hb5)
      have B5 := Lib.hid (below_chain B4.out hb5)
      clear hb5 B4 X4 T4
      clear T5
      go_wp2_with fail
      refine (wantCircles_any m gc _ X (m : Nat) _ (by omega) hmc X5.out (by unfold I64; omega)).mono ?_
      rintro e w6 ⟨Ca, Cc, CA, CC, rfl, hO6, hb6⟩
      rw [K4.out]
      have C6 := Lib.hid hO6.tab
      have X6 := Lib.hid (X5.out.below (Nat.le_refl _) hb6)
      have B6 := Lib.hid (below_chain B5.out hb6)
      clear hb6 B5 X5
      clear hO6
      obtain ⟨l, hl⟩ : ∃ l, l = (circsA m X (m : Nat)).length := ⟨_, rfl⟩
      have KZ' := KZ.out
      rw [← hl] at KZ' ⊢
      rw [← hl] at hcs
      have hcs1 := hcs.1
      clear hcs hl KZ C6
      by_cases hz0 : z = 0
      · have hl0 : l = 0 := KZ'.1 hz0
        subst hz0; subst hl0
        clear KZ'
        go_wp2_with fail
        go_ret
        exact ⟨rfl, B6.out⟩
      · have hl0 : ¬ l = 0 := fun e => hz0 (KZ'.2 e)
        have d1 : ((z : Int) == 0) = false := by simp; omega
        have d2 : ((l : Int) == 0) = false := by simp; omega
        clear KZ'
        go_wp2_with fail
        go_ret
        exact ⟨rfl, B6.out⟩
    · have K1 := Lib.hid (tt_no h)
      rw [K1.out, onAns_no h]
      clear h
      go_wp2_with fail
      go_ret
      exact ⟨rfl, B3.out⟩
  · have hd : 1048576 < n := by omega
    clear hb hab
    go_enter Try.func4, Try.ntmps4
    go_wp2
    go_ret
    exact ⟨rfl, Below.refl _ _⟩
end Go.Proofs.Yteigenmagifplaa
