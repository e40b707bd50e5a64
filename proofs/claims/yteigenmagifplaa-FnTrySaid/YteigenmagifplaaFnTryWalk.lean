/- The walk of the law FnTry: it answers true at every code that can be read. -/
import Derived.Test.YteigenmagifplaaDrawWantTry
import Derived.Test.YteigenmagifplaaWantTry
import Derived.Test.YteigenmagifplaaSpecWantTry
import Derived.Test.YteigenmagifplaaWantMost
import Derived.Test.YteigenmagifplaaWantOn
import Derived.Test.YteigenmagifplaaFnWantModel
namespace Go.Proofs.Yteigenmagifplaa
set_option linter.unusedVariables false
open Go.RowKit

set_option maxHeartbeats 3200000 in
theorem fnTry_walk (n c : Nat) (a : Option Addr) (B : Nat → Nat) (w : World) (hc : n ≤ c) (hb : RdB w a n B) (hab : 0 < n → ∀ b o, a = some ⟨b, o, none⟩ → b < w.heap.size) :
    Calls Try.prog 6 #[.slice a n c] w fun e w' => e = .returned (.bool true) ∧ Below w.heap.size w w' := by
  by_cases hfit : n ≤ 1048576
  · have hd : ¬ (1048576 < n) := by omega
    have HD := Lib.hid (drawWantTry_any n c a B w hfit hc hb hab)
    clear hb hab
    go_enter Try.func6, Try.ntmps6
    go_wp2_with fail
    refine HD.out.mono ?_
    rintro e w1 ⟨ga, m, gc, X, rfl, ⟨hm2, hm6, hmc⟩, hX, hb1⟩
    have X1 := Lib.hid hX
    have B1 := Lib.hid hb1
    clear hX hb1 HD
    go_wp2_with fail
    refine (wantTry_all m gc _ X _ (by omega) X1.out).mono ?_
    rintro e w2 ⟨rfl, hb2⟩
    have X2 := Lib.hid (X1.out.below (Nat.le_refl _) hb2)
    have B2 := Lib.hid (below_chain B1.out hb2)
    clear hb2 B1 X1
    go_wp2_with fail
    refine (specWantTry_any m gc _ X _ (by omega) X2.out).mono ?_
    rintro e w3 ⟨rfl, hb3⟩
    have X3 := Lib.hid (X2.out.below (Nat.le_refl _) hb3)
    have B3 := Lib.hid (below_chain B2.out hb3)
    clear hb3 B2 X2
    by_cases h : IsWants m X
    · have K1 := Lib.hid (tt_of h)
      have hkm : WantK m X (m : Nat) := ⟨h, by unfold InR; omega⟩
      have K4 := Lib.hid (tt_of hkm)
      obtain ⟨z, hz⟩ : ∃ z, z = mostN' m X m := ⟨_, rfl⟩
      have K2 := Lib.hid (show tryAns m X = (z : Nat) by rw [hz]; exact tryAns_yes h)
      have K3 := Lib.hid (show mostA m X (m : Nat) = (z : Nat) by rw [hz]; exact mostA_yes hkm)
      obtain ⟨O, hO⟩ : ∃ O, O = onAns m X := ⟨_, rfl⟩
      have hOl : O < 2 ^ m := by rw [hO]; exact onAns_lt
      have hO6 : O < 64 := Nat.lt_of_lt_of_le hOl (show 2 ^ m ≤ 2 ^ 6 from Nat.pow_le_pow_right (by omega) hm6)
      have hzO : z ≤ popN O m := by rw [hz, hO]; exact most_on h m
      rw [K1.out, K2.out]
      have K5 := Lib.hid hO.symm
      clear h hkm hOl hO hz
      go_wp2_with fail
      refine (wantMost_all m gc _ X (m : Nat) _ (by omega) X3.out (by unfold I64; omega)).mono ?_
      rintro e w4 ⟨rfl, hb4⟩
      rw [K3.out]
      rw [K4.out]
      have X4 := Lib.hid (X3.out.below (Nat.le_refl _) hb4)
      have B4 := Lib.hid (below_chain B3.out hb4)
      clear hb4 B3 X3
      go_wp2_with fail
      refine (wantOn_all m gc _ X _ (by omega) X4.out).mono ?_
      rintro e w5 ⟨rfl, hb5⟩
      rw [K5.out]
      rw [K1.out]
      have X5 := Lib.hid (X4.out.below (Nat.le_refl _) hb5)
      have B5 := Lib.hid (below_chain B4.out hb5)
      clear hb5 B4 X4
      go_wp2_with fail
      go_loop [12, 13] (fun s x => ∃ k : Nat, k ≤ m ∧ x = .int .i64 k ∧ s = .int .i64 (popN O k : Nat)) (fun _ x => m - (intOf x).toNat)
      case atStart => exact ⟨0, Nat.zero_le _, rfl, rfl⟩
      case round =>
        obtain ⟨k, hk, rfl, rfl⟩ := hrel
        by_cases hlt : k < m
        · obtain ⟨G, hG⟩ : ∃ G, G = popN O k := ⟨_, rfl⟩
          have hGk : G ≤ k := by rw [hG]; exact pop_bound O k
          have hs := Lib.hid (show popN O (k + 1) = G + if O.testBit k = true then 1 else 0 by rw [hG]; rfl)
          have hv := bit_val O k (by omega)
          rw [← hG]
          clear hG
          cases hb : O.testBit k with
          | true =>
            rw [hb] at hs hv
            rw [if_pos rfl] at hv
            have hs1 := Lib.hid (show popN O (k + 1) = G + 1 from hs.out)
            clear hb hs
            go_wp2_with fail
            go_round
            case rel => exact ⟨k + 1, by omega, by go_num, by rw [hs1.out]; go_num⟩
            case measure => simp [intOf]; omega
          | false =>
            rw [hb] at hs hv
            rw [if_neg (by simp)] at hv
            have hs1 := Lib.hid (show popN O (k + 1) = G from hs.out)
            clear hb hs
            go_wp2_with fail
            go_round
            case rel => exact ⟨k + 1, by omega, by go_num, by rw [hs1.out]⟩
            case measure => simp [intOf]; omega
        · obtain rfl : m = k := by omega
          obtain ⟨G, hG⟩ : ∃ G, G = popN O m := ⟨_, rfl⟩
          rw [← hG] at hzO ⊢
          clear hG
          go_wp2_with fail
          go_ret
          exact ⟨rfl, B5.out⟩
    · have K1 := Lib.hid (tt_no h)
      rw [K1.out, tryAns_no h]
      clear h
      go_wp2_with fail
      go_ret
      exact ⟨rfl, B3.out⟩
  · have hd : 1048576 < n := by omega
    clear hb hab
    go_enter Try.func6, Try.ntmps6
    go_wp2
    go_ret
    exact ⟨rfl, Below.refl _ _⟩
end Go.Proofs.Yteigenmagifplaa
