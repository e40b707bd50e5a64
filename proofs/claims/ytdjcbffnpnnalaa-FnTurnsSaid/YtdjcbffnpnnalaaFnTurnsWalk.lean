/- The walk of the law FnTurns: it answers true at every code that can be read. -/
import Derived.Test.YtdjcbffnpnnalaaDrawHouseTurns
import Derived.Test.YtdjcbffnpnnalaaHouseTurns
import Derived.Test.YtdjcbffnpnnalaaSpecHouseTurns
import Derived.Test.YtdjcbffnpnnalaaTradeGiving
namespace Go.Proofs.Ytdjcbffnpnnalaa
set_option linter.unusedVariables false
set_option linter.unusedSimpArgs false
open Go.RowKit

set_option maxHeartbeats 3200000 in
theorem fnTurns_walk (n c : Nat) (a : Option Addr) (B : Nat → Nat) (w : World) (hc : n ≤ c) (hb : RdB w a n B) (hab : 0 < n → ∀ b o, a = some ⟨b, o, none⟩ → b < w.heap.size) :
    Calls Try.prog 8 #[.slice a n c] w fun e w' => e = .returned (.bool true) ∧ Below w.heap.size w w' := by
  by_cases hfit : n ≤ 1048576
  · have hd : ¬ (1048576 < n) := by omega
    have HD := Lib.hid (drawHouseTurns_any n c a B w hfit hc hb hab)
    clear hb hab
    go_enter Try.func8, Try.ntmps8
    go_wp2_with fail
    refine HD.out.mono ?_
    rintro e w1 ⟨ga, N, gc, A, L, C, Z, rfl, ⟨hN1, hN5⟩, hL, hT, hb1⟩
    have HT := Lib.hid hT
    have HL := Lib.hid (show ∀ r, r < N → L r ≤ 1048576 from fun r hr => by have := hL r hr; omega)
    have B1 := Lib.hid hb1
    clear hT hL hb1 HD
    go_wp2_with fail
    by_cases hw : IsWishes N L Z
    · have K1 := Lib.hid (tt_of hw)
      obtain ⟨T, hT⟩ : ∃ T, T = turnsN Z N := ⟨_, rfl⟩
      have KI := Lib.hid (show ifWishes N L Z (turnsN Z N : Nat) = (T : Int) by rw [ifWishes_yes hw, hT])
      have hT1 : 1 ≤ T := by rw [hT]; exact (turns_is hw).2.1
      have hTN : T ≤ N := by rw [hT]; exact (turns_is hw).2.2
      have KF := Lib.hid (fun (h : ∀ y : Nat, y < N → ∃ i, i < N ∧ Z i 0 = y) => show T = 1 by rw [hT]; exact (turns_one hw).2 (fun i hi => all_circ hw h hi))
      have KR := Lib.hid (fun r (hr : r < N) => (hw.2 r hr).1)
      have KZ := Lib.hid (fun r (hr : r < N) => (hw.2 r hr).2.1 0 (by omega))
      have hN2 := hw.1.1
      clear hw hT
      refine (houseTurns_any N gc ga A L C Z _ (by omega) HL.out HT.out).mono ?_
      rintro e w2 ⟨rfl, hb2⟩
      rw [K1.out, KI.out]
      have B2 := Lib.hid hb2
      clear hb2
      go_wp2_with fail
      refine (specHouseTurns_any N gc ga A L C Z _ (by omega) HL.out (HT.out.below (Nat.le_refl _) B2.out)).mono ?_
      rintro e w3 ⟨rfl, hb3⟩
      rw [K1.out, KI.out]
      have B3 := Lib.hid (below_chain B2.out hb3)
      clear hb3
      have HT3 := Lib.hid (HT.out.below (Nat.le_refl _) B3.out)
      go_wp2
      go_loop [8, 9] (fun s i => ∃ k S : Nat, k ≤ N ∧ i = .int .i64 k ∧ s = .int .i64 (S : Nat) ∧ S < 2 ^ N ∧ SetOf S k (fun j => Z j 0)) (fun _ i => N - (intOf i).toNat)
      case atStart => exact ⟨0, 0, Nat.zero_le _, rfl, rfl, Nat.two_pow_pos N, SetOf.nil _⟩
      case round =>
        obtain ⟨k, S, hk, rfl, rfl, hS, hset⟩ := hrel
        have HS := Lib.hid hS
        have HSet := Lib.hid hset
        clear hS hset
        by_cases hlt : k < N
        · obtain ⟨ba, oa, hgb, hca, hra⟩ := HT3.out k hlt
          subst hgb
          rw [KR.out k hlt] at hca hra
          obtain ⟨bz, oz, hAz, hcz⟩ := hra 0 (by omega)
          rw [hAz] at hca
          rw [Nat.add_zero] at hcz
          have hz := KZ.out k hlt
          obtain ⟨x, hx⟩ := Int.eq_ofNat_of_zero_le hz.1
          have hxn : x < N := by omega
          rw [hx] at hcz
          have HX := Lib.hid hx
          have hput := bit_put S x (Nat.lt_trans HS.out (two_pow_lt (by omega))) (by omega)
          obtain ⟨S', hS'⟩ : ∃ S', S' = S ||| 2 ^ x := ⟨_, rfl⟩
          rw [← hS'] at hput
          have HS' := Lib.hid hS'
          have hNpos : (0 : Int) < (N : Int) := by omega
          clear hra hAz hz hx hS'
          go_wp2
          go_round
          case rel => exact ⟨k + 1, S', by omega, by go_num, rfl, by rw [HS'.out]; exact bit_put_lt HS.out hxn, by rw [HS'.out]; exact HSet.out.put HX.out⟩
          case measure => simp [intOf]; omega
        · obtain rfl : N = k := by omega
          have hNq := two_pow_lt (show N < 62 by omega)
          have hNr := Nat.two_pow_pos N
          have hw2 : wrap64 (((2 ^ N : Nat) : Int) - 1) = ((2 ^ N - 1 : Nat) : Int) := by rw [IntWalk.wrap64_in _ (by omega)]; omega
          have d1 : decide ((1 : Int) ≤ (T : Int)) = true := by simp; omega
          have d2 : decide (T ≤ N) = true := by simpa using hTN
          by_cases h1 : S = 2 ^ N - 1
          · have hd1 : ((S : Int) != wrap64 (wrap64 (2 ^ N) - 1)) = false := by
              rw [wrap_pow (show N < 62 by omega), hw2, h1]; simp
            have hT1' : T = 1 := KF.out fun y hy => by
              obtain ⟨j, hj, e⟩ := (HSet.out y).1 (by rw [h1, Nat.testBit_two_pow_sub_one]; simpa using hy)
              exact ⟨j, hj, e⟩
            have hd2 : ((T : Int) == 1) = true := by rw [hT1']; rfl
            clear h1 hw2 hNq hNr hT1'
            go_wp2
            go_ret
            exact ⟨by first | rfl | simp [hd1, hd2], below_chain B1.out B3.out⟩
          · have hd1 : ((S : Int) != wrap64 (wrap64 (2 ^ N) - 1)) = true := by
              rw [wrap_pow (show N < 62 by omega), hw2]
              simp only [bne_iff_ne]; omega
            clear h1 hw2 hNq hNr
            go_wp2
            go_ret
            exact ⟨by first | rfl | simp [hd1], below_chain B1.out B3.out⟩
    · have K1 := Lib.hid (tt_no hw)
      have KI := Lib.hid (ifWishes_no (x := (turnsN Z N : Nat)) hw)
      clear hw
      refine (houseTurns_any N gc ga A L C Z _ (by omega) HL.out HT.out).mono ?_
      rintro e w2 ⟨rfl, hb2⟩
      rw [K1.out, KI.out]
      have B2 := Lib.hid hb2
      clear hb2
      go_wp2_with fail
      refine (specHouseTurns_any N gc ga A L C Z _ (by omega) HL.out (HT.out.below (Nat.le_refl _) B2.out)).mono ?_
      rintro e w3 ⟨rfl, hb3⟩
      rw [K1.out, KI.out]
      have B3 := Lib.hid (below_chain B2.out hb3)
      clear hb3
      go_wp2
      go_ret
      exact ⟨by first | rfl | simp, below_chain B1.out B3.out⟩
  · have hd : 1048576 < n := by omega
    clear hb hab
    go_enter Try.func8, Try.ntmps8
    go_wp2_with fail
    go_ret
    exact ⟨rfl, Below.refl _ _⟩
end Go.Proofs.Ytdjcbffnpnnalaa
