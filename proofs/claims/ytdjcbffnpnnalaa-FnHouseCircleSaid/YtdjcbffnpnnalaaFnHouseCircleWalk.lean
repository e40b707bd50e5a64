/- The walk of the law FnHouseCircle: it answers true at every code that can be read. -/
import Derived.Test.YtdjcbffnpnnalaaDrawHouseCircle
import Derived.Test.YtdjcbffnpnnalaaHouseCircle
import Derived.Test.YtdjcbffnpnnalaaSpecHouseCircle
import Derived.Test.YtdjcbffnpnnalaaHouseTrade
import Derived.Test.YtdjcbffnpnnalaaHouseTurns
import Derived.Test.YtdjcbffnpnnalaaTradeGiving
import Derived.Deep.QuietTactic
import Derived.BigQuiet
namespace Go.Proofs.Ytdjcbffnpnnalaa
set_option linter.unusedVariables false
set_option linter.unusedSimpArgs false
open Go.RowKit

set_option maxHeartbeats 3200000 in
theorem fnHouseCircle_walk (n c : Nat) (a : Option Addr) (B : Nat → Nat) (w : World) (hc : n ≤ c) (hb : RdB w a n B) (hab : 0 < n → ∀ b o, a = some ⟨b, o, none⟩ → b < w.heap.size) :
    Calls Try.prog 10 #[.slice a n c] w fun e w' => e = .returned (.bool true) ∧ Below w.heap.size w w' := by
  by_cases hfit : n ≤ 1048576
  · have hd : ¬ (1048576 < n) := by omega
    have HD := Lib.hid (drawHouseCircle_any n c a B w hfit hc hb hab)
    clear hb hab
    go_enter Try.func10, Try.ntmps10
    go_wp2_with fail
    refine HD.out.mono ?_
    rintro e w1 ⟨ga, N, gc, A, L, C, Z, rfl, ⟨hN1, hN5⟩, hL, hT, hb1⟩
    have HT := Lib.hid hT
    have HL := Lib.hid (show ∀ r, r < N → L r ≤ 1048576 from fun r hr => by have := hL r hr; omega)
    have B1 := Lib.hid hb1
    clear hT hL hb1 HD
    go_wp2_with fail
    by_cases hw : IsWishes N L Z
    · have K1 := Lib.hid (tt_of hw)
      have KN := Lib.hid (tradeN_yes hw)
      have KT := Lib.hid (ifWishes_yes (x := (turnsN Z N : Nat)) hw)
      obtain ⟨M, hM⟩ : ∃ M, M = maskN (circB Z N (tS Z N 0)) N := ⟨_, rfl⟩
      have KI := Lib.hid (show ifWishes N L Z (circleF Z N) = (M : Int) by rw [ifWishes_yes hw, hM]; rfl)
      have hMp : 0 < M := by rw [hM]; exact circle_pos hw
      have hMl : M < 2 ^ N := by rw [hM]; exact maskN_lt _ _
      have KB := Lib.hid (fun (i : Nat) (h : M.testBit i = true) => first_best hw (i := i) (by rw [← circleF_bit, ← hM]; exact h))
      have KF := Lib.hid (show M = 2 ^ N - 1 ↔ turnsN Z N = 1 by rw [hM]; exact circle_full hw)
      have hNp := two_pow_lt (show N < 62 by omega)
      have hM62 : M < 2 ^ 62 := by omega
      have KR := Lib.hid (fun r (hr : r < N) => (hw.2 r hr).1)
      have hN2 := hw.1.1
      have KG := Lib.hid (fun i (hi : i < N) => (trade_giving hw).1 i hi)
      have HM := Lib.hid hM
      have HMl := Lib.hid hMl
      clear hw hM hMl
      refine (houseCircle_any N gc ga A L C Z _ (by omega) HL.out HT.out).mono ?_
      rintro e w2 ⟨rfl, hb2⟩
      rw [K1.out, KI.out]
      have B2 := Lib.hid hb2
      clear hb2
      go_wp2_with fail
      refine (specHouseCircle_any N gc ga A L C Z _ (by omega) HL.out (HT.out.below (Nat.le_refl _) B2.out)).mono ?_
      rintro e w3 ⟨rfl, hb3⟩
      rw [K1.out, KI.out]
      have B3 := Lib.hid (below_chain B2.out hb3)
      clear hb3
      go_wp2_with fail
      refine (houseTrade_any N gc ga A L C Z _ (by omega) HL.out (HT.out.below (Nat.le_refl _) B3.out)).mono ?_
      rintro e w4 ⟨ta, tc, rfl, hO4, hb4⟩
      rw [K1.out]
      rw [KN.out] at hO4 ⊢
      have R4 := Lib.hid hO4.rd
      have B4 := Lib.hid (below_chain B3.out hb4)
      clear hb4 hO4
      go_wp2_with fail
      refine (houseTurns_any N gc ga A L C Z _ (by omega) HL.out (HT.out.below (Nat.le_refl _) B4.out)).mono ?_
      rintro e w5 ⟨rfl, hb5⟩
      rw [K1.out, KT.out]
      have R5 := Lib.hid (R4.out.below (Nat.le_refl _) hb5)
      have B5 := Lib.hid (below_chain B4.out hb5)
      have HT5 := Lib.hid (HT.out.below (Nat.le_refl _) B5.out)
      clear hb5
      go_wp2
      go_loopw [12] (fun s wi => ∃ i : Nat, i ≤ N ∧ s = .int .i64 i ∧ ∃ q, wi = w5.drewN q) (fun s _ => N - (intOf s).toNat)
      case atStart => exact ⟨0, Nat.zero_le _, rfl, 0, rfl⟩
      case round =>
        obtain ⟨i, hi, rfl, q0, rfl⟩ := hrel
        by_cases hlt : i < N
        · have i1 : (0 : Int) ≤ (i : Int) := by omega
          have i2 : (i : Int) < (N : Int) := by omega
          have hhas := bit_has M i hM62
          by_cases hb : M.testBit i = true
          · rw [hb] at hhas
            obtain ⟨bg, og, hga, hcg⟩ := R5.out i hlt
            subst hga
            obtain ⟨ba, oa, hgb, hca, hra⟩ := HT5.out i hlt
            subst hgb
            rw [KR.out i hlt] at hca hra
            obtain ⟨bz, oz, hAz, hcz⟩ := hra 0 (by omega)
            rw [hAz] at hca
            rw [Nat.add_zero] at hcz
            have hq := KB.out i hb
            rw [hq] at hcg
            have hne : (Z i 0 != Z i 0) = false := by simp
            clear hq hb hra hAz
            go_wp2
            go_quiet (fail)
            go_wp2
            go_roundw
            case rel => exact ⟨i + 1, by omega, by go_num, _, rfl⟩
            case measure => simp [intOf]; omega
          · have hb' : M.testBit i = false := by simpa using hb
            rw [hb'] at hhas
            clear hb hb'
            go_wp2
            go_quiet (fail)
            go_wp2
            go_roundw
            case rel => exact ⟨i + 1, by omega, by go_num, _, rfl⟩
            case measure => simp [intOf]; omega
        · obtain rfl : N = i := by omega
          have hNq := two_pow_lt (show N < 62 by omega)
          have hNr := Nat.two_pow_pos N
          have hw2 : wrap64 (((2 ^ N : Nat) : Int) - 1) = ((2 ^ N - 1 : Nat) : Int) := by rw [IntWalk.wrap64_in _ (by omega)]; omega
          have d0 : decide ((0 : Int) < (M : Int)) = true := by simpa using hMp
          by_cases h1 : turnsN Z N = 1
          · have hd1 : ((M : Int) == wrap64 (wrap64 (2 ^ N) - 1)) = true := by
              rw [wrap_pow (show N < 62 by omega), hw2, KF.out.2 h1]; simp
            have hd2 : (((turnsN Z N : Nat) : Int) == 1) = true := by rw [h1]; rfl
            clear h1 hw2 hNq hNr
            go_wp2
            go_ret
            exact ⟨by first | rfl | simp [hd1, hd2], (below_chain B1.out (below_drewN B5.out q0))⟩
          · have hd1 : ((M : Int) == wrap64 (wrap64 (2 ^ N) - 1)) = false := by
              rw [wrap_pow (show N < 62 by omega), hw2]
              have : M ≠ 2 ^ N - 1 := fun e => h1 (KF.out.1 e)
              simp only [beq_eq_false_iff_ne]; omega
            have hd2 : (((turnsN Z N : Nat) : Int) == 1) = false := by simp only [beq_eq_false_iff_ne]; omega
            clear h1 hw2 hNq hNr
            go_wp2
            go_ret
            exact ⟨by first | rfl | simp [hd1, hd2], (below_chain B1.out (below_drewN B5.out q0))⟩
    · have K1 := Lib.hid (tt_no hw)
      have KI := Lib.hid (ifWishes_no (x := circleF Z N) hw)
      clear hw
      refine (houseCircle_any N gc ga A L C Z _ (by omega) HL.out HT.out).mono ?_
      rintro e w2 ⟨rfl, hb2⟩
      rw [K1.out, KI.out]
      have B2 := Lib.hid hb2
      clear hb2
      go_wp2_with fail
      refine (specHouseCircle_any N gc ga A L C Z _ (by omega) HL.out (HT.out.below (Nat.le_refl _) B2.out)).mono ?_
      rintro e w3 ⟨rfl, hb3⟩
      rw [K1.out, KI.out]
      have B3 := Lib.hid (below_chain B2.out hb3)
      clear hb3
      go_wp2
      go_ret
      exact ⟨by first | rfl | simp, below_chain B1.out B3.out⟩
  · have hd : 1048576 < n := by omega
    clear hb hab
    go_enter Try.func10, Try.ntmps10
    go_wp2_with fail
    go_ret
    exact ⟨rfl, Below.refl _ _⟩
end Go.Proofs.Ytdjcbffnpnnalaa
