/- The walk of the law FnTrade: it answers true at every code that can be read. -/
import Derived.Test.YtfhkbjheleojmaaDoorDrawHouseTrade
import Derived.Test.YtfhkbjheleojmaaDoorHouseBlocks
import Derived.Test.YtfhkbjheleojmaaDoorHouseTrade
import Derived.Test.YtfhkbjheleojmaaDoorSpecHouseTrade
import Derived.Test.YtfhkbjheleojmaaDoorHouseLikes
import Derived.Test.YtfhkbjheleojmaaDoorSameInts
import Derived.Test.YtfhkbjheleojmaaDoorFirmTrade
namespace Go.Proofs.YtfhkbjheleojmaaDoor
set_option linter.unusedVariables false
set_option linter.unusedSimpArgs false
open Go.RowKit

set_option maxHeartbeats 3200000 in
theorem fnTrade_walk (n c : Nat) (a : Option Addr) (B : Nat → Nat) (w : World) (hTZ : TzAt w) (hc : n ≤ c) (hb : RdB w a n B) (hab : 0 < n → ∀ b o, a = some ⟨b, o, none⟩ → b < w.heap.size) :
    Calls Tryd.prog 6 #[.slice a n c] w fun e w' => e = .returned (.bool true) ∧ Below w.heap.size w w' := by
  by_cases hfit : n ≤ 1048576
  · have hd : ¬ (1048576 < n) := by omega
    have HD := Lib.hid (drawHouseTrade_any n c a B w hfit hc hb hab)
    have TZ := Lib.hid hTZ
    clear hb hab hTZ
    go_enter Tryd.func6, Tryd.ntmps6
    go_wp2_with fail
    refine HD.out.mono ?_
    rintro e w1 ⟨ga, N, gc, A, L, C, Z, rfl, ⟨hN1, hN5⟩, hL, hT, hb1⟩
    have HT := Lib.hid hT
    have HL := Lib.hid (show ∀ r, r < N → L r ≤ 1048576 from fun r hr => by have := hL r hr; omega)
    have B1 := Lib.hid hb1
    have TZ1 := Lib.hid (TZ.out.below (Nat.le_refl _) hb1)
    clear hT hL hb1 HD TZ
    by_cases hw : IsWishes N L Z
    · have KW := Lib.hid (tt_of hw)
      have KN := Lib.hid (tradeN_yes hw)
      have KL := Lib.hid (show ∀ i : Nat, i < N → tt (LikesOk N L Z i i (giveF Z N i)) = false from fun i hi => tt_no (fun h => trade_own hw hi (by have := h.2.2.2.2; rwa [Int.toNat_natCast] at this)))
      have hd2 := trade_giving hw
      have KF := Lib.hid (tt_of (show FirmOk N L Z N (giveF Z N) from ⟨⟨hw, rfl, fun j hj => by have := hd2.1 j hj; exact ⟨this.1, by omega⟩, hd2.2⟩, trade_firm hw⟩))
      have KR := Lib.hid (fun i (hi : i < N) => give_range hw hi)
      clear hw hd2
      go_wp2_with fail
      refine (houseTrade_any N gc ga A L C Z _ (by omega) HL.out HT.out).mono ?_
      rintro e w2 ⟨a2, c2, rfl, hO2, hb2⟩
      rw [KN.out] at hO2
      rw [KW.out, KN.out]
      have O2 := Lib.hid hO2.rd
      have B2 := Lib.hid hb2
      clear hO2 hb2
      go_wp2_with fail
      refine (specHouseTrade_any N gc ga A L C Z _ (by omega) HL.out (HT.out.below (Nat.le_refl _) B2.out)).mono ?_
      rintro e w3 ⟨a3, c3, rfl, hO3, hb3⟩
      rw [KN.out] at hO3
      rw [KW.out, KN.out]
      have O3 := Lib.hid hO3.rd
      have R2 := Lib.hid (O2.out.below (Nat.le_refl _) hb3)
      have B3 := Lib.hid (below_chain B2.out hb3)
      clear hO3 hb3
      go_wp2_with (go_at_call 26; refine (sameInts_any N N c2 c3 a2 a3 _ _ _ (by omega) (by omega) R2.out O3.out).mono ?_; rintro e w4 ⟨rfl, q4, rfl⟩; rw [tt_of (show SameB N N (giveF Z N) (giveF Z N) from ⟨rfl, fun _ _ => rfl⟩)])
      clear O3
      go_loopw [8] (fun s wr => ∃ i : Nat, i ≤ N ∧ s = .int .i64 i ∧ Below w3.heap.size w3 wr) (fun s _ => N - (intOf s).toNat)
      case atStart => exact ⟨0, Nat.zero_le _, rfl, below_drewN (Below.refl _ _) _⟩
      case round =>
        obtain ⟨i, hi, rfl, hB⟩ := hrel
        have BR := Lib.hid hB
        have B5 := Lib.hid (below_chain B3.out hB)
        clear hB
        by_cases hlt : i < N
        · obtain ⟨bo, oo, hao, hco⟩ := (R2.out.below (Nat.le_refl _) BR.out) i hlt
          subst hao
          have K2 := Lib.hid (KL.out i hlt)
          have hr := KR.out i hlt
          obtain ⟨y, hy⟩ : ∃ y, y = giveF Z N i := ⟨_, rfl⟩
          rw [← hy] at hco hr
          have HY := Lib.hid hy
          have i1 : (0 : Int) ≤ (i : Int) := by omega
          have i2 : (i : Int) < (N : Int) := by omega
          clear hy
          go_wp2_with (go_at_call 27; refine (houseLikes_any N gc ga A L C Z i i y _ (by omega) HL.out (HT.out.below (Nat.le_refl _) B5.out) ⟨by omega, by omega⟩ ⟨by omega, by omega⟩ ⟨by omega, by omega⟩).mono ?_; rintro e w5 ⟨rfl, hb5⟩; rw [HY.out, K2.out]; have B6 := Lib.hid (below_chain BR.out hb5); clear hb5)
          go_roundw
          case rel => exact ⟨i + 1, by omega, by go_num, B6.out⟩
          case measure => simp [intOf]; omega
        · obtain rfl : i = N := by omega
          go_wp2_with (go_at_call 18; refine (houseFirm_any i gc ga A L C Z i c2 a2 _ _ (TZ1.out.below (Nat.le_refl _) B5.out) (by omega) HL.out (HT.out.below (Nat.le_refl _) B5.out) (by omega) (R2.out.below (Nat.le_refl _) BR.out)).mono ?_; rintro e w6 ⟨rfl, hb6⟩; rw [KF.out]; have B6 := Lib.hid (below_chain B5.out hb6); clear hb6)
          go_ret
          exact ⟨by first | rfl | simp, below_chain B1.out B6.out⟩
    · have KW := Lib.hid (tt_no hw)
      have KN := Lib.hid (tradeN_no hw)
      clear hw
      go_wp2_with fail
      refine (houseTrade_any N gc ga A L C Z _ (by omega) HL.out HT.out).mono ?_
      rintro e w2 ⟨a2, c2, rfl, hO2, hb2⟩
      rw [KN.out] at hO2
      rw [KW.out, KN.out]
      have O2 := Lib.hid hO2.rd
      have B2 := Lib.hid hb2
      clear hO2 hb2
      go_wp2_with fail
      refine (specHouseTrade_any N gc ga A L C Z _ (by omega) HL.out (HT.out.below (Nat.le_refl _) B2.out)).mono ?_
      rintro e w3 ⟨a3, c3, rfl, hO3, hb3⟩
      rw [KN.out] at hO3
      rw [KW.out, KN.out]
      have O3 := Lib.hid hO3.rd
      have R2 := Lib.hid (O2.out.below (Nat.le_refl _) hb3)
      have B3 := Lib.hid (below_chain B2.out hb3)
      clear hO3 hb3
      go_wp2_with (go_at_call 26; refine (sameInts_any 0 0 c2 c3 a2 a3 (giveF Z N) (giveF Z N) _ (by omega) (by omega) (fun k hk => absurd hk (Nat.not_lt_zero _)) (fun k hk => absurd hk (Nat.not_lt_zero _))).mono ?_; rintro e w4 ⟨rfl, q4, rfl⟩; rw [tt_of (show SameB 0 0 (giveF Z N) (giveF Z N) from ⟨rfl, fun _ _ => rfl⟩)])
      go_ret
      exact ⟨by first | rfl | simp, below_chain B1.out (by first | exact B3.out | exact below_drewN B3.out _ | exact below_drewN (below_drewN B3.out _) _)⟩
  · have hd : 1048576 < n := by omega
    clear hb hab hTZ
    go_enter Tryd.func6, Tryd.ntmps6
    go_wp2_with fail
    go_ret
    exact ⟨rfl, Below.refl _ _⟩
end Go.Proofs.YtfhkbjheleojmaaDoor
