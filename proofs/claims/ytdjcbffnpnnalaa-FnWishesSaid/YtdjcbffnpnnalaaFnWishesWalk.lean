/- The walk of the law FnWishes: it answers true at every code that can be read. -/
import Derived.Test.YtdjcbffnpnnalaaDrawHouseIn
import Derived.Test.YtdjcbffnpnnalaaHouseIn
import Derived.Test.YtdjcbffnpnnalaaSpecHouseIn
import Derived.Test.YtdjcbffnpnnalaaHouseTrade
import Derived.Test.YtdjcbffnpnnalaaHouseGiving
import Derived.Test.YtdjcbffnpnnalaaTradeGiving
namespace Go.Proofs.Ytdjcbffnpnnalaa
set_option linter.unusedVariables false
set_option linter.unusedSimpArgs false
open Go.RowKit

set_option maxHeartbeats 3200000 in
theorem fnWishes_walk (n c : Nat) (a : Option Addr) (B : Nat → Nat) (w : World) (hc : n ≤ c) (hb : RdB w a n B) (hab : 0 < n → ∀ b o, a = some ⟨b, o, none⟩ → b < w.heap.size) :
    Calls Try.prog 7 #[.slice a n c] w fun e w' => e = .returned (.bool true) ∧ Below w.heap.size w w' := by
  by_cases hfit : n ≤ 1048576
  · have hd : ¬ (1048576 < n) := by omega
    have HD := Lib.hid (drawHouseIn_any n c a B w hfit hc hb hab)
    clear hb hab
    go_enter Try.func7, Try.ntmps7
    go_wp2_with fail
    refine HD.out.mono ?_
    rintro e w1 ⟨ga, N, gc, A, L, C, Z, rfl, ⟨hN1, hN5⟩, hL, hT, hb1⟩
    have HT := Lib.hid hT
    have HL := Lib.hid (show ∀ r, r < N → L r ≤ 1048576 from fun r hr => by have := hL r hr; omega)
    have B1 := Lib.hid hb1
    clear hT hL hb1 HD
    go_wp2_with fail
    by_cases hw : IsWishes N L Z
    · have K1 := Lib.hid (tt_of hw)
      have KN := Lib.hid (tradeN_yes hw)
      have KG := Lib.hid (tt_of (show GivingOk (N : Int) N (giveF Z N) from ⟨⟨by have := hw.1.1; omega, by omega⟩, rfl, trade_giving hw⟩))
      clear hw
      refine (houseIn_any N gc ga A L C Z _ (by omega) HL.out HT.out).mono ?_
      rintro e w2 ⟨rfl, hb2⟩
      rw [K1.out]
      have B2 := Lib.hid hb2
      clear hb2
      go_wp2_with fail
      refine (specHouseIn_any N gc ga A L C Z _ (by omega) HL.out (HT.out.below (Nat.le_refl _) B2.out)).mono ?_
      rintro e w3 ⟨rfl, rfl⟩
      rw [K1.out]
      go_wp2_with fail
      refine (houseTrade_any N gc ga A L C Z _ (by omega) HL.out (HT.out.below (Nat.le_refl _) B2.out)).mono ?_
      rintro e w4 ⟨ta, tc, rfl, hO4, hb4⟩
      rw [K1.out]
      rw [KN.out] at hO4 ⊢
      have R4 := Lib.hid hO4.rd
      have B4 := Lib.hid (below_chain B2.out hb4)
      clear hb4 hO4
      go_wp2_with (go_at_call 30; refine (houseGiving_free N N _ ta (giveF Z N) _ ⟨by omega, by omega⟩ (by omega) R4.out).mono ?_; rintro e w5 ⟨rfl, hb5⟩; rw [KG.out]; have B5 := Lib.hid (below_chain B4.out hb5); clear hb5)
      go_ret
      exact ⟨by first | rfl | simp, below_chain B1.out B5.out⟩
    · have K1 := Lib.hid (tt_no hw)
      clear hw
      refine (houseIn_any N gc ga A L C Z _ (by omega) HL.out HT.out).mono ?_
      rintro e w2 ⟨rfl, hb2⟩
      rw [K1.out]
      have B2 := Lib.hid hb2
      clear hb2
      go_wp2_with fail
      refine (specHouseIn_any N gc ga A L C Z _ (by omega) HL.out (HT.out.below (Nat.le_refl _) B2.out)).mono ?_
      rintro e w3 ⟨rfl, rfl⟩
      rw [K1.out]
      go_wp2
      go_ret
      exact ⟨by first | rfl | simp, below_chain B1.out B2.out⟩
  · have hd : 1048576 < n := by omega
    clear hb hab
    go_enter Try.func7, Try.ntmps7
    go_wp2_with fail
    go_ret
    exact ⟨rfl, Below.refl _ _⟩
end Go.Proofs.Ytdjcbffnpnnalaa
