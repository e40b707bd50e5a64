/- The walk of the exact law of RateIn: it answers true at every table that can be read. -/
import Derived.Test.YtfkadkgjhmienaaSzTab
import Derived.Test.YtfkadkgjhmienaaToTab
import Derived.Test.YtfkadkgjhmienaaEqTab
import Derived.Test.YtfkadkgjhmienaaSpecRateIn
import Derived.Test.YtfkadkgjhmienaaRateIn
namespace Go.Proofs.Ytfkadkgjhmienaa
open Go.RowKit

set_option maxHeartbeats 800000 in
theorem exactRateIn_walk (n c : Nat) (a : Option Addr) (A : Nat → Option Addr) (L C : Nat → Nat) (Z : Nat → Nat → Int) (w : World) (hn : n ≤ 9223372036854775807) (hL : ∀ r, r < n → L r ≤ 9223372036854775807) (ha : Tab w a n A L C Z) (_hZ : ∀ r, r < n → ∀ k, k < L r → I64 (Z r k)) :
    Calls Try.prog 4 #[.slice a n c] w fun e w' => e = .returned (.bool true) ∧ Below w.heap.size w w' := by
  have HS := Lib.hid (szTab_any n c a A L C Z w hn hL ha)
  by_cases hfit : n + tot L n ≤ 1048576
  · have hn' : n ≤ 1048576 := by omega
    have hL' : ∀ r, r < n → L r ≤ 1048576 := fun r hr => by have := le_tot (L := L) hr; omega
    have e1 : szF 1048576 (n + tot L n) = 1048576 - ((n + tot L n : Nat) : Int) := by unfold szF; rw [if_pos (by omega)]
    have E1 := Lib.hid e1
    have HL := Lib.hid hL'
    have HA := Lib.hid ha
    clear e1 hL hL' ha
    go_enter Try.func4, Try.ntmps4
    go_wp2_with fail
    refine HS.out.mono ?_
    rintro e w' ⟨rfl, rfl⟩
    rw [E1.out]
    go_wp2_with fail
    -- the model's argument
    refine (toTab_any n c a A L C Z _ hn' HL.out HA.out).mono ?_
    rintro e w1 ⟨rfl, hT1, hs1, hb1⟩
    have T1 := Lib.hid hT1
    have S1 := Lib.hid hs1
    have B1 := Lib.hid hb1
    clear hT1 hs1 hb1
    go_wp2_with fail
    refine (specRateIn_any n n _ _ L L Z w1 hn' HL.out T1.out.tab).mono ?_
    rintro e w' ⟨rfl, rfl⟩
    go_wp2_with fail
    -- the program's
    refine (toTab_any n c a A L C Z _ hn' HL.out (HA.out.below (Nat.le_refl _) B1.out)).mono ?_
    rintro e w2 ⟨rfl, hT2, hs2, hb2⟩
    have T2 := Lib.hid hT2
    have S2 := Lib.hid hs2
    have B2 := Lib.hid hb2
    clear hT2 hs2 hb2
    go_wp2_with fail
    refine (rateIn_any n n _ _ L L Z w2 hn' HL.out T2.out.tab).mono ?_
    rintro e w3 ⟨rfl, hb3⟩
    have B3 := Lib.hid hb3
    clear hb3
    go_wp2_with fail
    have hB3 : Below w.heap.size w w3 := (B1.out.trans (B2.out.mono B1.out.size)).trans (B3.out.mono (Nat.le_trans B1.out.size B2.out.size))
    refine (toTab_any n c a A L C Z _ hn' HL.out (HA.out.below (Nat.le_refl _) hB3)).mono ?_
    rintro e w4 ⟨rfl, hT4, hs4, hb4⟩
    have T4 := Lib.hid hT4
    have B4 := Lib.hid hb4
    have C3 := Lib.hid hB3
    clear hT4 hs4 hb4 hB3
    have hX : NewTab 25 3 w4 w1.heap.size n L Z := (T2.out.below (by rw [S2.out]; omega) B3.out).below (by have := B3.out.size; rw [S2.out] at this; omega) B4.out
    have X := Lib.hid hX
    clear hX
    go_wp2_with fail
    refine (eqTab_any n n n n _ _ _ _ L L L L Z Z w4 hn (by omega) (fun r hr => by have := HL.out r hr; omega) (fun r hr => by have := HL.out r hr; omega) X.out.tab T4.out.tab).mono ?_
    rintro e w5 ⟨rfl, q, rfl⟩
    have hsame : tt (SameT n n L L Z Z) = true := tt_of ⟨rfl, fun r _ => ⟨rfl, fun _ _ => rfl⟩⟩
    rw [hsame]
    go_wp2
    go_ret
    exact ⟨rfl, below_drewN (C3.out.trans (B4.out.mono C3.out.size)) q⟩
  · have e1 : szF 1048576 (n + tot L n) = -1 := by unfold szF; rw [if_neg (by omega)]
    have E1 := Lib.hid e1
    clear e1 hL ha
    go_enter Try.func4, Try.ntmps4
    go_wp2_with fail
    refine HS.out.mono ?_
    rintro e w' ⟨rfl, rfl⟩
    rw [E1.out]
    go_wp2_with fail
    go_ret
    exact ⟨rfl, Below.refl _ _⟩
end Go.Proofs.Ytfkadkgjhmienaa
