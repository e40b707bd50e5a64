/- The walk of the exact law of HouseGiving: it answers true at every input that can be read. -/
import Derived.Test.YtjgbbdefjmiofaaToInts
import Derived.Test.YtjgbbdefjmiofaaEqInts
import Derived.Test.YtjgbbdefjmiofaaHouseGiving
namespace Go.Proofs.Ytjgbbdefjmiofaa
set_option linter.unusedVariables false
open Go.RowKit

set_option maxHeartbeats 1000000 in
theorem exactHouseGiving_walk (x0 : Int) (n1 c1 : Nat) (a1 : Option Addr) (X1 : Nat → Int) (w : World) (hx0 : I64 x0) (hn1 : n1 ≤ 9223372036854775807) (ha1 : Rd w a1 n1 X1) (hX1 : ∀ k, k < n1 → I64 (X1 k)) :
    Calls Try.prog 4 #[.int .i64 x0, .slice a1 n1 c1] w fun e w' => e = .returned (.bool true) ∧ Below w.heap.size w w' := by
  by_cases hfit1 : n1 ≤ 1048576
  · have hd1 : ¬ (1048576 < n1) := by omega
    have HA1 := Lib.hid ha1
    clear ha1
    have HX1 := Lib.hid hX1
    clear hX1
    go_enter Try.func4, Try.ntmps4
    go_wp2_with fail
    refine (toInts_any n1 c1 a1 X1 _ hfit1 (HA1.out.below (Nat.le_refl _) (Below.refl w.heap.size w))).mono ?_
    rintro e w1 ⟨rfl, hT, hs, hb⟩
    have T1 := Lib.hid hT
    have S1 := Lib.hid hs
    have B1 := Lib.hid hb
    clear hT hs hb
    go_wp2_with fail
    refine (specHouseGiving_any _ _ _ _ _ _ (hx0 := hx0) (hm1 := hfit1) (hb1 := (Rd.of_row (rowIs_below T1.out (by rw [S1.out]; omega) (Below.refl w1.heap.size w1))))).mono ?_
    rintro e w2 ⟨rfl, hb⟩
    have B2 := Lib.hid hb
    clear hb
    go_wp2_with fail
    refine (toInts_any n1 c1 a1 X1 _ hfit1 (HA1.out.below (Nat.le_refl _) (below_chain B1.out B2.out))).mono ?_
    rintro e w3 ⟨rfl, hT, hs, hb⟩
    have T3 := Lib.hid hT
    have S3 := Lib.hid hs
    have B3 := Lib.hid hb
    clear hT hs hb
    go_wp2_with fail
    refine (houseGiving_any _ _ _ _ _ _ (hx0 := hx0) (hm1 := hfit1) (hmd1 := Nat.le_refl _) (hb1 := (Rd.of_row (rowIs_below T3.out (by rw [S3.out]; omega) (Below.refl w3.heap.size w3))))).mono ?_
    rintro e w4 ⟨rfl, hb⟩
    have B4 := Lib.hid hb
    clear hb
    go_wp2_with fail
    refine (toInts_any n1 c1 a1 X1 _ hfit1 (HA1.out.below (Nat.le_refl _) (below_chain (below_chain (below_chain B1.out B2.out) B3.out) B4.out))).mono ?_
    rintro e w5 ⟨rfl, hT, hs, hb⟩
    have T5 := Lib.hid hT
    have S5 := Lib.hid hs
    have B5 := Lib.hid hb
    clear hT hs hb
    go_wp2_with fail
    refine (eqInts_any n1 n1 n1 n1 _ _ X1 X1 _ hn1 hn1 (Rd.of_row (rowIs_below T3.out (by rw [S3.out]; omega) (below_chain B4.out B5.out))) (Rd.of_row T5.out)).mono ?_
    rintro e w6 ⟨rfl, hq⟩
    rw [tt_of (show SameB n1 n1 X1 X1 from ⟨rfl, fun _ _ => rfl⟩)]
    have B6 : Hid (Below w5.heap.size w5 w6) := Lib.hid (by obtain ⟨q, rfl⟩ := hq; exact below_drewN (Below.refl _ _) q)
    clear hq
    go_wp2_with fail
    go_ret
    exact ⟨rfl, (below_chain (below_chain (below_chain (below_chain (below_chain B1.out B2.out) B3.out) B4.out) B5.out) B6.out)⟩
  · have hd : 1048576 < n1 := by omega
    clear ha1
    go_enter Try.func4, Try.ntmps4
    go_wp2_with fail
    go_ret
    exact ⟨rfl, Below.refl _ _⟩
end Go.Proofs.Ytjgbbdefjmiofaa
