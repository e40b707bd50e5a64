/- The walk of the exact law of ProofTurnIs: it answers true at every input that can be read. -/
import Derived.Test.YtabdbgnkiebcdaaDoorPartR1
import Derived.Test.YtabdbgnkiebcdaaDoorPartR12
import Derived.Test.YtabdbgnkiebcdaaDoorPartR13
namespace Go.Proofs.YtabdbgnkiebcdaaDoor
set_option linter.unusedVariables false
open Go.RowKit

set_option maxHeartbeats 1000000 in
theorem exactProofTurnIs_walk (n0 c0 : Nat) (a0 : Option Addr) (A0 : Nat → Option Addr) (L0 C0 : Nat → Nat) (Z0 : Nat → Nat → Int) (n1 c1 : Nat) (a1 : Option Addr) (X1 : Nat → Int) (s2 : ByteArray) (w : World) (hPT : PowAt w) (hNE : NumErrAt w) (hn0 : n0 ≤ 9223372036854775807) (hL0 : ∀ r, r < n0 → L0 r ≤ 9223372036854775807) (ha0 : Tab w a0 n0 A0 L0 C0 Z0) (hZ0 : ∀ r, r < n0 → ∀ k, k < L0 r → I64 (Z0 r k)) (hn1 : n1 ≤ 9223372036854775807) (ha1 : Rd w a1 n1 X1) (hX1 : ∀ k, k < n1 → I64 (X1 k)) (ws2 : s2.size ≤ maxLen) :
    Calls Tryd.prog 7 #[.slice a0 n0 c0, .slice a1 n1 c1, .string s2] w fun e w' => e = .returned (.bool true) ∧ Below w.heap.size w w' := by
  by_cases hfit1 : n1 ≤ 1048576
  · have hd1 : ¬ (1048576 < n1) := by omega
    by_cases hfit2 : s2.size ≤ 1048576
    · have hds2 : ¬ (1048576 < s2.size) := by omega
      have HS := Lib.hid (szTab_any n0 c0 a0 A0 L0 C0 Z0 w hn0 hL0 ha0)
      by_cases hfit : n0 + tot L0 n0 ≤ 1048576
      · have hnn0 : n0 ≤ 1048576 := by omega
        have hL' : ∀ r, r < n0 → L0 r ≤ 1048576 := fun r hr => by have := le_tot (L := L0) hr; omega
        have e1 : szF 1048576 (n0 + tot L0 n0) = 1048576 - ((n0 + tot L0 n0 : Nat) : Int) := by unfold szF; rw [if_pos (by omega)]
        have E1 := Lib.hid e1
        have HL := Lib.hid hL'
        clear e1 hL' hL0
        have HA0 := Lib.hid ha0
        clear ha0
        have HZ0 := Lib.hid hZ0
        clear hZ0
        have HA1 := Lib.hid ha1
        clear ha1
        have HX1 := Lib.hid hX1
        clear hX1
        have PT := Lib.hid hPT
        clear hPT
        have NE := Lib.hid hNE
        clear hNE
        go_enter Tryd.func7, Tryd.ntmps7
        go_wp2_with fail
        refine HS.out.mono ?_
        rintro e w' ⟨rfl, rfl⟩
        rw [E1.out]
        go_wp2_with fail
        refine (toTab_any n0 c0 a0 A0 L0 C0 Z0 _ hnn0 HL.out (HA0.out.below (Nat.le_refl _) (Below.refl w.heap.size w))).mono ?_
        rintro e w1 ⟨rfl, hT, hs, hb⟩
        have T1 := Lib.hid hT
        have S1 := Lib.hid hs
        have B1 := Lib.hid hb
        clear hT hs hb
        go_wp2_with fail
        refine (toInts_any n1 c1 a1 X1 _ hfit1 (HA1.out.below (Nat.le_refl _) B1.out)).mono ?_
        rintro e w2 ⟨rfl, hT, hs, hb⟩
        have T2 := Lib.hid hT
        have S2 := Lib.hid hs
        have B2 := Lib.hid hb
        clear hT hs hb
        go_wp2_with fail
        refine (specProofTurnIs_any _ _ _ _ _ _ _ _ _ _ _ _ _ (hn0 := hnn0) (hL0 := HL.out) (ha0 := (T1.out.below (by rw [S1.out]; omega) B2.out).tab) (hm1 := hfit1) (hb1 := (Rd.of_row (rowIs_below T2.out (by rw [S2.out]; omega) (Below.refl w2.heap.size w2)))) (ht := hfit2)).mono ?_
        rintro e w3 ⟨rfl, hb⟩
        have B3 := Lib.hid hb
        clear hb
        go_wp2_with fail
        refine (toTab_any n0 c0 a0 A0 L0 C0 Z0 _ hnn0 HL.out (HA0.out.below (Nat.le_refl _) (below_chain (below_chain B1.out B2.out) B3.out))).mono ?_
        rintro e w4 ⟨rfl, hT, hs, hb⟩
        have T4 := Lib.hid hT
        have S4 := Lib.hid hs
        have B4 := Lib.hid hb
        clear hT hs hb
        go_wp2_with fail
        refine (toInts_any n1 c1 a1 X1 _ hfit1 (HA1.out.below (Nat.le_refl _) (below_chain (below_chain (below_chain B1.out B2.out) B3.out) B4.out))).mono ?_
        rintro e w5 ⟨rfl, hT, hs, hb⟩
        have T5 := Lib.hid hT
        have S5 := Lib.hid hs
        have B5 := Lib.hid hb
        clear hT hs hb
        go_wp2_with fail
        refine (proofTurnIs_any _ _ _ _ _ _ _ _ _ _ _ _ _ (hT := PT.out.below (Nat.le_refl _) (below_chain (below_chain (below_chain (below_chain B1.out B2.out) B3.out) B4.out) B5.out)) (hE := NE.out.below (Nat.le_refl _) (below_chain (below_chain (below_chain (below_chain B1.out B2.out) B3.out) B4.out) B5.out)) (hn0 := hnn0) (hL0 := HL.out) (ha0 := (T4.out.below (by rw [S4.out]; omega) B5.out).tab) (hm1 := hfit1) (hb1 := (Rd.of_row (rowIs_below T5.out (by rw [S5.out]; omega) (Below.refl w5.heap.size w5)))) (ht := hfit2)).mono ?_
        rintro e w6 ⟨rfl, hb⟩
        have B6 := Lib.hid hb
        clear hb
        go_wp2_with fail
        refine (toTab_any n0 c0 a0 A0 L0 C0 Z0 _ hnn0 HL.out (HA0.out.below (Nat.le_refl _) (below_chain (below_chain (below_chain (below_chain (below_chain B1.out B2.out) B3.out) B4.out) B5.out) B6.out))).mono ?_
        rintro e w7 ⟨rfl, hT, hs, hb⟩
        have T7 := Lib.hid hT
        have S7 := Lib.hid hs
        have B7 := Lib.hid hb
        clear hT hs hb
        go_wp2_with fail
        refine (eqTab_any n0 n0 n0 n0 _ _ _ _ L0 L0 L0 L0 Z0 Z0 _ hn0 hn0 (fun r hr => by have := HL.out r hr; omega) (fun r hr => by have := HL.out r hr; omega) (T4.out.below (by rw [S4.out]; omega) (below_chain (below_chain B5.out B6.out) B7.out)).tab T7.out.tab).mono ?_
        rintro e w8 ⟨rfl, hq⟩
        rw [tt_of (show SameT n0 n0 L0 L0 Z0 Z0 from ⟨rfl, fun r _ => ⟨rfl, fun _ _ => rfl⟩⟩)]
        have B8 : Hid (Below w7.heap.size w7 w8) := Lib.hid (by obtain ⟨q, rfl⟩ := hq; exact below_drewN (Below.refl _ _) q)
        clear hq
        go_wp2_with fail
        refine (toInts_any n1 c1 a1 X1 _ hfit1 (HA1.out.below (Nat.le_refl _) (below_chain (below_chain (below_chain (below_chain (below_chain (below_chain (below_chain B1.out B2.out) B3.out) B4.out) B5.out) B6.out) B7.out) B8.out))).mono ?_
        rintro e w9 ⟨rfl, hT, hs, hb⟩
        have T9 := Lib.hid hT
        have S9 := Lib.hid hs
        have B9 := Lib.hid hb
        clear hT hs hb
        go_wp2_with fail
        refine (eqInts_any n1 n1 n1 n1 _ _ X1 X1 _ hn1 hn1 (Rd.of_row (rowIs_below T5.out (by rw [S5.out]; omega) (below_chain (below_chain (below_chain B6.out B7.out) B8.out) B9.out))) (Rd.of_row T9.out)).mono ?_
        rintro e w10 ⟨rfl, hq⟩
        rw [tt_of (show SameB n1 n1 X1 X1 from ⟨rfl, fun _ _ => rfl⟩)]
        have B10 : Hid (Below w9.heap.size w9 w10) := Lib.hid (by obtain ⟨q, rfl⟩ := hq; exact below_drewN (Below.refl _ _) q)
        clear hq
        go_wp2_with fail
        go_ret
        exact ⟨rfl, (below_chain (below_chain (below_chain (below_chain (below_chain (below_chain (below_chain (below_chain (below_chain B1.out B2.out) B3.out) B4.out) B5.out) B6.out) B7.out) B8.out) B9.out) B10.out)⟩
      · have e1 : szF 1048576 (n0 + tot L0 n0) = -1 := by unfold szF; rw [if_neg (by omega)]
        have E1 := Lib.hid e1
        clear e1 ha0 ha1
        go_enter Tryd.func7, Tryd.ntmps7
        go_wp2_with fail
        refine HS.out.mono ?_
        rintro e w' ⟨rfl, rfl⟩
        rw [E1.out]
        go_wp2_with fail
        go_ret
        exact ⟨rfl, Below.refl _ _⟩
    · have hd : 1048576 < s2.size := by omega
      clear ha0 ha1
      go_enter Tryd.func7, Tryd.ntmps7
      go_wp2_with fail
      go_ret
      exact ⟨rfl, Below.refl _ _⟩
  · have hd : 1048576 < n1 := by omega
    clear ha0 ha1
    go_enter Tryd.func7, Tryd.ntmps7
    go_wp2_with fail
    go_ret
    exact ⟨rfl, Below.refl _ _⟩
end Go.Proofs.YtabdbgnkiebcdaaDoor
