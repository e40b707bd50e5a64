/- The walk of the exact law of ProofRateIs: it answers true at every input that can be read. -/
import Derived.Test.YtabdbgnkiebcdaaDoorPartR1
import Derived.Test.YtabdbgnkiebcdaaDoorPartR5
import Derived.Test.YtabdbgnkiebcdaaDoorPartR8
namespace Go.Proofs.YtabdbgnkiebcdaaDoor
set_option linter.unusedVariables false
open Go.RowKit

set_option maxHeartbeats 1000000 in
theorem exactProofRateIs_walk (n0 c0 : Nat) (a0 : Option Addr) (A0 : Nat → Option Addr) (L0 C0 : Nat → Nat) (Z0 : Nat → Nat → Int) (s1 : ByteArray) (w : World) (hPT : PowAt w) (hNE : NumErrAt w) (hn0 : n0 ≤ 9223372036854775807) (hL0 : ∀ r, r < n0 → L0 r ≤ 9223372036854775807) (ha0 : Tab w a0 n0 A0 L0 C0 Z0) (hZ0 : ∀ r, r < n0 → ∀ k, k < L0 r → I64 (Z0 r k)) (ws1 : s1.size ≤ maxLen) :
    Calls Tryd.prog 4 #[.slice a0 n0 c0, .string s1] w fun e w' => e = .returned (.bool true) ∧ Below w.heap.size w w' := by
  by_cases hfit1 : s1.size ≤ 1048576
  · have hds1 : ¬ (1048576 < s1.size) := by omega
    have HS := Lib.hid (szTab_any n0 c0 a0 A0 L0 C0 Z0 w hn0 hL0 ha0)
    by_cases hfit : n0 + tot L0 n0 ≤ 1048576
    · have hnn0 : n0 ≤ 1048576 := by omega
      have hL' : ∀ r, r < n0 → L0 r ≤ 1048576 := fun r hr => by have := le_tot (L := L0) hr; omega
      have e1 : szF 1048576 (n0 + tot L0 n0) = 1048576 - ((n0 + tot L0 n0 : Nat) : Int) := by unfold szF; rw [if_pos (by omega)]
      have E1 := Lib.hid e1
      have HL := Lib.hid hL'
      clear e1 hL' hL0
      have HA0 := Lib.hid ha0
      clear ha0
      have HZ0 := Lib.hid hZ0
      clear hZ0
      have PT := Lib.hid hPT
      clear hPT
      have NE := Lib.hid hNE
      clear hNE
      go_enter Tryd.func4, Tryd.ntmps4
      go_wp2_with fail
      refine HS.out.mono ?_
      rintro e w' ⟨rfl, rfl⟩
      rw [E1.out]
      go_wp2_with fail
      refine (toTab_any n0 c0 a0 A0 L0 C0 Z0 _ hnn0 HL.out (HA0.out.below (Nat.le_refl _) (Below.refl w.heap.size w))).mono ?_
      rintro e w1 ⟨rfl, hT, hs, hb⟩
      have T1 := Lib.hid hT
      have S1 := Lib.hid hs
      have B1 := Lib.hid hb
      clear hT hs hb
      go_wp2_with fail
      refine (specProofRateIs_any _ _ _ _ _ _ _ _ _ (hn0 := hnn0) (hL0 := HL.out) (ha0 := (T1.out.below (by rw [S1.out]; omega) (Below.refl w1.heap.size w1)).tab) (ht := hfit1)).mono ?_
      rintro e w2 ⟨rfl, hb⟩
      have B2 := Lib.hid hb
      clear hb
      go_wp2_with fail
      refine (toTab_any n0 c0 a0 A0 L0 C0 Z0 _ hnn0 HL.out (HA0.out.below (Nat.le_refl _) (below_chain B1.out B2.out))).mono ?_
      rintro e w3 ⟨rfl, hT, hs, hb⟩
      have T3 := Lib.hid hT
      have S3 := Lib.hid hs
      have B3 := Lib.hid hb
      clear hT hs hb
      go_wp2_with fail
      refine (proofRateIs_any _ _ _ _ _ _ _ _ _ (hT := PT.out.below (Nat.le_refl _) (below_chain (below_chain B1.out B2.out) B3.out)) (hE := NE.out.below (Nat.le_refl _) (below_chain (below_chain B1.out B2.out) B3.out)) (hn0 := hnn0) (hL0 := HL.out) (ha0 := (T3.out.below (by rw [S3.out]; omega) (Below.refl w3.heap.size w3)).tab) (ht := hfit1)).mono ?_
      rintro e w4 ⟨rfl, hb⟩
      have B4 := Lib.hid hb
      clear hb
      go_wp2_with fail
      refine (toTab_any n0 c0 a0 A0 L0 C0 Z0 _ hnn0 HL.out (HA0.out.below (Nat.le_refl _) (below_chain (below_chain (below_chain B1.out B2.out) B3.out) B4.out))).mono ?_
      rintro e w5 ⟨rfl, hT, hs, hb⟩
      have T5 := Lib.hid hT
      have S5 := Lib.hid hs
      have B5 := Lib.hid hb
      clear hT hs hb
      go_wp2_with fail
      refine (eqTab_any n0 n0 n0 n0 _ _ _ _ L0 L0 L0 L0 Z0 Z0 _ hn0 hn0 (fun r hr => by have := HL.out r hr; omega) (fun r hr => by have := HL.out r hr; omega) (T3.out.below (by rw [S3.out]; omega) (below_chain B4.out B5.out)).tab T5.out.tab).mono ?_
      rintro e w6 ⟨rfl, hq⟩
      rw [tt_of (show SameT n0 n0 L0 L0 Z0 Z0 from ⟨rfl, fun r _ => ⟨rfl, fun _ _ => rfl⟩⟩)]
      have B6 : Hid (Below w5.heap.size w5 w6) := Lib.hid (by obtain ⟨q, rfl⟩ := hq; exact below_drewN (Below.refl _ _) q)
      clear hq
      go_wp2_with fail
      go_ret
      exact ⟨rfl, (below_chain (below_chain (below_chain (below_chain (below_chain B1.out B2.out) B3.out) B4.out) B5.out) B6.out)⟩
    · have e1 : szF 1048576 (n0 + tot L0 n0) = -1 := by unfold szF; rw [if_neg (by omega)]
      have E1 := Lib.hid e1
      clear e1 ha0
      go_enter Tryd.func4, Tryd.ntmps4
      go_wp2_with fail
      refine HS.out.mono ?_
      rintro e w' ⟨rfl, rfl⟩
      rw [E1.out]
      go_wp2_with fail
      go_ret
      exact ⟨rfl, Below.refl _ _⟩
  · have hd : 1048576 < s1.size := by omega
    clear ha0
    go_enter Tryd.func4, Tryd.ntmps4
    go_wp2_with fail
    go_ret
    exact ⟨rfl, Below.refl _ _⟩
end Go.Proofs.YtabdbgnkiebcdaaDoor
