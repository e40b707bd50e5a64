/- The walk of the law FnFirms: it answers true at every code that can be read. -/
import Derived.Test.YtgjegpponchdaaaDoorDrawHouseFirms
import Derived.Test.YtgjegpponchdaaaDoorHouseFirms
import Derived.Test.YtgjegpponchdaaaDoorSpecHouseFirms
import Derived.Test.YtgjegpponchdaaaDoorHouseTrade
import Derived.Test.YtgjegpponchdaaaDoorSameRows
import Derived.Test.YtgjegpponchdaaaDoorFirmTrade
namespace Go.Proofs.YtgjegpponchdaaaDoor
set_option linter.unusedVariables false
set_option linter.unusedSimpArgs false
open Go.RowKit

set_option maxHeartbeats 3200000 in
theorem fnFirms_walk (n c : Nat) (a : Option Addr) (B : Nat → Nat) (w : World) (hTZ : TzAt w) (hc : n ≤ c) (hb : RdB w a n B) (hab : 0 < n → ∀ b o, a = some ⟨b, o, none⟩ → b < w.heap.size) :
    Calls Tryd.prog 8 #[.slice a n c] w fun e w' => e = .returned (.bool true) ∧ Below w.heap.size w w' := by
  by_cases hfit : n ≤ 1048576
  · have hd : ¬ (1048576 < n) := by omega
    have HD := Lib.hid (drawHouseFirms_any n c a B w hfit hc hb hab)
    have TZ := Lib.hid hTZ
    clear hb hab hTZ
    go_enter Tryd.func8, Tryd.ntmps8
    go_wp2_with fail
    refine HD.out.mono ?_
    rintro e w1 ⟨ga, N, gc, A, L, C, Z, rfl, ⟨hN1, hN5⟩, hL, hT, hb1⟩
    have HT := Lib.hid hT
    have HL := Lib.hid (show ∀ r, r < N → L r ≤ 1048576 from fun r hr => by have := hL r hr; omega)
    have B1 := Lib.hid hb1
    have TZ1 := Lib.hid (TZ.out.below (Nat.le_refl _) hb1)
    clear hT hL hb1 HD TZ
    by_cases hw : IsWishes N L Z
    · have KW := Lib.hid (tt_of hw)
      have KN := Lib.hid (tradeN_yes hw)
      obtain ⟨D, hD, hDl, hDg⟩ := firms_one hw
      have KD := Lib.hid hD
      have KL := Lib.hid (show lenL [D] 0 = N from hDl)
      have KS := Lib.hid (tt_of (show SameB N N (nthL [D] 0) (giveF Z N) from ⟨rfl, hDg⟩))
      have KX := Lib.hid (show ∀ r, r < 1 → lenL [D] r ≤ 9223372036854775807 from fun r hr => by
        obtain rfl : r = 0 := by omega
        show D.length ≤ _
        omega)
      clear hw hD hDl hDg
      go_wp2_with fail
      refine (houseFirms_any N gc ga A L C Z _ TZ1.out (by omega) HL.out HT.out).mono ?_
      rintro e w2 ⟨a2, c2, A2, C2, rfl, hO2, hb2⟩
      rw [KW.out, KD.out]
      rw [KD.out] at hO2
      have hO2 : OwnT w2 w1.heap.size w2.heap.size a2 1 A2 (lenL [D]) C2 (nthL [D]) := hO2
      have O2 := Lib.hid hO2
      have B2 := Lib.hid hb2
      clear hO2 hb2
      show _
      go_wp2_with fail
      refine (specHouseFirms_any N gc ga A L C Z _ (by omega) HL.out (HT.out.below (Nat.le_refl _) B2.out)).mono ?_
      rintro e w3 ⟨a3, c3, A3, C3, rfl, hO3, hb3⟩
      rw [KW.out, KD.out]
      rw [KD.out] at hO3
      have hO3 : OwnT w3 w2.heap.size w3.heap.size a3 1 A3 (lenL [D]) C3 (nthL [D]) := hO3
      have O3 := Lib.hid hO3
      have R2 := Lib.hid (O2.out.below (Nat.le_refl _) hb3).tab
      have B3 := Lib.hid (below_chain B2.out hb3)
      clear hO3 hb3
      have hone : (([D].length : Nat) : Int) = 1 := rfl
      go_wp2_with (go_at_call 21; refine (sameRows_any 1 1 c2 c3 a2 a3 A2 A3 _ _ C2 C3 _ _ _ (by omega) (by omega) KX.out KX.out R2.out O3.out.tab).mono ?_; rintro e w4 ⟨rfl, q4, rfl⟩; rw [tt_of (show SameT 1 1 (lenL [D]) (lenL [D]) (nthL [D]) (nthL [D]) from ⟨rfl, fun _ _ => ⟨rfl, fun _ _ => rfl⟩⟩)])
      clear O3
      go_wp2_with fail
      refine (houseTrade_any N gc ga A L C Z _ (by omega) HL.out (HT.out.below (Nat.le_refl _) (below_drewN B3.out _))).mono ?_
      rintro e w5 ⟨a5, c5, rfl, hO5, hb5⟩
      rw [KN.out] at hO5
      rw [KW.out, KN.out]
      have O5 := Lib.hid hO5.rd
      have B5 := Lib.hid (below_chain (below_drewN B3.out _) hb5)
      obtain ⟨b2, o2, rfl, hc2, hrow⟩ := (R2.out.below (Nat.le_refl _) ((below_drewN (Below.refl _ _) _).trans (hb5.mono (by simp)))) 0 (by omega)
      rw [KL.out] at hc2 hrow
      rw [Nat.add_zero] at hc2
      have R5 := Lib.hid hrow
      clear hO5 hb5 hrow
      go_wp2_with (go_at_call 31; refine (sameInts_any N N _ c5 _ a5 _ _ _ (by omega) (by omega) R5.out O5.out).mono ?_; rintro e w6 ⟨rfl, q6, rfl⟩; rw [KS.out])
      go_ret
      exact ⟨by first | rfl | simp, below_chain B1.out (below_drewN B5.out _)⟩
    · have KW := Lib.hid (tt_no hw)
      have KD := Lib.hid (firmsAll_no hw)
      clear hw
      go_wp2_with fail
      refine (houseFirms_any N gc ga A L C Z _ TZ1.out (by omega) HL.out HT.out).mono ?_
      rintro e w2 ⟨a2, c2, A2, C2, rfl, hO2, hb2⟩
      rw [KW.out, KD.out]
      rw [KD.out] at hO2
      have B2 := Lib.hid hb2
      clear hO2 hb2
      go_wp2_with fail
      refine (specHouseFirms_any N gc ga A L C Z _ (by omega) HL.out (HT.out.below (Nat.le_refl _) B2.out)).mono ?_
      rintro e w3 ⟨a3, c3, A3, C3, rfl, hO3, hb3⟩
      rw [KW.out, KD.out]
      have B3 := Lib.hid (below_chain B2.out hb3)
      clear hO3 hb3
      go_wp2_with (go_at_call 21; refine (sameRows_any 0 0 c2 c3 a2 a3 A2 A3 (lenL []) (lenL []) C2 C3 (nthL []) (nthL []) _ (by omega) (by omega) (fun k hk => absurd hk (Nat.not_lt_zero _)) (fun k hk => absurd hk (Nat.not_lt_zero _)) (fun k hk => absurd hk (Nat.not_lt_zero _)) (fun k hk => absurd hk (Nat.not_lt_zero _))).mono ?_; rintro e w4 ⟨rfl, q4, rfl⟩; rw [tt_of (show SameT 0 0 (lenL []) (lenL []) (nthL []) (nthL []) from ⟨rfl, fun k hk => absurd hk (Nat.not_lt_zero _)⟩)])
      go_ret
      exact ⟨by first | rfl | simp, below_chain B1.out (by first | exact B3.out | exact below_drewN B3.out _ | exact below_drewN (below_drewN B3.out _) _)⟩
  · have hd : 1048576 < n := by omega
    clear hb hab hTZ
    go_enter Tryd.func8, Tryd.ntmps8
    go_wp2_with fail
    go_ret
    exact ⟨rfl, Below.refl _ _⟩
end Go.Proofs.YtgjegpponchdaaaDoor
