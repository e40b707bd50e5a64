/- The walk of the law FnBlockIs: it answers true at every code that can be read. -/
import Derived.Test.YtabdbgnkiebcdaaGreatDoorPartS12
import Derived.Test.YtabdbgnkiebcdaaGreatDoorPartS13
namespace Go.Proofs.YtabdbgnkiebcdaaGreatDoor
set_option linter.unusedVariables false
set_option linter.unusedSimpArgs false
open Go.RowKit

set_option maxHeartbeats 3200000 in
theorem fnBlockIs_walk (n c : Nat) (a : Option Addr) (B : Nat → Nat) (w : World) (hPT : PowAt w) (hNE : NumErrAt w) (hTZ : TzAt w) (hc : n ≤ c) (hb : RdB w a n B) (hab : 0 < n → ∀ b o, a = some ⟨b, o, none⟩ → b < w.heap.size) :
    Calls Tryz.prog 6 #[.slice a n c] w fun e w' => e = .returned (.bool true) ∧ Below w.heap.size w w' := by
  by_cases hfit : n ≤ 1048576
  · have hd : ¬ (1048576 < n) := by omega
    have HD := Lib.hid (drawProofBlockIs_any n c a B w hfit hc hb hab)
    have TZ := Lib.hid hTZ
    have PT := Lib.hid hPT
    have NE := Lib.hid hNE
    clear hb hab hTZ hPT hNE
    go_enter Tryz.func6, Tryz.ntmps6
    go_wp2_with fail
    refine HD.out.mono ?_
    rintro e w1 ⟨ga, N, gc, A, L, C, Z, b, m, d, X, t, rfl, ⟨⟨hN1, hN5⟩, hmd, hm6⟩, hL, hT, hX, ht, hb1⟩
    have HT := Lib.hid hT
    have HX := Lib.hid hX
    have HL := Lib.hid (show ∀ r, r < N → L r ≤ 1048576 from fun r hr => by have := hL r hr; omega)
    have B1 := Lib.hid hb1
    have TZ1 := Lib.hid (TZ.out.below (Nat.le_refl _) hb1)
    have SZ := Lib.hid ht
    clear hT hX hL hb1 HD TZ ht
    by_cases hok : PrB N L Z m X t
    · have K1 := Lib.hid (tt_of hok)
      have KW := Lib.hid (tt_of hok.1.1)
      have KN := Lib.hid (tradeN_yes hok.1.1)
      obtain rfl : m = N := hok.1.2.1
      have hnf : ¬ FirmP m Z X := prB_firm hok
      have KS := Lib.hid (tt_no (show ¬ SameB m m (giveF Z m) X from fun h => hnf (firm_congr h.2 (trade_firm hok.1.1))))
      have KF := Lib.hid (tt_no (show ¬ FirmOk m L Z m X from fun h => hnf h.2))
      clear hok hnf
      go_wp2_with (first
        | (go_at_call 17; refine (proofBlockIs_any m gc ga A L C Z m d b X t _ (PT.out.below (Nat.le_refl _) B1.out) (NE.out.below (Nat.le_refl _) B1.out) (by omega) HL.out HT.out (by omega) HX.out SZ.out).mono ?_; rw [K1.out]; rintro e w2 ⟨rfl, hb2⟩; have B2 := Lib.hid hb2; clear hb2)
        | (go_at_call 20; refine (specProofBlockIs_any m gc ga A L C Z m d b X t _ (by omega) HL.out (HT.out.below (Nat.le_refl _) B2.out) (by omega) (HX.out.below (Nat.le_refl _) B2.out) SZ.out).mono ?_; rw [K1.out]; rintro e w3 ⟨rfl, hb3⟩; have B3 := Lib.hid (below_chain B2.out hb3); clear hb3))
      go_wp2_with fail
      refine (houseTrade_any m gc ga A L C Z _ (by omega) HL.out (HT.out.below (Nat.le_refl _) B3.out)).mono ?_
      rintro e w4 ⟨a4, c4, rfl, hO4, hb4⟩
      rw [KN.out] at hO4
      rw [KW.out, KN.out]
      have O4 := Lib.hid hO4.rd
      have B4 := Lib.hid (below_chain B3.out hb4)
      clear hO4 hb4
      go_wp2_with (first
        | (go_at_call 22; refine (sameInts_any m m c4 d a4 b _ X _ (by omega) (by omega) O4.out (HX.out.below (Nat.le_refl _) B4.out)).mono ?_; rintro e w5 ⟨rfl, q5, rfl⟩; rw [KS.out]; have B5 := Lib.hid (below_drewN B4.out q5))
        | (go_at_call 18; refine (houseFirm_any m gc ga A L C Z m d b X _ (TZ1.out.below (Nat.le_refl _) B5.out) (by omega) HL.out (HT.out.below (Nat.le_refl _) B5.out) (by omega) (HX.out.below (Nat.le_refl _) B5.out)).mono ?_; rintro e w6 ⟨rfl, hb6⟩; rw [KF.out]; have B6 := Lib.hid (below_chain B5.out hb6); clear hb6))
      go_ret
      exact ⟨by first | rfl | simp, below_chain B1.out B6.out⟩
    · have K1 := Lib.hid (tt_no hok)
      clear hok
      go_wp2_with (first
        | (go_at_call 17; refine (proofBlockIs_any N gc ga A L C Z m d b X t _ (PT.out.below (Nat.le_refl _) B1.out) (NE.out.below (Nat.le_refl _) B1.out) (by omega) HL.out HT.out (by omega) HX.out SZ.out).mono ?_; rw [K1.out]; rintro e w2 ⟨rfl, hb2⟩; have B2 := Lib.hid hb2; clear hb2)
        | (go_at_call 20; refine (specProofBlockIs_any N gc ga A L C Z m d b X t _ (by omega) HL.out (HT.out.below (Nat.le_refl _) B2.out) (by omega) (HX.out.below (Nat.le_refl _) B2.out) SZ.out).mono ?_; rw [K1.out]; rintro e w3 ⟨rfl, hb3⟩; have B3 := Lib.hid (below_chain B2.out hb3); clear hb3))
      go_ret
      exact ⟨by first | rfl | simp, below_chain B1.out B3.out⟩
  · have hd : 1048576 < n := by omega
    clear hb hab hTZ
    go_enter Tryz.func6, Tryz.ntmps6
    go_wp2_with fail
    go_ret
    exact ⟨rfl, Below.refl _ _⟩
end Go.Proofs.YtabdbgnkiebcdaaGreatDoor
