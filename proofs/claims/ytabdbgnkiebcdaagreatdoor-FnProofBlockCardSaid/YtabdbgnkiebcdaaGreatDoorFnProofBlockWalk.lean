/- The walk of the law FnProofBlock: it answers true at every code that can be read. -/
import Derived.Test.YtabdbgnkiebcdaaGreatDoorPartS10
import Derived.Test.YtabdbgnkiebcdaaGreatDoorPartS11
import Derived.Test.YtabdbgnkiebcdaaGreatDoorPartS12
namespace Go.Proofs.YtabdbgnkiebcdaaGreatDoor
set_option linter.unusedVariables false
set_option linter.unusedSimpArgs false
open Go.RowKit

set_option maxHeartbeats 3200000 in
theorem fnProofBlock_walk (n c : Nat) (a : Option Addr) (B : Nat → Nat) (w : World) (hPT : PowAt w) (hNE : NumErrAt w) (hTZ : TzAt w) (hc : n ≤ c) (hb : RdB w a n B) (hab : 0 < n → ∀ b o, a = some ⟨b, o, none⟩ → b < w.heap.size) :
    Calls Tryz.prog 5 #[.slice a n c] w fun e w' => e = .returned (.bool true) ∧ Below w.heap.size w w' := by
  by_cases hfit : n ≤ 1048576
  · have hd : ¬ (1048576 < n) := by omega
    have HD := Lib.hid (drawProofBlock_any n c a B w hfit hc hb hab)
    have PT := Lib.hid hPT
    have NE := Lib.hid hNE
    have TZ := Lib.hid hTZ
    clear hb hab hPT hNE hTZ
    go_enter Tryz.func5, Tryz.ntmps5
    go_wp2_with fail
    refine HD.out.mono ?_
    rintro e w1 ⟨ga, N, gc, A, L, C, Z, b, m, d, X, rfl, ⟨⟨hN1, hN5⟩, hmd, hm6⟩, hL, hT, hX, hb1⟩
    have HT := Lib.hid hT
    have HX := Lib.hid hX
    have HL := Lib.hid (show ∀ r, r < N → L r ≤ 1048576 from fun r hr => by have := hL r hr; omega)
    have B1 := Lib.hid hb1
    clear hT hX hL hb1 HD
    obtain ⟨S, hS⟩ : ∃ S, S = strU (prB N L Z m X) := ⟨_, rfl⟩
    have QS := Lib.hid hS
    have SZ := Lib.hid (show S.size ≤ 1048576 by rw [hS]; exact prB_size _ _ _ _ _)
    by_cases hok : HasB N L Z m X
    · have K1 := Lib.hid (tt_of hok)
      obtain rfl : m = N := hok.1.2.1
      have K2 := Lib.hid (tt_of (show PrB m L Z m X S by rw [hS]; exact prB_made hok))
      have K3 := Lib.hid (tt_no (show ¬ FirmOk m L Z m X from fun h => (hasB_firm hok.1).1 hok h.2))
      clear hok hS
      go_wp2_with (first
        | (go_at_call 15; refine (proofBlock_any m gc ga A L C Z m d b X _ (PT.out.below (Nat.le_refl _) B1.out) (by omega) HL.out HT.out (by omega) HX.out).mono ?_; rw [K1.out, ← QS.out]; rintro e w2 ⟨rfl, hb2⟩; have B2 := Lib.hid hb2; clear hb2)
        | (go_at_call 16; refine (specProofBlock_any m gc ga A L C Z m d b X _ (by omega) HL.out (HT.out.below (Nat.le_refl _) B2.out) (by omega) (HX.out.below (Nat.le_refl _) B2.out)).mono ?_; rw [K1.out, ← QS.out]; rintro e w3 ⟨rfl, hb3⟩; have B3 := Lib.hid (below_chain B2.out hb3); clear hb3)
        | (go_at_call 17; refine (proofBlockIs_any m gc ga A L C Z m d b X S _ (PT.out.below (Nat.le_refl _) (below_chain B1.out B3.out)) (NE.out.below (Nat.le_refl _) (below_chain B1.out B3.out)) (by omega) HL.out (HT.out.below (Nat.le_refl _) B3.out) (by omega) (HX.out.below (Nat.le_refl _) B3.out) SZ.out).mono ?_; rw [K2.out]; rintro e w4 ⟨rfl, hb4⟩; have B4 := Lib.hid (below_chain B3.out hb4); clear hb4)
        | (go_at_call 18; refine (houseFirm_any m gc ga A L C Z m d b X _ (TZ.out.below (Nat.le_refl _) (below_chain B1.out B4.out)) (by omega) HL.out (HT.out.below (Nat.le_refl _) B4.out) (by omega) (HX.out.below (Nat.le_refl _) B4.out)).mono ?_; rw [K3.out]; rintro e w5 ⟨rfl, hb5⟩; have B5 := Lib.hid (below_chain B4.out hb5); clear hb5))
      go_ret
      exact ⟨by first | rfl | simp, below_chain B1.out B5.out⟩
    · have K1 := Lib.hid (tt_no hok)
      clear hok hS
      go_wp2_with (first
        | (go_at_call 15; refine (proofBlock_any N gc ga A L C Z m d b X _ (PT.out.below (Nat.le_refl _) B1.out) (by omega) HL.out HT.out (by omega) HX.out).mono ?_; rw [K1.out, ← QS.out]; rintro e w2 ⟨rfl, hb2⟩; have B2 := Lib.hid hb2; clear hb2)
        | (go_at_call 16; refine (specProofBlock_any N gc ga A L C Z m d b X _ (by omega) HL.out (HT.out.below (Nat.le_refl _) B2.out) (by omega) (HX.out.below (Nat.le_refl _) B2.out)).mono ?_; rw [K1.out, ← QS.out]; rintro e w3 ⟨rfl, hb3⟩; have B3 := Lib.hid (below_chain B2.out hb3); clear hb3))
      go_ret
      exact ⟨by first | rfl | simp, below_chain B1.out B3.out⟩
  · have hd : 1048576 < n := by omega
    clear hb hab
    go_enter Tryz.func5, Tryz.ntmps5
    go_wp2_with fail
    go_ret
    exact ⟨rfl, Below.refl _ _⟩
end Go.Proofs.YtabdbgnkiebcdaaGreatDoor
