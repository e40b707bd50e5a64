/- The walk of the law FnTurnIs: it answers true at every code that can be read. -/
import Derived.Test.YtabdbgnkiebcdaaDoorPartT1
import Derived.Test.YtabdbgnkiebcdaaDoorPartR12
import Derived.Test.YtabdbgnkiebcdaaDoorPartR13
namespace Go.Proofs.YtabdbgnkiebcdaaDoor
set_option linter.unusedVariables false
set_option linter.unusedSimpArgs false
open Go.RowKit

set_option maxHeartbeats 3200000 in
theorem fnTurnIs_walk (n c : Nat) (a : Option Addr) (B : Nat → Nat) (w : World) (hPT : PowAt w) (hNE : NumErrAt w) (hTZ : TzAt w) (hc : n ≤ c) (hb : RdB w a n B) (hab : 0 < n → ∀ b o, a = some ⟨b, o, none⟩ → b < w.heap.size) :
    Calls Tryd.prog 10 #[.slice a n c] w fun e w' => e = .returned (.bool true) ∧ Below w.heap.size w w' := by
  by_cases hfit : n ≤ 1048576
  · have hd : ¬ (1048576 < n) := by omega
    have HD := Lib.hid (drawProofTurnIs_any n c a B w hfit hc hb hab)
    have TZ := Lib.hid hTZ
    have PT := Lib.hid hPT
    have NE := Lib.hid hNE
    clear hb hab hTZ hPT hNE
    go_enter Tryd.func10, Tryd.ntmps10
    go_wp2_with fail
    refine HD.out.mono ?_
    rintro e w1 ⟨ga, N, gc, A, L, C, Z, b, m, d, X, t, rfl, ⟨⟨hN1, hN5⟩, hmd, hm6⟩, hL, hT, hX, ht, hb1⟩
    have HT := Lib.hid hT
    have HX := Lib.hid hX
    have HL := Lib.hid (show ∀ r, r < N → L r ≤ 1048576 from fun r hr => by have := hL r hr; omega)
    have B1 := Lib.hid hb1
    have TZ1 := Lib.hid (TZ.out.below (Nat.le_refl _) hb1)
    have SZ := Lib.hid ht
    clear hT hX hL hb1 HD TZ ht
    by_cases hok : PrO N L Z m X t
    · have K1 := Lib.hid (tt_of hok)
      obtain rfl : m = N := hok.1.2.1
      have KF := Lib.hid (tt_of (show GoodOk m L Z m X from ⟨hok.1, by obtain ⟨hg, D, ⟨⟨h1, h2⟩, h3⟩, _⟩ := hok; exact turn_good hg h2 h3⟩))
      clear hok
      go_wp2_with (first
        | (go_at_call 25; refine (proofTurnIs_any m gc ga A L C Z m d b X t _ (PT.out.below (Nat.le_refl _) B1.out) (NE.out.below (Nat.le_refl _) B1.out) (by omega) HL.out HT.out (by omega) HX.out SZ.out).mono ?_; rw [K1.out]; rintro e w2 ⟨rfl, hb2⟩; have B2 := Lib.hid hb2; clear hb2)
        | (go_at_call 24; refine (specProofTurnIs_any m gc ga A L C Z m d b X t _ (by omega) HL.out (HT.out.below (Nat.le_refl _) B2.out) (by omega) (HX.out.below (Nat.le_refl _) B2.out) SZ.out).mono ?_; rw [K1.out]; rintro e w3 ⟨rfl, hb3⟩; have B3 := Lib.hid (below_chain B2.out hb3); clear hb3))
      go_wp2_with (go_at_call 33; refine (turnGood_any m gc ga A L C Z m d b X _ (TZ1.out.below (Nat.le_refl _) B3.out) (by omega) HL.out (HT.out.below (Nat.le_refl _) B3.out) (by omega) (HX.out.below (Nat.le_refl _) B3.out)).mono ?_; rw [KF.out]; rintro e w6 ⟨rfl, hb6⟩; have B6 := Lib.hid (below_chain B3.out hb6); clear hb6)
      go_ret
      exact ⟨by first | rfl | simp, below_chain B1.out B6.out⟩
    · have K1 := Lib.hid (tt_no hok)
      clear hok
      go_wp2_with (first
        | (go_at_call 25; refine (proofTurnIs_any N gc ga A L C Z m d b X t _ (PT.out.below (Nat.le_refl _) B1.out) (NE.out.below (Nat.le_refl _) B1.out) (by omega) HL.out HT.out (by omega) HX.out SZ.out).mono ?_; rw [K1.out]; rintro e w2 ⟨rfl, hb2⟩; have B2 := Lib.hid hb2; clear hb2)
        | (go_at_call 24; refine (specProofTurnIs_any N gc ga A L C Z m d b X t _ (by omega) HL.out (HT.out.below (Nat.le_refl _) B2.out) (by omega) (HX.out.below (Nat.le_refl _) B2.out) SZ.out).mono ?_; rw [K1.out]; rintro e w3 ⟨rfl, hb3⟩; have B3 := Lib.hid (below_chain B2.out hb3); clear hb3))
      go_ret
      exact ⟨by first | rfl | simp, below_chain B1.out B3.out⟩
  · have hd : 1048576 < n := by omega
    clear hb hab hTZ
    go_enter Tryd.func10, Tryd.ntmps10
    go_wp2_with fail
    go_ret
    exact ⟨rfl, Below.refl _ _⟩
end Go.Proofs.YtabdbgnkiebcdaaDoor
