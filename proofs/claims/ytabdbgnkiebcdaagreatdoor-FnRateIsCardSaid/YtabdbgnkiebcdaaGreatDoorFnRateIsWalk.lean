/- The walk of the law FnRateIs: it answers true at every code that can be read. -/
import Derived.Test.YtabdbgnkiebcdaaGreatDoorPartS13
import Derived.Test.YtabdbgnkiebcdaaGreatDoorPartS6
import Derived.Test.YtabdbgnkiebcdaaGreatDoorPartS9
namespace Go.Proofs.YtabdbgnkiebcdaaGreatDoor
set_option linter.unusedVariables false
set_option linter.unusedSimpArgs false
open Go.RowKit

set_option maxHeartbeats 3200000 in
theorem fnRateIs_walk (n c : Nat) (a : Option Addr) (B : Nat → Nat) (w : World) (hPT : PowAt w) (hNE : NumErrAt w) (hc : n ≤ c) (hb : RdB w a n B) (hab : 0 < n → ∀ b o, a = some ⟨b, o, none⟩ → b < w.heap.size) :
    Calls Tryz.prog 4 #[.slice a n c] w fun e w' => e = .returned (.bool true) ∧ Below w.heap.size w w' := by
  by_cases hfit : n ≤ 1048576
  · have hd : ¬ (1048576 < n) := by omega
    have HD := Lib.hid (drawProofRateIs_any n c a B w hfit hc hb hab)
    have PT := Lib.hid hPT
    have NE := Lib.hid hNE
    clear hb hab hPT hNE
    go_enter Tryz.func4, Tryz.ntmps4
    go_wp2_with fail
    refine HD.out.mono ?_
    rintro e w1 ⟨ga, N, gc, A, L, C, Z, X, rfl, ⟨hN1, hN5⟩, hL, hT, hX, hb1⟩
    have HT := Lib.hid hT
    have HL := Lib.hid (show ∀ r, r < N → L r ≤ 1048576 from fun r hr => by have := hL r hr; omega)
    have B1 := Lib.hid hb1
    have KS := Lib.hid hX
    clear hT hL hb1 HD hX
    by_cases hr : PrAny N L Z X
    · have KA := Lib.hid (tt_of hr)
      have hp := pr_gain hr
      obtain ⟨bb, hbb⟩ : ∃ bb, bb = tt (0 < gainN N L Z) := ⟨_, rfl⟩
      have KG := Lib.hid hbb
      have hbi : (prI N L Z X = 1 ∧ bb = true) ∨ (prI N L Z X = 0 ∧ bb = false) := by
        rw [hbb]
        by_cases h : 0 < gainN N L Z
        · exact .inl ⟨prI_yes (hp.2 h), tt_of h⟩
        · exact .inr ⟨prI_no (fun h' => h (hp.1 h')), tt_no h⟩
      clear hr hp hbb
      rcases hbi with ⟨ki, rfl⟩ | ⟨ki, rfl⟩
      all_goals
        have KI := Lib.hid ki
        clear ki
        go_wp2_with (first
          | (go_at_call 10; refine (proofRateIs_any N gc ga A L C Z X _ (PT.out.below (Nat.le_refl _) B1.out) (NE.out.below (Nat.le_refl _) B1.out) (by omega) HL.out HT.out KS.out).mono ?_; rw [KA.out, KI.out]; rintro e w2 ⟨rfl, hb2⟩; have B2 := Lib.hid hb2; clear hb2)
          | (go_at_call 13; refine (specProofRateIs_any N gc ga A L C Z X _ (by omega) HL.out (HT.out.below (Nat.le_refl _) B2.out) KS.out).mono ?_; rw [KA.out, KI.out]; rintro e w3 ⟨rfl, hb3⟩; have B4 := Lib.hid (below_chain B2.out hb3); clear hb3)
          | (go_at_call 11; refine (rateGains_any N gc ga A L C Z _ (by omega) HL.out (HT.out.below (Nat.le_refl _) B4.out)).mono ?_; rw [← KG.out]; rintro e w5 ⟨rfl, hb5⟩; have B5 := Lib.hid (below_chain B4.out hb5); clear hb5))
        go_ret
        exact ⟨by first | rfl | simp, below_chain B1.out B5.out⟩
    · have KA := Lib.hid (tt_no hr)
      have KI := Lib.hid (prI_no (show ¬ PrG N L Z X from fun h => hr ⟨h.1, .inl h.2⟩))
      clear hr
      go_wp2_with (first
        | (go_at_call 10; refine (proofRateIs_any N gc ga A L C Z X _ (PT.out.below (Nat.le_refl _) B1.out) (NE.out.below (Nat.le_refl _) B1.out) (by omega) HL.out HT.out KS.out).mono ?_; rw [KA.out, KI.out]; rintro e w2 ⟨rfl, hb2⟩; have B2 := Lib.hid hb2; clear hb2)
        | (go_at_call 13; refine (specProofRateIs_any N gc ga A L C Z X _ (by omega) HL.out (HT.out.below (Nat.le_refl _) B2.out) KS.out).mono ?_; rw [KA.out, KI.out]; rintro e w3 ⟨rfl, hb3⟩; have B4 := Lib.hid (below_chain B2.out hb3); clear hb3))
      go_ret
      exact ⟨by simp, below_chain B1.out B4.out⟩
  · have hd : 1048576 < n := by omega
    clear hb hab
    go_enter Tryz.func4, Tryz.ntmps4
    go_wp2_with fail
    go_ret
    exact ⟨rfl, Below.refl _ _⟩
end Go.Proofs.YtabdbgnkiebcdaaGreatDoor
