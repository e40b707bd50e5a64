/- The walk of the law FnProofAll: it answers true at every code that can be read. -/
import Derived.Test.YtabdbgnkiebcdaaDoorPartR9
import Derived.Test.YtabdbgnkiebcdaaDoorPartR8
namespace Go.Proofs.YtabdbgnkiebcdaaDoor
set_option linter.unusedVariables false
set_option linter.unusedSimpArgs false
open Go.RowKit

set_option maxHeartbeats 3200000 in
theorem fnProofAll_walk (n c : Nat) (a : Option Addr) (B : Nat → Nat) (w : World) (hPT : PowAt w) (hc : n ≤ c) (hb : RdB w a n B) (hab : 0 < n → ∀ b o, a = some ⟨b, o, none⟩ → b < w.heap.size) :
    Calls Tryd.prog 8 #[.slice a n c] w fun e w' => e = .returned (.bool true) ∧ Below w.heap.size w w' := by
  by_cases hfit : n ≤ 1048576
  · have hd : ¬ (1048576 < n) := by omega
    have HD := Lib.hid (drawRateRounds_any n c a B w hfit hc hb hab)
    have PT := Lib.hid hPT
    clear hb hab hPT
    go_enter Tryd.func8, Tryd.ntmps8
    go_wp2_with fail
    refine HD.out.mono ?_
    rintro e w1 ⟨ga, N, gc, A, L, C, Z, rfl, ⟨hN1, hN5⟩, hL, hT, hb1⟩
    have HT := Lib.hid hT
    have HL := Lib.hid (show ∀ r, r < N → L r ≤ 1048576 from fun r hr => by have := hL r hr; omega)
    have B1 := Lib.hid hb1
    clear hT hL hb1 HD
    go_wp2_with fail
    refine (rateRounds_any N gc ga A L C Z _ (by omega) HL.out HT.out).mono ?_
    rintro e w2 ⟨rfl, hb2⟩
    have B2 := Lib.hid hb2
    clear hb2
    obtain ⟨G, hG⟩ : ∃ G, G = gainN N L Z := ⟨_, rfl⟩
    have QG := Lib.hid hG
    by_cases hr : IsRates N L Z
    · have KR := Lib.hid (tt_of hr)
      rw [KR.out, ← QG.out]
      clear hr hG
      go_wp2_with fail
      refine (specRateRounds_any N gc ga A L C Z _ (by omega) HL.out (HT.out.below (Nat.le_refl _) B2.out)).mono ?_
      rintro e w3 ⟨rfl, hb3⟩
      rw [KR.out, ← QG.out]
      have B3 := Lib.hid (below_chain B2.out hb3)
      clear hb3
      go_wp2_with fail
      refine (proofRate_any N gc ga A L C Z _ (PT.out.below (Nat.le_refl _) (below_chain B1.out B3.out)) (by omega) HL.out (HT.out.below (Nat.le_refl _) B3.out)).mono ?_
      rintro e w4 ⟨rfl, hb4⟩
      rw [KR.out]
      have B4 := Lib.hid (below_chain B3.out hb4)
      clear hb4
      go_wp2
      go_ret
      exact ⟨rfl, below_chain B1.out B4.out⟩
    · have KR := Lib.hid (tt_no hr)
      rw [KR.out, ← QG.out]
      clear hr hG
      go_wp2_with fail
      refine (specRateRounds_any N gc ga A L C Z _ (by omega) HL.out (HT.out.below (Nat.le_refl _) B2.out)).mono ?_
      rintro e w3 ⟨rfl, hb3⟩
      rw [KR.out, ← QG.out]
      have B3 := Lib.hid (below_chain B2.out hb3)
      clear hb3
      go_wp2
      go_ret
      exact ⟨by simp, below_chain B1.out B3.out⟩
  · have hd : 1048576 < n := by omega
    clear hb hab
    go_enter Tryd.func8, Tryd.ntmps8
    go_wp2_with fail
    go_ret
    exact ⟨rfl, Below.refl _ _⟩
end Go.Proofs.YtabdbgnkiebcdaaDoor
