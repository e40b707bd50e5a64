/- The walk of the law FnHigh: it answers true at every code that can be read. -/
import Derived.Test.YtaipodnhnekpjaaDrawFairHigh
import Derived.Test.YtaipodnhnekpjaaFairLowF
import Derived.Test.YtaipodnhnekpjaaSpecFairLow
import Derived.Test.YtaipodnhnekpjaaBidFirstF
import Derived.Test.YtaipodnhnekpjaaFairInF
import Derived.Test.YtaipodnhnekpjaaSameInts
import Derived.Test.YtaipodnhnekpjaaFnBidModel
namespace Go.Proofs.Ytaipodnhnekpjaa
set_option linter.unusedVariables false
open Go.RowKit

set_option maxHeartbeats 3200000 in
theorem fnHigh_walk (n c : Nat) (a : Option Addr) (B : Nat → Nat) (w : World) (hc : n ≤ c) (hb : RdB w a n B) (hab : 0 < n → ∀ b o, a = some ⟨b, o, none⟩ → b < w.heap.size) :
    Calls Try.prog 11 #[.slice a n c] w fun e w' => e = .returned (.bool true) ∧ Below w.heap.size w w' := by
  by_cases hfit : n ≤ 1048576
  · have hd : ¬ (1048576 < n) := by omega
    have HD := Lib.hid (drawFairHigh_any n c a B w hfit hc hb hab)
    clear hb hab
    go_enter Try.func11, Try.ntmps11
    go_wp2_with fail
    refine HD.out.mono ?_
    rintro e w1 ⟨ga, N, gc, A, L, C, Z, rfl, ⟨hN1, hN4, hgc⟩, hL, hT, hb1⟩
    have V1 := Lib.hid hT
    have B1 := Lib.hid hb1
    have hn0 : N ≤ 1048576 := by omega
    have HL := Lib.hid (show ∀ r, r < N → L r ≤ 1048576 from fun r hr => by have := hL r hr; omega)
    clear hL hT hb1 HD
    go_wp2_with fail
    refine (fairHigh_any N gc ga A L C Z _ hn0 HL.out V1.out).mono ?_
    rintro e w2 ⟨fa, fc, rfl, hO2, hb2⟩
    have F2 := Lib.hid hO2.rd
    have V2 := Lib.hid (V1.out.below (Nat.le_refl _) hb2)
    have B2 := Lib.hid (below_chain B1.out hb2)
    clear hb2 B1 V1
    clear hO2
    go_wp2_with fail
    refine (specFairHigh_any N gc ga A L C Z _ hn0 HL.out V2.out).mono ?_
    rintro e w3 ⟨sa, sc, rfl, hO3, hb3⟩
    have S3 := Lib.hid hO3.rd
    have V3 := Lib.hid (V2.out.below (Nat.le_refl _) hb3)
    have F3 := Lib.hid (F2.out.below (Nat.le_refl _) hb3)
    have B3 := Lib.hid (below_chain B2.out hb3)
    clear hb3 B2 V2 F2
    clear hO3
    by_cases h : IsBids N L Z
    · have K1 := Lib.hid (tt_of h)
      have K2 := Lib.hid (itemsN_yes h)
      have K3 := Lib.hid (firstN_yes h)
      obtain ⟨hfd, hfb⟩ := firstD_is h
      have hm4 := h.1.2.2
      have LH := Lib.hid (fun k (hk : k < L 0) => show 0 ≤ lowP N (L 0) Z k ∧ lowP N (L 0) Z k ≤ highP N (L 0) Z k from ⟨low_ge hk, low_high hk⟩)
      have K6 := Lib.hid (tt_of (show FairOk N L Z (L 0) (highP N (L 0) Z) N (nth (firstD N (L 0) Z)) from ⟨⟨h, high_item h.cells⟩, ⟨hfd, rfl⟩, high_fair hfd hfb⟩))
      have SM := Lib.hid (tt_of (show SameB (L 0) (L 0) (highP N (L 0) Z) (highP N (L 0) Z) from ⟨rfl, fun _ _ => rfl⟩))
      rw [K2.out] at F3 S3
      rw [K1.out, K2.out]
      clear h hfd hfb
      go_wp2_with fail
      refine (sameInts_any (L 0) (L 0) fc sc _ _ _ _ _ (by omega) (by omega) F3.out S3.out).mono ?_
      rintro e w4 ⟨rfl, q4, rfl⟩
      rw [SM.out]
      have V4 := Lib.hid (V3.out.drewN q4)
      have F4 := Lib.hid (F3.out.drewN q4)
      have S4 := Lib.hid (S3.out.drewN q4)
      have B4 := Lib.hid (below_chain B3.out (below_drewN (Below.refl _ _) q4))
      clear B3 V3 F3 S3
      clear S4
      go_wp2_with fail
      refine (bidFirst_any N gc ga A L C Z _ hn0 HL.out V4.out).mono ?_
      rintro e w5 ⟨da, dc, rfl, hO5, hb5⟩
      rw [K3.out] at hO5 ⊢
      rw [K1.out]
      have D5 := Lib.hid hO5.rd
      have V5 := Lib.hid (V4.out.below (Nat.le_refl _) hb5)
      have F5 := Lib.hid (F4.out.below (Nat.le_refl _) hb5)
      have B5 := Lib.hid (below_chain B4.out hb5)
      clear hb5 B4 V4 F4
      clear hO5
      go_wp2_with fail
      refine (fairIn_all N gc ga A L C Z (L 0) fc fa (highP N (L 0) Z) N dc da _ _ hn0 HL.out V5.out (by omega) F5.out (by omega) D5.out).mono ?_
      rintro e w6 ⟨rfl, hb6⟩
      rw [K6.out]
      have V6 := Lib.hid (V5.out.below (Nat.le_refl _) hb6)
      have F6 := Lib.hid (F5.out.below (Nat.le_refl _) hb6)
      have D6 := Lib.hid (D5.out.below (Nat.le_refl _) hb6)
      have B6 := Lib.hid (below_chain B5.out hb6)
      clear hb6 B5 V5 F5 D5
      go_wp2_with fail
      go_ret
      exact ⟨rfl, B6.out⟩
    · have K1 := Lib.hid (tt_no h)
      have K2 := Lib.hid (itemsN_no h)
      have SM := Lib.hid (tt_of (show SameB 0 0 (highP N (L 0) Z) (highP N (L 0) Z) from ⟨rfl, fun _ _ => rfl⟩))
      rw [K2.out] at F3 S3 ⊢
      rw [K1.out]
      clear h
      go_wp2_with fail
      refine (sameInts_any 0 0 fc sc _ _ _ _ _ (by omega) (by omega) F3.out S3.out).mono ?_
      rintro e w4 ⟨rfl, q4, rfl⟩
      rw [SM.out]
      have F4 := Lib.hid (F3.out.drewN q4)
      have S4 := Lib.hid (S3.out.drewN q4)
      clear F3 S3 V3
      go_wp2_with fail
      refine (sameInts_any 0 0 fc sc _ _ _ _ _ (by omega) (by omega) F4.out S4.out).mono ?_
      rintro e w5 ⟨rfl, q5, rfl⟩
      rw [SM.out]
      clear F4 S4
      go_wp2_with fail
      go_ret
      exact ⟨rfl, below_chain B3.out (below_drewN (Below.refl _ _) (q4 + q5))⟩
  · have hd : 1048576 < n := by omega
    clear hb hab
    go_enter Try.func11, Try.ntmps11
    go_wp2
    go_ret
    exact ⟨rfl, Below.refl _ _⟩
end Go.Proofs.Ytaipodnhnekpjaa
