/- The walk of the law FnSure: it answers true at every code that can be read. -/
import Derived.Test.YtimkgplabbcklaaDrawOddsSure
import Derived.Test.YtimkgplabbcklaaOddsSureF
import Derived.Test.YtimkgplabbcklaaSpecOddsSure
import Derived.Test.YtimkgplabbcklaaOddsStakesF
import Derived.Test.YtimkgplabbcklaaOddsBestF
import Derived.Test.YtimkgplabbcklaaOddsWinsF
import Derived.Test.YtimkgplabbcklaaOddsFn
import Derived.Test.YtimkgplabbcklaaAppendRows
import Derived.Test.YtimkgplabbcklaaInfoInts
namespace Go.Proofs.Ytimkgplabbcklaa
set_option linter.unusedVariables false
open Go.RowKit

set_option maxRecDepth 100000 in
set_option maxHeartbeats 3200000 in
theorem fnSure_walk (n c : Nat) (a : Option Addr) (B : Nat → Nat) (w : World) (hc : n ≤ c) (hb : RdB w a n B) (hab : 0 < n → ∀ b o, a = some ⟨b, o, none⟩ → b < w.heap.size) :
    Calls Try.prog 3 #[.slice a n c] w fun e w' => e = .returned (.bool true) ∧ Below w.heap.size w w' := by
  by_cases hfit : n ≤ 1048576
  · have hd : ¬ (1048576 < n) := by omega
    have HD := Lib.hid (drawOddsSure_any n c a B w hfit hc hb hab)
    clear hb hab
    go_enter Try.func3, Try.ntmps3
    go_wp2_with fail
    refine HD.out.mono ?_
    rintro e w1 ⟨g, q, d, X, rfl, ⟨hq1, hq7, hqd⟩, hX, hb1⟩
    have V1 := Lib.hid hX
    have B1 := Lib.hid hb1
    have hq0 : q ≤ 1048576 := by omega
    clear hX hb1 HD
    go_wp2_with fail
    refine (oddsSure_all q d (some ⟨g, 0, none⟩) X _ hq0 V1.out).mono ?_
    rintro e w2 ⟨rfl, hb2⟩
    have V2 := Lib.hid (V1.out.below (Nat.le_refl _) hb2)
    have B2 := Lib.hid (below_chain B1.out hb2)
    clear hb2 B1 V1
    go_wp2_with fail
    refine (specOddsSure_any q d (some ⟨g, 0, none⟩) X _ hq0 V2.out).mono ?_
    rintro e w3 ⟨rfl, hb3⟩
    have V3 := Lib.hid (V2.out.below (Nat.le_refl _) hb3)
    have B3 := Lib.hid (below_chain B2.out hb3)
    clear hb3 B2 V2
    by_cases h : SureP q X
    · have K1 := Lib.hid (tt_of h)
      have K2 := Lib.hid (tt_of h.1)
      have K3 := Lib.hid (stakeN_yes h.1)
      have hBk : BestOk q X q all20 := ⟨⟨h.1, all_odds h.1⟩, rfl⟩
      have K4 := Lib.hid (tt_of hBk)
      have K5 := Lib.hid (bestN_yes hBk)
      have K6 := Lib.hid (tt_of (sure_wins h))
      have K7 := Lib.hid (tt_of (sure_all h.1))
      rw [K1.out]
      clear h hBk
      go_wp2_with fail
      refine (oddsStakes_all q d (some ⟨g, 0, none⟩) X _ hq0 V3.out).mono ?_
      rintro e w4 ⟨sa, sc, rfl, hO4, hb4⟩
      rw [K3.out] at hO4 ⊢
      rw [K2.out]
      have S4 := Lib.hid hO4.rd
      have V4 := Lib.hid (V3.out.below (Nat.le_refl _) hb4)
      have B4 := Lib.hid (below_chain B3.out hb4)
      clear hb4 B3 V3
      clear hO4
      go_wp2
      have O0 := Lib.hid (show (w4.alloc (.cells #[] 3)).ownsRow w4.heap.size 3 1 (.slice (some ⟨w4.heap.size, 0, none⟩) 0 0) 0 (cellsL 0 all20) from World.ownsRow_made w4 #[] 0 (Nat.le_refl _) (Nat.zero_le _) (by simp))
      go_loopw [8, 9] (fun o s wr => ∃ (j : Nat) (v : Value), j ≤ q ∧ s = .int .i64 j ∧ v = o ∧ wr.ownsRow w4.heap.size 3 1 v j (cellsL j all20) ∧ Below w4.heap.size w4 wr) (fun _ s _ => q - (intOf s).toNat)
      case atStart => exact ⟨0, _, Nat.zero_le _, rfl, rfl, O0.out, below_alloc (Below.refl _ _) _⟩
      case round =>
        obtain ⟨j, v, hj, rfl, rfl, hO, hB⟩ := hrel
        have HO := Lib.hid hO
        have HBw := Lib.hid hB
        have hsz := hB.size
        clear hO hB O0
        by_cases hlt : j < q
        · obtain ⟨i0, hi, hz0, hz1, hz2⟩ := info_parts Try.infoInt
          have EX := Lib.hid (cellsL_snocX (X := all20) j (x := 20) rfl)
          go_wp2_with (at_builtin; refine wpList_append_gen _ (by rfl) (.tmp 43) (.tmp 44) 23 (by rfl) w4.heap.size 3 i0 (.int .i64 0) 8 Try.underlying23 hi hz0 hz1 hz2 (by rfl) v j _ (by rfl) (HO.out.alloc _) ⟨_, 0, none⟩ 1 1 [.int .i64 20] (by rfl) (by rfl) (news_one (by simp)) (by simp [Value.oneCell']) (by unfold maxLen; omega) (by omega) (by simp; omega) ?_; intro v2 w5 hown2 hgrow2 hat2; have O5 := Lib.hid hown2; have B5 := Lib.hid ((below_alloc HBw.out _).grown hgrow2 (by simp; omega) (fun x hx => (HO.out.lt x hx).1)); clear hown2 hgrow2 hat2)
          go_roundw
          case rel => exact ⟨j + 1, v2, by omega, by go_num, rfl, by rw [← EX.out]; exact O5.out, B5.out⟩
          case measure => simp [intOf]; omega
        · obtain rfl : j = q := by omega
          obtain ⟨g5, c5, rfl⟩ := owns_form HO.out (by omega)
          have V5 := Lib.hid (V4.out.below (Nat.le_refl _) HBw.out)
          have S5 := Lib.hid (S4.out.below (Nat.le_refl _) HBw.out)
          have B5 := Lib.hid (below_chain B4.out HBw.out)
          have O5 := Lib.hid (owns_rd HO.out)
          clear HO HBw hsz
          go_wp2_with fail
          refine (oddsBest_all j d j c5 (some ⟨g, 0, none⟩) (some ⟨g5, 0, none⟩) X all20 _ hq0 V5.out hq0 O5.out).mono ?_
          rintro e w6 ⟨ba, bc, rfl, hO6, hb6⟩
          rw [K5.out] at hO6 ⊢
          rw [K4.out]
          have Q6 := Lib.hid hO6.rd
          have V6 := Lib.hid (V5.out.below (Nat.le_refl _) hb6)
          have S6 := Lib.hid (S5.out.below (Nat.le_refl _) hb6)
          have B6 := Lib.hid (below_chain B5.out hb6)
          clear hO6 hb6 V5 S5 B5 O5
          go_wp2_with fail
          refine (oddsWins_all j d j sc (some ⟨g, 0, none⟩) sa X (stakeF j X) _ hq0 V6.out hq0 S6.out).mono ?_
          rintro e w7 ⟨rfl, hb7⟩
          rw [K6.out]
          have Q7 := Lib.hid (Q6.out.below (Nat.le_refl _) hb7)
          have B7 := Lib.hid (below_chain B6.out hb7)
          clear hb7
          go_wp2_with fail
          refine (oddsSure_all j bc ba (bestF X all20) _ hq0 Q7.out).mono ?_
          rintro e w8 ⟨rfl, hb8⟩
          rw [K7.out]
          have B8 := Lib.hid (below_chain B7.out hb8)
          clear hb8
          go_wp2_with fail
          go_ret
          exact ⟨rfl, B8.out⟩
    · have K1 := Lib.hid (tt_no h)
      rw [K1.out]
      clear h
      go_wp2_with fail
      go_ret
      exact ⟨rfl, B3.out⟩
  · have hd : 1048576 < n := by omega
    clear hb hab
    go_enter Try.func3, Try.ntmps3
    go_wp2
    go_ret
    exact ⟨rfl, Below.refl _ _⟩
end Go.Proofs.Ytimkgplabbcklaa
