/- The walk of the law FnRound: it answers true at every code that can be read. -/
import Derived.Test.YtmjbocgoinfamaaDrawRateRound
import Derived.Test.YtmjbocgoinfamaaRateRound
import Derived.Test.YtmjbocgoinfamaaSpecRateRound
import Derived.Test.YtmjbocgoinfamaaRateWay
import Derived.Test.YtmjbocgoinfamaaRateFirst
import Derived.Test.YtmjbocgoinfamaaRateFair
import Derived.Test.YtmjbocgoinfamaaRoundWay
import Derived.Test.YtmjbocgoinfamaaPower
namespace Go.Proofs.Ytmjbocgoinfamaa
set_option linter.unusedVariables false
set_option linter.unusedSimpArgs false
open Go.RowKit

set_option maxHeartbeats 3200000 in
theorem fnRound_walk (n c : Nat) (a : Option Addr) (B : Nat → Nat) (w : World) (hc : n ≤ c) (hb : RdB w a n B) (hab : 0 < n → ∀ b o, a = some ⟨b, o, none⟩ → b < w.heap.size) :
    Calls Try.prog 4 #[.slice a n c] w fun e w' => e = .returned (.bool true) ∧ Below w.heap.size w w' := by
  by_cases hfit : n ≤ 1048576
  · have hd : ¬ (1048576 < n) := by omega
    have HD := Lib.hid (drawRateRound_any n c a B w hfit hc hb hab)
    clear hb hab
    go_enter Try.func4, Try.ntmps4
    go_wp2_with fail
    refine HD.out.mono ?_
    rintro e w1 ⟨ga, N, gc, A, L, C, Z, g, m, cap, X, rfl, ⟨hN1, hN5, hcap, hm6⟩, hL, hT, hX, hb1⟩
    have HT := Lib.hid hT
    have HX := Lib.hid hX
    have HL := Lib.hid (show ∀ r, r < N → L r ≤ 1048576 from fun r hr => by have := hL r hr; omega)
    have B1 := Lib.hid hb1
    clear hT hX hL hb1 HD
    by_cases hok : RoundOk N L Z m X
    · have K1 := Lib.hid (tt_of hok)
      have KW := Lib.hid (tt_of (show WayOk N L Z m X from ⟨hok.1, hok.2.1⟩))
      have hm2 := hok.2.1.2.1
      have HOK := Lib.hid hok
      obtain ⟨V, hV⟩ : ∃ V, V = roundAns N L Z m X := ⟨_, rfl⟩
      obtain ⟨S, hS⟩ : ∃ S, S = wayAns N L Z m X := ⟨_, rfl⟩
      obtain ⟨P, hP⟩ : ∃ P, P = p12 N := ⟨_, rfl⟩
      have QV := Lib.hid hV
      have QS := Lib.hid hS
      have QP := Lib.hid hP
      have HV := Lib.hid (show V = roundV N Z m X by rw [hV, roundAns_yes hok])
      clear hok hV hS hP
      go_wp2_with fail
      refine (rateRound_any N gc ga A L C Z m cap _ X _ (by omega) HL.out HT.out (by omega) hcap HX.out).mono ?_
      rintro e w2 ⟨rfl, hb2⟩
      rw [K1.out, ← QV.out]
      have B2 := Lib.hid hb2
      clear hb2
      go_wp2_with fail
      refine (specRateRound_any N gc m cap ga A L C Z _ X _ (by omega) HL.out (HT.out.below (Nat.le_refl _) B2.out) (by omega) (HX.out.below (Nat.le_refl _) B2.out)).mono ?_
      rintro e w3 ⟨rfl, hb3⟩
      rw [K1.out, ← QV.out]
      have B3 := Lib.hid (below_chain B2.out hb3)
      clear hb3
      go_wp2_with fail
      refine (rateWay_any N gc m cap ga _ A L C Z X _ (by omega) HL.out (HT.out.below (Nat.le_refl _) B3.out) (by omega) hcap (HX.out.below (Nat.le_refl _) B3.out)).mono ?_
      rintro e w4 ⟨rfl, hb4⟩
      rw [KW.out, ← QS.out]
      have B4 := Lib.hid (below_chain B3.out hb4)
      clear hb4
      go_wp2_with fail
      refine (power_any (N : Int) _ (by omega) (by omega)).mono ?_
      rintro e w5 ⟨rfl, rfl⟩
      rw [Int.toNat_natCast, ← QP.out]
      obtain ⟨m1, hm1⟩ : ∃ m1, m1 = m - 1 := ⟨_, rfl⟩
      have hw1 : IntKind.i64.wrap ((m : Int) - 1) = (m1 : Int) := by rw [IntWalk.i64_in _ (by omega)]; omega
      have hlt1 : m1 < m := by omega
      have hlt0 : 0 < m := by omega
      have hi1 : (0 : Int) < (m : Int) := by omega
      have hi2 : (m1 : Int) < (m : Int) := by omega
      have hx0 := HOK.out.2.1.1.1 0 hlt0
      have hx1 := HOK.out.2.1.1.1 m1 hlt1
      obtain ⟨k', hk'⟩ := Int.eq_ofNat_of_zero_le hx0.1
      obtain ⟨i', hi'⟩ := Int.eq_ofNat_of_zero_le hx1.1
      have hkN : k' < N := by omega
      have hiN : i' < N := by omega
      obtain ⟨Y, hY⟩ : ∃ Y, Y = Z i' k' := ⟨_, rfl⟩
      have hVY : V = S * Y := by
        rw [HV.out, round_way HOK.out, ← QS.out, hY, ← hm1, hi', hk']
        rfl
      have hbV := round_bound HOK.out.1 HOK.out.2.1
      rw [← HV.out] at hbV
      have hwm : IntKind.i64.wrap (S * Y) = V := by rw [hVY]; exact IntWalk.i64_in _ (by rw [← hVY]; omega)
      have RX4 := Lib.hid (HX.out.below (Nat.le_refl _) B4.out)
      have hc0 : ∀ r : Later w4, r.W.cell? ⟨g, 0, none⟩ = some (.int .i64 (k' : Int)) := fun r => by
        obtain ⟨b', o', he, hc⟩ := RX4.out 0 hlt0
        simp only [Option.some.injEq, Addr.mk.injEq, and_true] at he
        obtain ⟨rfl, rfl⟩ := he
        rw [hk'] at hc
        exact later_cell hc r
      have hc1 : ∀ r : Later w4, r.W.cell? ⟨g, m1, none⟩ = some (.int .i64 (i' : Int)) := fun r => by
        obtain ⟨b', o', he, hc⟩ := RX4.out m1 hlt1
        simp only [Option.some.injEq, Addr.mk.injEq, and_true] at he
        obtain ⟨rfl, rfl⟩ := he
        rw [Nat.zero_add, hi'] at hc
        exact later_cell hc r
      have HT4 := Lib.hid (HT.out.below (Nat.le_refl _) B4.out)
      obtain ⟨ba, oa, hga, hca, hra⟩ := HT4.out i' hiN
      have hLi := (HOK.out.1.2 i' hiN).1
      rw [hLi] at hca hra
      obtain ⟨bc, oc, hA, hcc⟩ := hra k' hkN
      rw [hA] at hca
      rw [← hY] at hcc
      have hcr : ∀ r : Later w4, r.W.cell? ⟨ba, oa + i', none⟩ = some (.slice (some ⟨bc, oc, none⟩) N (C i')) := fun r => later_cell hca r
      have hcr2 : ∀ r : Later w4, r.W.cell? ⟨bc, oc + k', none⟩ = some (.int .i64 Y) := fun r => later_cell hcc r
      have IG : P < V → Hid (∀ r : Later w4, Calls Try.prog 22 #[.slice ga N gc] r.W fun e w' => e = .returned (.bool true) ∧ Below r.W.heap.size r.W w') := fun h => Lib.hid fun r => by
        refine (rateGains_any N gc ga A L C Z _ (by omega) HL.out (HT4.out.below (Nat.le_refl _) r.h)).mono ?_
        rintro e w' ⟨rfl, h'⟩
        exact ⟨by rw [tt_of (round_gains HOK.out (by rw [← HV.out, ← QP.out]; exact h))], h'⟩
      have IF : V ≠ P → Hid (∀ r : Later w4, Calls Try.prog 23 #[.slice ga N gc] r.W fun e w' => e = .returned (.bool false) ∧ Below r.W.heap.size r.W w') := fun h => Lib.hid fun r => by
        refine (rateFair_any N gc ga A L C Z _ (by omega) HL.out (HT4.out.below (Nat.le_refl _) r.h)).mono ?_
        rintro e w' ⟨rfl, h'⟩
        exact ⟨by rw [tt_no (round_fair HOK.out (by rw [← HV.out, ← QP.out]; exact h))], h'⟩
      have HVY := Lib.hid hVY
      clear hVY hbV hY hca hra hA hcc hLi hm1 hx0 hx1 hk' hi'
      rw [hga]
      rw [hga] at IG IF
      clear hga
      by_cases h1 : V = P
      · have hle : decide (V ≤ P) = true := decide_eq_true (by omega)
        have heq : (V == P) = true := by simpa using h1
        clear h1 IG IF
        go_wp2
        refine wp_region_later (by kernel_rfl) (by kernel_rfl) ?_
        repeat go_big_quiet_step (fail)
        refine wpQuiet_nil ?_
        rintro _ ⟨r, rfl⟩
        go_wp2
        go_ret
        exact ⟨by first | rfl | simp, below_chain B1.out (below_chain B4.out r.h)⟩
      · have heq : (V == P) = false := by simpa using h1
        have JF := IF h1
        by_cases h2 : V ≤ P
        · have hle : decide (V ≤ P) = true := decide_eq_true h2
          clear h1 h2 IG IF
          go_wp2
          refine wp_region_later (by kernel_rfl) (by kernel_rfl) ?_
          repeat go_big_quiet_step ((go_at_call 23; exact calls_later _ (JF.out _)))
          refine wpQuiet_nil ?_
          rintro _ ⟨r, rfl⟩
          go_wp2
          go_ret
          exact ⟨by first | rfl | simp, below_chain B1.out (below_chain B4.out r.h)⟩
        · have hle : decide (V ≤ P) = false := decide_eq_false h2
          have JG := IG (by omega)
          clear h1 h2 IG IF
          go_wp2
          refine wp_region_later (by kernel_rfl) (by kernel_rfl) ?_
          repeat go_big_quiet_step ((first
            | (go_at_call 22; exact calls_later _ (JG.out _))
            | (go_at_call 23; exact calls_later _ (JF.out _))))
          refine wpQuiet_nil ?_
          rintro _ ⟨r, rfl⟩
          go_wp2
          go_ret
          exact ⟨by first | rfl | simp, below_chain B1.out (below_chain B4.out r.h)⟩
    · have K1 := Lib.hid (tt_no hok)
      obtain ⟨V, hV⟩ : ∃ V, V = roundAns N L Z m X := ⟨_, rfl⟩
      have QV := Lib.hid hV
      clear hok hV
      go_wp2_with fail
      refine (rateRound_any N gc ga A L C Z m cap _ X _ (by omega) HL.out HT.out (by omega) hcap HX.out).mono ?_
      rintro e w2 ⟨rfl, hb2⟩
      rw [K1.out, ← QV.out]
      have B2 := Lib.hid hb2
      clear hb2
      go_wp2_with fail
      refine (specRateRound_any N gc m cap ga A L C Z _ X _ (by omega) HL.out (HT.out.below (Nat.le_refl _) B2.out) (by omega) (HX.out.below (Nat.le_refl _) B2.out)).mono ?_
      rintro e w3 ⟨rfl, hb3⟩
      rw [K1.out, ← QV.out]
      have B3 := Lib.hid (below_chain B2.out hb3)
      clear hb3
      go_wp2
      go_ret
      exact ⟨by first | rfl | simp, below_chain B1.out B3.out⟩
  · have hd : 1048576 < n := by omega
    clear hb hab
    go_enter Try.func4, Try.ntmps4
    go_wp2_with fail
    go_ret
    exact ⟨rfl, Below.refl _ _⟩
end Go.Proofs.Ytmjbocgoinfamaa
