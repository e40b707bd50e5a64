/- The walk of the law FnRateFirst: it answers true at every code that can be read. -/
import Derived.Test.YtakipaehoeapcaaDrawRateFirst
import Derived.Test.YtakipaehoeapcaaRateFirst
import Derived.Test.YtakipaehoeapcaaSpecRateFirst
import Derived.Test.YtakipaehoeapcaaRateRound
import Derived.Test.YtakipaehoeapcaaSameInts
import Derived.Test.YtakipaehoeapcaaPower
namespace Go.Proofs.Ytakipaehoeapcaa
set_option linter.unusedVariables false
set_option linter.unusedSimpArgs false
open Go.RowKit

set_option maxHeartbeats 3200000 in
theorem fnRateFirst_walk (n c : Nat) (a : Option Addr) (B : Nat → Nat) (w : World) (hc : n ≤ c) (hb : RdB w a n B) (hab : 0 < n → ∀ b o, a = some ⟨b, o, none⟩ → b < w.heap.size) :
    Calls Try.prog 4 #[.slice a n c] w fun e w' => e = .returned (.bool true) ∧ Below w.heap.size w w' := by
  by_cases hfit : n ≤ 1048576
  · have hd : ¬ (1048576 < n) := by omega
    have HD := Lib.hid (drawRateFirst_any n c a B w hfit hc hb hab)
    clear hb hab
    go_enter Try.func4, Try.ntmps4
    go_wp2_with fail
    refine HD.out.mono ?_
    rintro e w1 ⟨ga, N, gc, A, L, C, Z, rfl, ⟨hN1, hN5⟩, hL, hT, hb1⟩
    have HT := Lib.hid hT
    have HL := Lib.hid (show ∀ r, r < N → L r ≤ 1048576 from fun r hr => by have := hL r hr; omega)
    have B1 := Lib.hid hb1
    clear hT hL hb1 HD
    go_wp2_with fail
    refine (rateFirst_any N gc ga A L C Z _ (by omega) HL.out HT.out).mono ?_
    rintro e w2 ⟨fa, fc, rfl, hfc, hO2, hb2⟩
    have B2 := Lib.hid hb2
    have RD2 := Lib.hid hO2.rd
    clear hO2
    clear hb2
    obtain ⟨D, hD⟩ : ∃ D, D = firstL N L Z := ⟨_, rfl⟩
    rw [← hD] at RD2 hfc ⊢
    by_cases hr : IsRates N L Z ∧ 0 < (gaining N Z).length
    · have K1 := Lib.hid (tt_of (show 0 < gainN N L Z by rw [gainN_yes hr.1]; exact hr.2))
      have hg := firstL_ring hr.1 hr.2
      rw [← hD] at hg
      have KO := Lib.hid (tt_of (show RoundOk N L Z D.length (nth D) from ⟨hr.1, hg.1⟩))
      have KV := Lib.hid (roundAns_yes (show RoundOk N L Z D.length (nth D) from ⟨hr.1, hg.1⟩))
      obtain ⟨V, hV⟩ : ∃ V, V = roundV N Z D.length (nth D) := ⟨_, rfl⟩
      obtain ⟨P, hP⟩ : ∃ P, P = p12 N := ⟨_, rfl⟩
      have hPV : P < V := by rw [hP, hV]; exact hg.2
      have hgt : ∀ i, 1 ≤ i → i < D.length → nth D 0 < nth D i := hg.1.2
      have hm2 := hg.1.1.2.1
      have hmn := hg.1.1.2.2
      have KS := Lib.hid (tt_of (show SameB D.length D.length (nth D) (nth D) from ⟨rfl, fun _ _ => rfl⟩))
      rw [← hV] at KV
      have QP := Lib.hid hP
      have QD := Lib.hid hD
      have GT := Lib.hid hgt
      rw [K1.out]
      clear hr hg hV hP hgt hD
      go_wp2_with fail
      refine (specRateFirst_any N gc ga A L C Z _ (by omega) HL.out (HT.out.below (Nat.le_refl _) B2.out)).mono ?_
      rintro e w3 ⟨ha, hc', rfl, hO3, hb3⟩
      rw [← QD.out, K1.out]
      have B3 := Lib.hid (below_chain B2.out hb3)
      rw [← QD.out] at hO3
      have RD3 := Lib.hid hO3.rd
      have RD2' := Lib.hid (RD2.out.below (Nat.le_refl _) hb3)
      clear hO3
      clear hb3
      go_wp2_with fail
      refine (sameInts_any D.length D.length fc hc' fa ha (nth D) (nth D) _ (by omega) (by omega) RD2'.out RD3.out).mono ?_
      rintro e w4 ⟨rfl, q, rfl⟩
      rw [KS.out]
      have B4 := Lib.hid (below_drewN B3.out q)
      go_wp2_with fail
      refine (rateRound_any N gc ga A L C Z D.length fc fa (nth D) _ (by omega) HL.out (HT.out.below (Nat.le_refl _) B4.out) (by omega) hfc (RD2'.out.drewN q)).mono ?_
      rintro e w5 ⟨rfl, hb5⟩
      rw [KO.out, KV.out]
      have B5 := Lib.hid (below_chain B4.out hb5)
      have RD5 := Lib.hid ((RD2'.out.drewN q).below (Nat.le_refl _) hb5)
      clear hb5
      go_wp2
      go_loopw [2, 10] (fun _ s wi => ∃ i : Nat, 1 ≤ i ∧ i ≤ D.length ∧ s = .int .i64 i ∧ ∃ q, wi = w5.drewN q) (fun _ s _ => D.length - (intOf s).toNat)
      case atStart => exact ⟨1, Nat.le_refl _, by omega, rfl, 0, rfl⟩
      case round =>
        obtain ⟨i, hi1, hi, rfl, q2, rfl⟩ := hrel
        by_cases hlt : i < D.length
        · obtain ⟨bf, of', rfl, hci⟩ := RD5.out i hlt
          obtain ⟨bf2, of2, he2, hc0⟩ := RD5.out 0 (by omega)
          simp only [Option.some.injEq, Addr.mk.injEq] at he2
          obtain ⟨rfl, rfl, -⟩ := he2
          rw [Nat.add_zero] at hc0
          have h0m : 0 < D.length := by omega
          have hdd : decide (nth D i ≤ nth D 0) = false := by have := GT.out i hi1 hlt; simp; omega
          go_wp2
          go_quiet (fail)
          go_wp2
          go_roundw
          case rel => exact ⟨i + 1, by omega, by omega, by go_num, _, by first | rfl | rw [World.drewN_drewN]⟩
          case measure => simp [intOf]; omega
        · obtain rfl : i = D.length := by omega
          have hdd : decide (P < V) = true := by simpa using hPV
          go_wp2_with (go_at_call 25; refine (power_any (N : Int) _ (by omega) (by omega)).mono ?_; rintro e w6 ⟨rfl, rfl⟩; rw [Int.toNat_natCast, ← QP.out])
          go_ret
          exact ⟨by first | rfl | simp [hdd], below_chain B1.out (below_drewN B5.out q2)⟩
    · have hr0 : gainN N L Z = 0 := by
        by_cases h : IsRates N L Z
        · rw [gainN_yes h]; have : ¬ 0 < (gaining N Z).length := fun h' => hr ⟨h, h'⟩; omega
        · exact gainN_no h
      have hD0 : D = [] := by
        rw [hD]
        by_cases h : IsRates N L Z
        · exact firstL_none h (by have : ¬ 0 < (gaining N Z).length := fun h' => hr ⟨h, h'⟩; omega)
        · exact firstL_no h
      have K1 := Lib.hid (tt_no (show ¬ 0 < gainN N L Z by omega))
      have QD := Lib.hid (show [] = firstL N L Z by rw [← hD0]; exact hD)
      subst hD0
      have KS := Lib.hid (tt_of (show SameB 0 0 (nth []) (nth []) from ⟨rfl, fun _ _ => rfl⟩))
      rw [K1.out]
      clear hr hr0 hD
      go_wp2_with fail
      refine (specRateFirst_any N gc ga A L C Z _ (by omega) HL.out (HT.out.below (Nat.le_refl _) B2.out)).mono ?_
      rintro e w3 ⟨ha, hc', rfl, hO3, hb3⟩
      rw [← QD.out, K1.out]
      have B3 := Lib.hid (below_chain B2.out hb3)
      clear hO3
      clear hb3
      go_wp2_with (go_at_call 23; refine (sameInts_any 0 0 fc hc' fa ha (nth []) (nth []) _ (by omega) (by omega) (fun k hk => absurd hk (Nat.not_lt_zero _)) (fun k hk => absurd hk (Nat.not_lt_zero _))).mono ?_; rintro e w4 ⟨rfl, q, rfl⟩; rw [KS.out])
      go_ret
      exact ⟨rfl, below_chain B1.out (by first | exact below_drewN (below_drewN B3.out _) _ | exact below_drewN B3.out _)⟩
  · have hd : 1048576 < n := by omega
    clear hb hab
    go_enter Try.func4, Try.ntmps4
    go_wp2_with fail
    go_ret
    exact ⟨rfl, Below.refl _ _⟩
end Go.Proofs.Ytakipaehoeapcaa
