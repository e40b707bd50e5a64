/- The walk of the law FnAll: it answers true at every code that can be read. -/
import Derived.Test.YtlncinbphgallaaDrawSwapAll
import Derived.Test.YtlncinbphgallaaSwapAll
import Derived.Test.YtlncinbphgallaaSpecSwapAll
import Derived.Test.YtlncinbphgallaaSwapMay
import Derived.Test.YtlncinbphgallaaSwapStill
import Derived.Test.YtlncinbphgallaaSameRows
import Derived.Test.YtlncinbphgallaaLater
namespace Go.Proofs.Ytlncinbphgallaa
set_option linter.unusedVariables false
set_option linter.unusedSimpArgs false
open Go.RowKit

theorem pairs_at {P : List (Nat × Nat)} {x : Nat} (h : x < P.length) : ∃ i k, (i, k) ∈ P ∧ lenL (pairsL P) x = 2 ∧ nthL (pairsL P) x 0 = (i : Nat) ∧ nthL (pairsL P) x 1 = (k : Nat) := by
  have e : (pairsL P).getD x [] = [((P[x]).1 : Int), ((P[x]).2 : Int)] := by
    rw [List.getD_eq_getElem?_getD, List.getElem?_eq_getElem (by rw [pairsL_length]; exact h)]
    simp [pairsL]
  refine ⟨(P[x]).1, (P[x]).2, List.getElem_mem h, ?_, ?_, ?_⟩
  · unfold lenL; rw [e]; rfl
  · unfold nthL; rw [e]; rfl
  · unfold nthL; rw [e]; rfl
theorem int_nil (N : Nat) : ((N : Int) == 0) = decide (N = 0) := by
  by_cases h2 : N = 0
  · subst h2; rfl
  · rw [decide_eq_false h2]; simp; exact h2

set_option maxHeartbeats 6400000 in
theorem fnAll_walk (n c : Nat) (a : Option Addr) (B : Nat → Nat) (w : World) (hc : n ≤ c) (hb : RdB w a n B) (hab : 0 < n → ∀ b o, a = some ⟨b, o, none⟩ → b < w.heap.size) :
    Calls Try.prog 11 #[.slice a n c] w fun e w' => e = .returned (.bool true) ∧ Below w.heap.size w w' := by
  by_cases hfit : n ≤ 1048576
  · have hd : ¬ (1048576 < n) := by omega
    have HD := Lib.hid (drawSwapAll_any n c a B w hfit hc hb hab)
    clear hb hab
    go_enter Try.func11, Try.ntmps11
    go_wp2_with fail
    refine HD.out.mono ?_
    rintro e w1 ⟨ga, N, gc, A, L, C, Z, b, m, d, X, rfl, ⟨⟨hN1, hN5⟩, hmd, hm6⟩, hL, hT, hX, hb1⟩
    have HT := Lib.hid hT
    have HX := Lib.hid hX
    have HL := Lib.hid (show ∀ r, r < N → L r ≤ 1048576 from fun r hr => by have := hL r hr; omega)
    have B1 := Lib.hid hb1
    clear hT hX hL hb1 HD
    by_cases hok : GivenOk N L Z m X
    · have K1 := Lib.hid (tt_of hok)
      have KN := Lib.hid (allL_yes hok)
      have HG := Lib.hid hok
      obtain ⟨LL, hLL⟩ : ∃ LL, LL = pairsL (mayL N Z X) := ⟨_, rfl⟩
      have QL := Lib.hid hLL
      have hM25 : LL.length ≤ 25 := by rw [hLL, pairsL_length]; exact mayL_le hok.1.1.2
      obtain ⟨M, hM⟩ : ∃ M, M = LL.length := ⟨_, rfl⟩
      rw [← hM] at hM25
      have QM := Lib.hid hM
      have HS := Lib.hid (show decide (M = 0) = tt (StillOk N L Z m X) from by
        rw [hM, hLL, pairsL_length]
        by_cases h2 : (mayL N Z X).length = 0
        · rw [tt_of (show StillOk N L Z m X from ⟨hok, mayL_nil.1 (List.length_eq_zero_iff.1 h2)⟩)]; exact decide_eq_true h2
        · rw [tt_no (show ¬ StillOk N L Z m X from fun h => h2 (by rw [mayL_nil.2 h.2]; rfl))]; exact decide_eq_false h2)
      have HLE := Lib.hid (show ∀ r, r < M → lenL LL r ≤ 9223372036854775807 from fun r _ => by have := pairs_two (P := mayL N Z X) r; rw [← hLL] at this; omega)
      have AT := Lib.hid (show ∀ x, x < M → ∃ i k : Nat, (i < N ∧ k < N ∧ i < k) ∧ SwapMayOk N L Z m X i k ∧ lenL LL x = 2 ∧ nthL LL x 0 = (i : Nat) ∧ nthL LL x 1 = (k : Nat) from fun x hx => by
        rw [hM, hLL, pairsL_length] at hx
        obtain ⟨i, k, h1, h2, h3, h4⟩ := pairs_at hx
        obtain ⟨g1, g2, g3⟩ := mem_mayL.1 h1
        dsimp only at g1 g2 g3
        rw [hLL]
        exact ⟨i, k, ⟨by omega, g2, g1⟩, ⟨⟨hok, ⟨by omega, by omega⟩, ⟨by omega, by omega⟩⟩, g3⟩, h2, h3, h4⟩)
      clear hok hLL hM
      go_wp2_with fail
      refine (swapAll_any N gc ga A L C Z m d b X _ (by omega) HL.out HT.out (by omega) hmd HX.out).mono ?_
      rintro e w2 ⟨a2, c2, A2, C2, rfl, hO2, hb2⟩
      rw [K1.out, KN.out, ← QL.out, ← QM.out]
      rw [KN.out, ← QL.out, ← QM.out] at hO2
      have O2 := Lib.hid hO2
      have B2 := Lib.hid hb2
      clear hO2 hb2
      go_wp2_with fail
      refine (specSwapAll_any N gc ga A L C Z m d b X _ (by omega) HL.out (HT.out.below (Nat.le_refl _) B2.out) (by omega) (HX.out.below (Nat.le_refl _) B2.out)).mono ?_
      rintro e w3 ⟨a3, c3, A3, C3, rfl, hO3, hb3⟩
      rw [K1.out, KN.out, ← QL.out, ← QM.out]
      rw [KN.out, ← QL.out, ← QM.out] at hO3
      have O3 := Lib.hid hO3
      have R2 := Lib.hid (O2.out.below (Nat.le_refl _) hb3).tab
      have B3 := Lib.hid (below_chain B2.out hb3)
      clear hO3 hb3
      go_wp2_with (go_at_call 41; refine (sameRows_any M M c2 c3 a2 a3 A2 A3 _ _ C2 C3 _ _ _ (by omega) (by omega) HLE.out HLE.out R2.out O3.out.tab).mono ?_; rintro e w4 ⟨rfl, q4, rfl⟩; rw [tt_of (show SameT M M (lenL LL) (lenL LL) (nthL LL) (nthL LL) from ⟨rfl, fun _ _ => ⟨rfl, fun _ _ => rfl⟩⟩)])
      clear O3
      go_loopw [9] (fun s wr => ∃ x : Nat, x ≤ M ∧ s = .int .i64 x ∧ Below w3.heap.size w3 wr) (fun s _ => M - (intOf s).toNat)
      case atStart => exact ⟨0, Nat.zero_le _, rfl, below_drewN (Below.refl _ _) _⟩
      case round =>
        obtain ⟨x, hx, rfl, hB⟩ := hrel
        have BR := Lib.hid (below_chain B3.out hB)
        have RR := Lib.hid (R2.out.below (Nat.le_refl _) hB)
        have BB := Lib.hid hB
        clear hB
        by_cases hlt : x < M
        · obtain ⟨i, k, ⟨hi, hk, hik⟩, hms, hl2, h0, h1⟩ := AT.out x hlt
          obtain ⟨bt, ot, rfl, hct, hrow⟩ := RR.out x hlt
          rw [hl2] at hct hrow
          obtain ⟨bi, oi, hae, hci⟩ := hrow 0 (by omega)
          obtain ⟨bi', oi', hae', hck⟩ := hrow 1 (by omega)
          rw [hae] at hae'
          simp only [Option.some.injEq, Addr.mk.injEq, and_true] at hae'
          obtain ⟨rfl, rfl⟩ := hae'
          rw [hae] at hct
          rw [h0, Nat.add_zero] at hci
          rw [h1] at hck
          have K2 := Lib.hid (tt_of hms)
          have HC := Lib.hid (fun r : Later wr => (show Calls Try.prog 19 #[.slice ga N gc, .slice b m d, .int .i64 i, .int .i64 k] r.W fun e w' => e = .returned (.bool true) ∧ Below r.W.heap.size r.W w' from by
            have hbr := below_chain BR.out r.h
            refine (swapMay_any N gc ga A L C Z m d b X i k _ (by omega) HL.out (HT.out.below (Nat.le_refl _) hbr) (by omega) hmd (HX.out.below (Nat.le_refl _) hbr) ⟨by omega, by omega⟩ ⟨by omega, by omega⟩).mono ?_
            rintro e w' ⟨rfl, hb⟩
            rw [K2.out]
            exact ⟨rfl, hb⟩))
          have c1 : ∀ r : Later wr, r.W.cell? ⟨bt, ot + x, none⟩ = some (.slice (some ⟨bi, oi, none⟩) 2 (C2 x)) := fun r => later_cell hct r
          have c2' : ∀ r : Later wr, r.W.cell? ⟨bi, oi, none⟩ = some (.int .i64 i) := fun r => later_cell hci r
          have c3' : ∀ r : Later wr, r.W.cell? ⟨bi, oi + 1, none⟩ = some (.int .i64 k) := fun r => later_cell hck r
          have i1 : (0 : Int) ≤ (x : Int) := by omega
          have i2 : (x : Int) < (M : Int) := by omega
          have d1 : decide ((k : Int) ≤ (i : Int)) = false := by simp; omega
          have d2 : decide (k ≤ i) = false := by simp; omega
          clear hct hrow hci hck hms hae h0 h1 hl2
          go_wp2
          refine wp_region_later (by kernel_rfl) (by kernel_rfl) ?_
          repeat go_big_quiet_step ((go_at_call 19; exact calls_later _ (HC.out _)))
          refine wpQuiet_nil ?_
          rintro _ ⟨r, rfl⟩
          have BL := Lib.hid (BB.out.trans (r.h.mono BB.out.size))
          clear c1 c2' c3' HC
          go_wp2
          go_roundw
          case rel => exact ⟨x + 1, by omega, by go_num, BL.out⟩
          case measure => simp [intOf]; omega
        · obtain rfl : x = M := by omega
          have HI := Lib.hid (int_nil x)
          go_wp2_with (go_at_call 31; refine (swapStill_any N gc ga A L C Z m d b X _ (by omega) HL.out (HT.out.below (Nat.le_refl _) BR.out) (by omega) hmd (HX.out.below (Nat.le_refl _) BR.out)).mono ?_; rintro e w6 ⟨rfl, hb6⟩; rw [← HS.out]; have B6 := Lib.hid (below_chain BR.out hb6); clear hb6)
          go_ret
          exact ⟨by rw [← HI.out]; first | rfl | simp, below_chain B1.out B6.out⟩
    · have K1 := Lib.hid (tt_no hok)
      have KN := Lib.hid (allL_no hok)
      clear hok
      go_wp2_with fail
      refine (swapAll_any N gc ga A L C Z m d b X _ (by omega) HL.out HT.out (by omega) hmd HX.out).mono ?_
      rintro e w2 ⟨a2, c2, A2, C2, rfl, hO2, hb2⟩
      rw [K1.out, KN.out]
      have B2 := Lib.hid hb2
      clear hO2 hb2
      go_wp2_with fail
      refine (specSwapAll_any N gc ga A L C Z m d b X _ (by omega) HL.out (HT.out.below (Nat.le_refl _) B2.out) (by omega) (HX.out.below (Nat.le_refl _) B2.out)).mono ?_
      rintro e w3 ⟨a3, c3, A3, C3, rfl, hO3, hb3⟩
      rw [K1.out, KN.out]
      have B3 := Lib.hid (below_chain B2.out hb3)
      have S := Lib.hid (show ∀ W, Calls Try.prog 41 #[.slice a2 0 c2, .slice a3 0 c3] W fun e w' => e = .returned (.bool true) ∧ ∃ q, w' = W.drewN q from fun W => by
        refine (sameRows_any 0 0 c2 c3 a2 a3 (fun _ => none) (fun _ => none) (fun _ => 0) (fun _ => 0) (fun _ => 0) (fun _ => 0) (fun _ _ => 0) (fun _ _ => 0) W (by omega) (by omega) (fun r hr => absurd hr (Nat.not_lt_zero _)) (fun r hr => absurd hr (Nat.not_lt_zero _)) (fun r hr => absurd hr (Nat.not_lt_zero _)) (fun r hr => absurd hr (Nat.not_lt_zero _))).mono ?_
        rintro e w' ⟨rfl, h⟩
        exact ⟨by rw [tt_of (show SameT 0 0 (fun _ => 0) (fun _ => 0) (fun _ _ => (0 : Int)) (fun _ _ => 0) from ⟨rfl, fun r hr => absurd hr (Nat.not_lt_zero _)⟩)], h⟩)
      clear hO3 hb3
      rw [show ([] : List (List Int)).length = 0 from rfl]
      go_wp2_with (go_at_call 41; refine (S.out _).mono ?_; rintro e w4 ⟨rfl, q4, rfl⟩)
      go_ret
      exact ⟨by first | rfl | simp, by first | exact below_drewN (below_drewN (below_chain B1.out B3.out) _) _ | exact below_drewN (below_chain B1.out B3.out) _⟩
  · have hd : 1048576 < n := by omega
    clear hb hab
    go_enter Try.func11, Try.ntmps11
    go_wp2_with fail
    go_ret
    exact ⟨rfl, Below.refl _ _⟩
end Go.Proofs.Ytlncinbphgallaa
