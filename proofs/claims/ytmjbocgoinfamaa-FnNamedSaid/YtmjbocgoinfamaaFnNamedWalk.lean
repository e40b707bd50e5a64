/- The walk of the law FnNamed: it answers true at every code that can be read. -/
import Derived.Test.YtmjbocgoinfamaaDrawRateNamed
import Derived.Test.YtmjbocgoinfamaaRateNamed
import Derived.Test.YtmjbocgoinfamaaSpecRateNamed
import Derived.Test.YtmjbocgoinfamaaSameRows
import Derived.Test.YtmjbocgoinfamaaRateBest
import Derived.Test.YtmjbocgoinfamaaRateRounds
import Derived.Test.YtmjbocgoinfamaaNamedBest
namespace Go.Proofs.Ytmjbocgoinfamaa
set_option linter.unusedVariables false
set_option linter.unusedSimpArgs false
open Go.RowKit

theorem same_named {n : Nat} {L : Nat → Nat} {Z : Nat → Nat → Int} : SameT n n L L Z Z := ⟨rfl, fun r hr => ⟨rfl, fun _ _ => rfl⟩⟩

set_option maxHeartbeats 3200000 in
theorem fnNamed_walk (n c : Nat) (a : Option Addr) (B : Nat → Nat) (w : World) (hc : n ≤ c) (hb : RdB w a n B) (hab : 0 < n → ∀ b o, a = some ⟨b, o, none⟩ → b < w.heap.size) :
    Calls Try.prog 9 #[.slice a n c] w fun e w' => e = .returned (.bool true) ∧ Below w.heap.size w w' := by
  by_cases hfit : n ≤ 1048576
  · have hd : ¬ (1048576 < n) := by omega
    have HD := Lib.hid (drawRateNamed_any n c a B w hfit hc hb hab)
    clear hb hab
    go_enter Try.func9, Try.ntmps9
    go_wp2_with fail
    refine HD.out.mono ?_
    rintro e w1 ⟨ga, N, gc, A, L, C, Z, g, m, cap, X, rfl, ⟨hN1, hN5, hcap, hm6⟩, hL, hT, hX, hb1⟩
    have HT := Lib.hid hT
    have HX := Lib.hid hX
    have HL := Lib.hid (show ∀ r, r < N → L r ≤ 1048576 from fun r hr => by have := hL r hr; omega)
    have B1 := Lib.hid hb1
    clear hT hX hL hb1 HD
    by_cases hok : NamedOk N m L Z X
    · have K1 := Lib.hid (tt_of hok)
      have KN := Lib.hid (namedN_yes hok)
      have KR := Lib.hid (tt_of hok.1)
      have KX := Lib.hid (tt_of (named_rates hok))
      have KE := Lib.hid (tt_of (same_named (n := N) (L := fun _ => N) (Z := namedX N Z X)))
      have KA := Lib.hid (tt_of (named_two hok))
      have KB := Lib.hid (tt_of (zero_two hok))
      have hm : m = N := hok.2.1
      have hN2 := hok.1.1.1
      have H0 := Lib.hid (hok.2.2.1 0 (by omega))
      have H1 := Lib.hid (hok.2.2.1 1 (by omega))
      obtain ⟨V, hV⟩ : ∃ V, V = bestAns N L Z 0 1 := ⟨_, rfl⟩
      obtain ⟨G, hG⟩ : ∃ G, G = gainN N L Z := ⟨_, rfl⟩
      have KV := Lib.hid hV
      have KG := Lib.hid hG
      have KW := Lib.hid (show bestAns N (fun _ => N) (namedX N Z X) (X 0) (X 1) = V by rw [hV]; exact named_best hok)
      have KH := Lib.hid (show gainN N (fun _ => N) (namedX N Z X) = G by rw [hG]; exact named_gain hok)
      have hm1 : 1 < m := by omega
      have hm0 : 0 < m := by omega
      have hi0 : (0 : Int) < (m : Int) := by omega
      have hi1 : (1 : Int) < (m : Int) := by omega
      clear hok hV hG hm
      go_wp2_with fail
      refine (rateNamed_any N gc m cap ga _ A L C Z X _ (by omega) HL.out HT.out (by omega) hcap HX.out).mono ?_
      rintro e w2 ⟨ta, tc, tA, tC, rfl, hO2, hb2⟩
      rw [K1.out]
      have B2 := Lib.hid hb2
      rw [KN.out] at hO2 ⊢
      have T2 := Lib.hid hO2.tab
      clear hO2
      clear hb2
      go_wp2_with fail
      refine (specRateNamed_any N gc m cap ga _ A L C Z X _ (by omega) HL.out (HT.out.below (Nat.le_refl _) B2.out) (by omega) (HX.out.below (Nat.le_refl _) B2.out)).mono ?_
      rintro e w3 ⟨sa, sc, sA, sC, rfl, hO3, hb3⟩
      rw [K1.out]
      have B3 := Lib.hid (below_chain B2.out hb3)
      rw [KN.out] at hO3 ⊢
      have S3 := Lib.hid hO3.tab
      clear hO3
      have T3 := Lib.hid (T2.out.below (Nat.le_refl _) hb3)
      clear hb3
      go_wp2_with fail
      refine (sameRows_any N N tc sc ta sa _ _ _ _ _ _ _ _ _ (by omega) (by omega) (fun _ _ => by show N ≤ _; omega) (fun _ _ => by show N ≤ _; omega) T3.out S3.out).mono ?_
      rintro e w4 ⟨rfl, q3, rfl⟩
      rw [KE.out]
      have hb4 := below_drewN (Below.refl w3.heap.size w3) q3
      obtain ⟨w4, hw4⟩ : ∃ w4, w4 = w3.drewN q3 := ⟨_, rfl⟩
      rw [← hw4] at hb4 ⊢
      have B4 := Lib.hid (below_chain B3.out hb4)
      have T4 := Lib.hid (T3.out.below (Nat.le_refl _) hb4)
      clear hb4 hw4
      have RX4 := Lib.hid (HX.out.below (Nat.le_refl _) B4.out)
      have hc0 : ∀ r : Later w4, r.W.cell? ⟨g, 0, none⟩ = some (.int .i64 (X 0)) := fun r => by
        obtain ⟨b', o', he, hc⟩ := RX4.out 0 hm0
        simp only [Option.some.injEq, Addr.mk.injEq, and_true] at he
        obtain ⟨rfl, rfl⟩ := he
        exact later_cell hc r
      have hc1 : ∀ r : Later w4, r.W.cell? ⟨g, 1, none⟩ = some (.int .i64 (X 1)) := fun r => by
        obtain ⟨b', o', he, hc⟩ := RX4.out 1 hm1
        simp only [Option.some.injEq, Addr.mk.injEq, and_true] at he
        obtain ⟨rfl, rfl⟩ := he
        exact later_cell hc r
      have IX := Lib.hid (show ∀ r : Later w4, Calls Try.prog 16 #[.slice ta N tc, .int .i64 (X 0), .int .i64 (X 1)] r.W fun e w' => e = .returned (.tuple #[.int .i64 V, .bool true]) ∧ Below r.W.heap.size r.W w' from fun r => by
        have h0 := H0.out
        have h1 := H1.out
        refine (rateBest_any N tc ta tA _ _ _ (X 0) (X 1) _ (by omega) (fun _ _ => by show N ≤ _; omega) (T4.out.below (Nat.le_refl _) r.h) ⟨by omega, by omega⟩ ⟨by omega, by omega⟩).mono ?_
        rintro e w' ⟨rfl, h⟩
        exact ⟨by rw [KA.out, KW.out], h⟩)
      go_wp2
      refine wp_region_later (by kernel_rfl) (by kernel_rfl) ?_
      repeat go_big_quiet_step ((go_at_call 16; exact calls_later _ (IX.out _)))
      refine wpQuiet_nil ?_
      rintro _ ⟨r, rfl⟩
      have hb5 := r.h
      obtain ⟨w5, hw5⟩ : ∃ w5, w5 = r.W := ⟨_, rfl⟩
      rw [← hw5] at hb5 ⊢
      have B5 := Lib.hid (below_chain B4.out hb5)
      have T5 := Lib.hid (T4.out.below (Nat.le_refl _) hb5)
      clear hb5 hw5 hc0 hc1 IX
      go_wp2_with fail
      refine (rateBest_any N gc ga A L C Z 0 1 _ (by omega) HL.out (HT.out.below (Nat.le_refl _) B5.out) ⟨by omega, by omega⟩ ⟨by omega, by omega⟩).mono ?_
      rintro e w6 ⟨rfl, hb6⟩
      rw [KB.out, ← KV.out]
      have B6 := Lib.hid (below_chain B5.out hb6)
      have T6 := Lib.hid (T5.out.below (Nat.le_refl _) hb6)
      clear hb6
      go_wp2_with fail
      refine (rateRounds_any N tc ta tA _ _ _ _ (by omega) (fun _ _ => by show N ≤ _; omega) T6.out).mono ?_
      rintro e w7 ⟨rfl, hb7⟩
      rw [KX.out, KH.out]
      have B7 := Lib.hid (below_chain B6.out hb7)
      clear hb7
      go_wp2_with fail
      refine (rateRounds_any N gc ga A L C Z _ (by omega) HL.out (HT.out.below (Nat.le_refl _) B7.out)).mono ?_
      rintro e w8 ⟨rfl, hb8⟩
      rw [KR.out, ← KG.out]
      have B8 := Lib.hid (below_chain B7.out hb8)
      clear hb8
      go_wp2
      go_ret
      exact ⟨by first | rfl | simp, below_chain B1.out B8.out⟩
    · have K1 := Lib.hid (tt_no hok)
      have KN := Lib.hid (namedN_no hok)
      have KE := Lib.hid (tt_of (same_named (n := 0) (L := fun _ => N) (Z := namedX N Z X)))
      clear hok
      go_wp2_with fail
      refine (rateNamed_any N gc m cap ga _ A L C Z X _ (by omega) HL.out HT.out (by omega) hcap HX.out).mono ?_
      rintro e w2 ⟨ta, tc, tA, tC, rfl, hO2, hb2⟩
      rw [K1.out]
      have B2 := Lib.hid hb2
      rw [KN.out] at hO2 ⊢
      have T2 := Lib.hid hO2.tab
      clear hO2
      clear hb2
      go_wp2_with fail
      refine (specRateNamed_any N gc m cap ga _ A L C Z X _ (by omega) HL.out (HT.out.below (Nat.le_refl _) B2.out) (by omega) (HX.out.below (Nat.le_refl _) B2.out)).mono ?_
      rintro e w3 ⟨sa, sc, sA, sC, rfl, hO3, hb3⟩
      rw [K1.out]
      have B3 := Lib.hid (below_chain B2.out hb3)
      rw [KN.out] at hO3 ⊢
      have S3 := Lib.hid hO3.tab
      clear hO3
      have T3 := Lib.hid (T2.out.below (Nat.le_refl _) hb3)
      clear hb3
      go_wp2_with fail
      refine (sameRows_any 0 0 tc sc ta sa _ _ _ _ _ _ _ _ _ (by omega) (by omega) (fun _ _ => by show N ≤ _; omega) (fun _ _ => by show N ≤ _; omega) T3.out S3.out).mono ?_
      rintro e w4 ⟨rfl, q3, rfl⟩
      rw [KE.out]
      have hb4 := below_drewN (Below.refl w3.heap.size w3) q3
      have B4 := Lib.hid (below_chain B3.out hb4)
      have T4 := Lib.hid (T3.out.below (Nat.le_refl _) hb4)
      have S4 := Lib.hid (S3.out.below (Nat.le_refl _) hb4)
      clear hb4
      go_wp2_with fail
      refine (sameRows_any 0 0 tc sc ta sa _ _ _ _ _ _ _ _ _ (by omega) (by omega) (fun _ _ => by show N ≤ _; omega) (fun _ _ => by show N ≤ _; omega) T4.out S4.out).mono ?_
      rintro e w5 ⟨rfl, q4, rfl⟩
      rw [KE.out]
      go_wp2
      go_ret
      exact ⟨by simp, below_chain B1.out (below_chain B3.out (below_drewN (Below.refl _ _) (q3 + q4)))⟩
  · have hd : 1048576 < n := by omega
    clear hb hab
    go_enter Try.func9, Try.ntmps9
    go_wp2_with fail
    go_ret
    exact ⟨rfl, Below.refl _ _⟩
end Go.Proofs.Ytmjbocgoinfamaa
