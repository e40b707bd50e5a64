/- The walk of the law FnWay: it answers true at every code that can be read. -/
import Derived.Test.YtmjbocgoinfamaaDrawRateWay
import Derived.Test.YtmjbocgoinfamaaRateWay
import Derived.Test.YtmjbocgoinfamaaSpecRateWay
import Derived.Test.YtmjbocgoinfamaaRateBest
import Derived.Test.YtmjbocgoinfamaaRateTurn
import Derived.Test.YtmjbocgoinfamaaWayBack
namespace Go.Proofs.Ytmjbocgoinfamaa
set_option linter.unusedVariables false
set_option linter.unusedSimpArgs false
open Go.RowKit

set_option maxHeartbeats 3200000 in
theorem fnWay_walk (n c : Nat) (a : Option Addr) (B : Nat → Nat) (w : World) (hc : n ≤ c) (hb : RdB w a n B) (hab : 0 < n → ∀ b o, a = some ⟨b, o, none⟩ → b < w.heap.size) :
    Calls Try.prog 3 #[.slice a n c] w fun e w' => e = .returned (.bool true) ∧ Below w.heap.size w w' := by
  by_cases hfit : n ≤ 1048576
  · have hd : ¬ (1048576 < n) := by omega
    have HD := Lib.hid (drawRateWay_any n c a B w hfit hc hb hab)
    clear hb hab
    go_enter Try.func3, Try.ntmps3
    go_wp2_with fail
    refine HD.out.mono ?_
    rintro e w1 ⟨ga, N, gc, A, L, C, Z, g, m, cap, X, rfl, ⟨hN1, hN5, hcap, hm6⟩, hL, hT, hX, hb1⟩
    have HT := Lib.hid hT
    have HX := Lib.hid hX
    have HL := Lib.hid (show ∀ r, r < N → L r ≤ 1048576 from fun r hr => by have := hL r hr; omega)
    have B1 := Lib.hid hb1
    clear hT hX hL hb1 HD
    by_cases hok : WayOk N L Z m X
    · have K1 := Lib.hid (tt_of hok)
      have KR := Lib.hid (tt_of hok.1)
      have KN := Lib.hid (turnN_yes hok.1)
      have KT := Lib.hid (tt_of (way_two hok))
      have KB := Lib.hid (tt_of (way_back_ok hok))
      have hm2 := hok.2.2.1
      have H0 := Lib.hid (hok.2.1.1 0 (by omega))
      have H1 := Lib.hid (hok.2.1.1 (m - 1) (by omega))
      obtain ⟨V, hV⟩ : ∃ V, V = wayAns N L Z m X := ⟨_, rfl⟩
      obtain ⟨S, hS⟩ : ∃ S, S = bestAns N L Z (X 0) (X (m - 1)) := ⟨_, rfl⟩
      have QV := Lib.hid hV
      have QS := Lib.hid hS
      have hle : decide (V ≤ S) = true := by rw [hV, hS]; exact decide_eq_true (way_le_best hok)
      have KV := Lib.hid (show wayAns N (fun _ => N) (turnX Z) m (fun j => X (m - 1 - j)) = V by rw [hV]; exact way_turned hok)
      obtain ⟨i0, hi, hz0, hz1, hz2⟩ := info_parts Try.infoInt
      have HI := Lib.hid hi
      have HZ0 := Lib.hid hz0
      have HZ1 := Lib.hid hz1
      have HZ2 := Lib.hid hz2
      clear hok hV hS hi hz0 hz1 hz2
      go_wp2_with fail
      refine (rateWay_any N gc m cap ga _ A L C Z X _ (by omega) HL.out HT.out (by omega) hcap HX.out).mono ?_
      rintro e w2 ⟨rfl, hb2⟩
      rw [K1.out, ← QV.out]
      have B2 := Lib.hid hb2
      clear hb2
      go_wp2_with fail
      refine (specRateWay_any N gc m cap ga _ A L C Z X _ (by omega) HL.out (HT.out.below (Nat.le_refl _) B2.out) (by omega) (HX.out.below (Nat.le_refl _) B2.out)).mono ?_
      rintro e w3 ⟨rfl, hb3⟩
      rw [K1.out, ← QV.out]
      have B3 := Lib.hid (below_chain B2.out hb3)
      clear hb3
      obtain ⟨m1, hm1⟩ : ∃ m1, m1 = m - 1 := ⟨_, rfl⟩
      have hw1 : IntKind.i64.wrap ((m : Int) - 1) = (m1 : Int) := by rw [IntWalk.i64_in _ (by omega)]; omega
      have hlt1 : m1 < m := by omega
      have hlt0 : 0 < m := by omega
      have hi1 : (0 : Int) < (m : Int) := by omega
      have hi2 : (m1 : Int) < (m : Int) := by omega
      have RX3 := Lib.hid (HX.out.below (Nat.le_refl _) B3.out)
      have hc0 : ∀ r : Later w3, r.W.cell? ⟨g, 0, none⟩ = some (.int .i64 (X 0)) := fun r => by
        obtain ⟨b', o', he, hc⟩ := RX3.out 0 hlt0
        simp only [Option.some.injEq, Addr.mk.injEq, and_true] at he
        obtain ⟨rfl, rfl⟩ := he
        exact later_cell hc r
      have hc1 : ∀ r : Later w3, r.W.cell? ⟨g, m1, none⟩ = some (.int .i64 (X m1)) := fun r => by
        obtain ⟨b', o', he, hc⟩ := RX3.out m1 hlt1
        simp only [Option.some.injEq, Addr.mk.injEq, and_true] at he
        obtain ⟨rfl, rfl⟩ := he
        rw [Nat.zero_add] at hc
        exact later_cell hc r
      have IX := Lib.hid (show ∀ r : Later w3, Calls Try.prog 16 #[.slice ga N gc, .int .i64 (X 0), .int .i64 (X m1)] r.W fun e w' => e = .returned (.tuple #[.int .i64 S, .bool true]) ∧ Below r.W.heap.size r.W w' from fun r => by
        have h0 := H0.out
        have h1 := H1.out
        rw [← hm1] at h1
        refine (rateBest_any N gc ga A L C Z (X 0) (X m1) _ (by omega) HL.out ((HT.out.below (Nat.le_refl _) B3.out).below (Nat.le_refl _) r.h) ⟨by omega, by omega⟩ ⟨by omega, by omega⟩).mono ?_
        rintro e w' ⟨rfl, h⟩
        exact ⟨by rw [hm1, KT.out, ← QS.out], h⟩)
      clear hm1
      go_wp2
      refine wp_region_later (by kernel_rfl) (by kernel_rfl) ?_
      repeat go_big_quiet_step ((go_at_call 16; exact calls_later _ (IX.out _)))
      refine wpQuiet_nil ?_
      rintro _ ⟨r, rfl⟩
      have hb4 := r.h
      obtain ⟨w4, hw4⟩ : ∃ w4, w4 = r.W := ⟨_, rfl⟩
      rw [← hw4] at hb4 ⊢
      have B4 := Lib.hid (below_chain B3.out hb4)
      clear hb4 hw4 hc0 hc1 IX hw1
      go_wp2_with fail
      refine (rateTurn_any N gc ga A L C Z _ (by omega) HL.out (HT.out.below (Nat.le_refl _) B4.out)).mono ?_
      rintro e w5 ⟨ta, tc, tA, tC, rfl, hO5, hb5⟩
      rw [KR.out]
      have B5 := Lib.hid (below_chain B4.out hb5)
      rw [KN.out] at hO5 ⊢
      have T5 := Lib.hid hO5.tab
      clear hO5
      clear hb5
      have hs15 := B5.out.size
      go_wp2
      have R0 := Lib.hid (show (w5.alloc (.cells #[] 3)).ownsRow w5.heap.size 3 1 (.slice (some ⟨w5.heap.size, 0, none⟩) 0 0) 0 (cellsL 0 (fun j => X (m - 1 - j))) from World.ownsRow_made w5 #[] 0 (Nat.le_refl _) (Nat.zero_le _) (by simp))
      go_loopw [14, 15] (fun row s wi => ∃ t : Nat, t ≤ m ∧ s = .int .i64 ((t : Int) - 1) ∧ ∃ b cb, row = .slice (some ⟨b, 0, none⟩) (m - t) cb ∧ wi.ownsRow w5.heap.size 3 1 (.slice (some ⟨b, 0, none⟩) (m - t) cb) (m - t) (cellsL (m - t) (fun j => X (m - 1 - j))) ∧ Below w5.heap.size w5 wi) (fun _ s _ => (intOf s + 1).toNat)
      case atStart => exact ⟨m, Nat.le_refl _, rfl, w5.heap.size, 0, by rw [Nat.sub_self], by rw [Nat.sub_self]; exact R0.out, below_alloc (Below.refl _ _) _⟩
      case round =>
        obtain ⟨t, ht, rfl, b, cb, rfl, hown, hbu⟩ := hrel
        clear R0
        have HO := Lib.hid hown
        have HU := Lib.hid hbu
        have hsz := hbu.size
        clear hown hbu
        cases t with
        | succ u =>
          have hul : u < m := by omega
          have hui : (u : Int) < (m : Int) := by omega
          have hu0 : (0 : Int) ≤ (u : Int) := by omega
          have hcu : wr.cell? ⟨g, u, none⟩ = some (.int .i64 (X u)) := by
            obtain ⟨b', o', he, hc⟩ := ((HX.out.below (Nat.le_refl _) B5.out)).below (Nat.le_refl _) HU.out u hul
            simp only [Option.some.injEq, Addr.mk.injEq, and_true] at he
            obtain ⟨rfl, rfl⟩ := he
            rw [Nat.zero_add] at hc
            exact hc
          obtain ⟨q, hq⟩ : ∃ q, q = m - (u + 1) := ⟨_, rfl⟩
          rw [show (((u + 1 : Nat) : Int) - 1) = (u : Int) by omega, ← hq]
          have HO' := Lib.hid (hq ▸ HO.out)
          have hqm : q ≤ 6 := by omega
          have QQ := Lib.hid hq
          clear hq HO
          go_wp2_with (at_builtin; refine wpList_append_any _ (by rfl) (.tmp 85) (.tmp 90) 24 (by rfl) w5.heap.size 3 i0 Try.underlying24 HI.out HZ0.out HZ1.out HZ2.out b q cb (cellsL q (fun j => X (m - 1 - j))) (by rfl) (HO'.out.alloc _) ⟨_, 0, none⟩ 1 1 [.int .i64 (X u)] (by rfl) (by rfl) (news_one (by simp)) (by simp [Value.oneCell']) (by omega) (by simp; omega) ?_; intro g2 cap2 w7 hown2 hgrow2; rw [cellsL_snoc] at hown2; have N2 := Lib.hid hown2; have G2 := Lib.hid hgrow2; clear hown2 hgrow2)
          go_roundw
          case rel =>
            have hq := QQ.out
            have e1 : m - u = q + 1 := by omega
            refine ⟨u, by omega, by go_num, g2, cap2, by rw [e1], ?_, (below_alloc HU.out _).grown G2.out (by simp; omega) (fun k h => by cases h; exact (owns_cap HO'.out).2.1)⟩
            rw [e1]
            have h := N2.out
            rw [cellsL_congr (Y := fun j => X (m - 1 - j)) (fun j hj => by
              by_cases e : j < q
              · rw [if_pos e]
              · rw [if_neg e, show m - 1 - j = u by omega])] at h
            exact h
          case measure => simp [intOf]
        | zero =>
          have hown := HO.out
          rw [Nat.sub_zero] at hown ⊢
          have hcb := (owns_cap hown).1
          have RB := Lib.hid (owns_rd hown)
          have B6 := Lib.hid (below_chain B5.out HU.out)
          have TT := Lib.hid (T5.out.below (Nat.le_refl _) HU.out)
          clear hown
          rw [show (((0 : Nat) : Int) - 1) = -1 by omega]
          go_wp2_with (go_at_call 14; refine (rateWay_any N tc m cb ta _ tA _ _ _ _ _ (by omega) (fun _ _ => by show N ≤ _; omega) TT.out (by omega) hcb RB.out).mono ?_; rintro e w8 ⟨rfl, hb8⟩; rw [KB.out, KV.out]; have B8 := Lib.hid (below_chain B6.out hb8); clear hb8)
          go_ret
          exact ⟨by first | rfl | simp, below_chain B1.out B8.out⟩
    · have K1 := Lib.hid (tt_no hok)
      obtain ⟨V, hV⟩ : ∃ V, V = wayAns N L Z m X := ⟨_, rfl⟩
      have QV := Lib.hid hV
      clear hok hV
      go_wp2_with fail
      refine (rateWay_any N gc m cap ga _ A L C Z X _ (by omega) HL.out HT.out (by omega) hcap HX.out).mono ?_
      rintro e w2 ⟨rfl, hb2⟩
      rw [K1.out, ← QV.out]
      have B2 := Lib.hid hb2
      clear hb2
      go_wp2_with fail
      refine (specRateWay_any N gc m cap ga _ A L C Z X _ (by omega) HL.out (HT.out.below (Nat.le_refl _) B2.out) (by omega) (HX.out.below (Nat.le_refl _) B2.out)).mono ?_
      rintro e w3 ⟨rfl, hb3⟩
      rw [K1.out, ← QV.out]
      have B3 := Lib.hid (below_chain B2.out hb3)
      clear hb3
      go_wp2
      go_ret
      exact ⟨by first | rfl | simp, below_chain B1.out B3.out⟩
  · have hd : 1048576 < n := by omega
    clear hb hab
    go_enter Try.func3, Try.ntmps3
    go_wp2_with fail
    go_ret
    exact ⟨rfl, Below.refl _ _⟩
end Go.Proofs.Ytmjbocgoinfamaa
