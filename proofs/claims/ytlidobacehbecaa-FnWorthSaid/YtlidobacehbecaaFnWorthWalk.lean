/- The walk of the law FnWorth: it answers true at every code that can be read. -/
import Derived.Test.YtlidobacehbecaaDrawPriceWorth
import Derived.Test.YtlidobacehbecaaSpecPriceWorth
import Derived.Test.YtlidobacehbecaaPriceWorth
namespace Go.Proofs.Ytlidobacehbecaa
set_option linter.unusedVariables false
open Go.RowKit

/-- Is one of the first k numbers greater than 0? -/
def someB (Y : Nat → Int) : Nat → Bool
  | 0 => false
  | k + 1 => someB Y k || decide (0 < Y k)
theorem some_iff {X Y : Nat → Int} (k : Nat) (h : ∀ j, j < k → 1 ≤ X j ∧ 0 ≤ Y j) : 0 ≤ sumP X Y k ∧ (decide (0 < sumP X Y k) = someB Y k) := by
  induction k with
  | zero => exact ⟨Int.le_refl _, rfl⟩
  | succ k ih =>
    obtain ⟨h1, h2⟩ := ih (fun j hj => h j (by omega))
    obtain ⟨h3, h4⟩ := h k (by omega)
    have h5 : 0 ≤ X k * Y k := Int.mul_nonneg (by omega) h4
    refine ⟨by show 0 ≤ sumP X Y k + X k * Y k; omega, ?_⟩
    show decide (0 < sumP X Y k + X k * Y k) = (someB Y k || decide (0 < Y k))
    rw [← h2]
    by_cases hy : 0 < Y k
    · have h6 : 0 < X k * Y k := Int.mul_pos (by omega) hy
      have e1 : decide (0 < sumP X Y k + X k * Y k) = true := by simp; omega
      have e2 : decide (0 < Y k) = true := by simpa using hy
      rw [e1, e2, Bool.or_true]
    · have e0 : Y k = 0 := by omega
      have e2 : decide (0 < Y k) = false := by simpa using hy
      rw [e2, Bool.or_false, e0, Int.mul_zero, Int.add_zero]
theorem sum_twice (X Y : Nat → Int) (k : Nat) : sumP X (fun j => 2 * Y j) k = 2 * sumP X Y k := by
  induction k with
  | zero => rfl
  | succ k ih =>
    show sumP X (fun j => 2 * Y j) k + X k * (2 * Y k) = 2 * (sumP X Y k + X k * Y k)
    rw [ih, Int.mul_add, Int.mul_left_comm]

set_option maxHeartbeats 3200000 in
theorem fnWorth_walk (n c : Nat) (a : Option Addr) (B : Nat → Nat) (w : World) (hc : n ≤ c) (hb : RdB w a n B) (hab : 0 < n → ∀ b o, a = some ⟨b, o, none⟩ → b < w.heap.size) :
    Calls Try.prog 3 #[.slice a n c] w fun e w' => e = .returned (.bool true) ∧ Below w.heap.size w w' := by
  obtain ⟨i0, hi, hz0, hz1, hz2⟩ := info_parts Try.infoInt
  by_cases hfit : n ≤ 1048576
  · have hd : ¬ (1048576 < n) := by omega
    have HD := Lib.hid (drawPriceWorth_any n c a B w hfit hc hb hab)
    clear hb hab
    go_enter Try.func3, Try.ntmps3
    go_wp2_with fail
    refine HD.out.mono ?_
    rintro e w1 ⟨ga, m, gc, X, gb, m', gc', Y, rfl, ⟨⟨hm2, hm5, hmc⟩, hm5', hmc'⟩, hX, hY, hr, hb1⟩
    have HX := Lib.hid hX
    have HY := Lib.hid hY
    have HR := Lib.hid hr
    have B1 := Lib.hid hb1
    clear hX hY hr hb1 HD
    go_wp2_with fail
    refine (priceWorth_any m gc m' gc' ga gb X Y _ (by omega) hmc HX.out (by omega) hmc' HY.out).mono ?_
    rintro e w2 ⟨rfl, hb2⟩
    have B2 := Lib.hid hb2
    clear hb2
    by_cases hok : WorthOk m X m' Y
    · have W1 := Lib.hid (worthAns_yes hok)
      have W2 := Lib.hid (tt_of hok)
      have hem : m' = m := hok.1.2
      subst hem
      have hsum := sumP_le (X := X) (Y := Y) (m := m') (k := m') (fun j hj => ⟨⟨(hok.1.1.2 j hj).1, (hok.2 j hj).1⟩, (hok.2 j hj).2⟩) (Nat.le_refl _)
      have hsome := some_iff (X := X) (Y := Y) m' (fun j hj => ⟨(hok.1.1.2 j hj).1, (hok.2 j hj).2.1⟩)
      have HP := Lib.hid hok.1.1
      obtain ⟨S, hS⟩ : ∃ S, S = sumP X Y m' := ⟨_, rfl⟩
      rw [← hS] at hsum hsome
      have hs1 := hsum.1
      have hs2 := hsum.2
      have hS2 := Lib.hid hsome.2
      have QS := Lib.hid hS
      rw [W1.out, W2.out, ← hS]
      clear hok hsum hsome hS
      go_wp2_with fail
      refine (specPriceWorth_any m' gc m' gc' ga gb X Y _ (by omega) (HX.out.below (Nat.le_refl _) B2.out) (by omega) (HY.out.below (Nat.le_refl _) B2.out)).mono ?_
      rintro e w3 ⟨rfl, hb3⟩
      have B3 := Lib.hid (below_chain B2.out hb3)
      clear hb3
      rw [W1.out, W2.out, ← QS.out]
      go_wp2
      have R0 := Lib.hid (show (w3.alloc (.cells #[] 3)).ownsRow w3.heap.size 3 1 (.slice (some ⟨w3.heap.size, 0, none⟩) 0 0) 0 (cellsL 0 (fun j => 2 * Y j)) from World.ownsRow_made w3 #[] 0 (Nat.le_refl _) (Nat.zero_le _) (by simp))
      go_loopw [9, 10, 11] (fun row sm s wi => ∃ k : Nat, k ≤ m' ∧ s = .int .i64 k ∧ sm = .bool (someB Y k) ∧ ∃ rv, rv = row ∧ wi.ownsRow w3.heap.size 3 1 rv k (cellsL k (fun j => 2 * Y j)) ∧ Below w3.heap.size w3 wi) (fun _ _ s _ => m' - (intOf s).toNat)
      case atStart => exact ⟨0, Nat.zero_le _, rfl, rfl, _, rfl, R0.out, below_alloc (Below.refl _ _) _⟩
      case round =>
        obtain ⟨k, hk, rfl, rfl, rv, rfl, hown, hbw⟩ := hrel
        clear R0
        have HO := Lib.hid hown
        have Hb := Lib.hid hbw
        have hsz := hbw.size
        clear hown hbw
        by_cases hlt : k < m'
        · obtain ⟨bb, ob, rfl, hcb1⟩ := HY.out k hlt
          have hbb : bb < w1.heap.size := World.block_lt_of_cell? _ _ hcb1
          have hbb3 := B3.out.size
          have hcb := ((below_chain B3.out Hb.out).cell (p := ⟨bb, ob + k, none⟩) hbb).trans hcb1
          have hy := HR.out k hlt
          have hy1 := hy.1
          have hy2 := hy.2
          have HCA := Lib.hid (show ∀ o, (wr.alloc o).cell? ⟨bb, ob + k, none⟩ = some (.int .i64 (Y k)) from fun o => by
            rw [World.cell?_of_block (w := wr) (a := ⟨bb, ob + k, none⟩) (Below.heap_alloc _ _ _ (World.block_lt_of_cell? _ _ hcb))]; exact hcb)
          clear hy hcb1
          have hN : someB Y (k + 1) = (someB Y k || decide (0 < Y k)) := rfl
          by_cases hsB : someB Y k = true
          · rw [hsB, Bool.true_or] at hN
            rw [hsB]
            have HN := Lib.hid hN
            clear hN hsB
            go_wp2_with (at_builtin; refine wpList_append_lies _ (by rfl) (.tmp 61) (.tmp 67) 23 (by rfl) w3.heap.size 3 i0 (.int .i64 0) 1 8 Try.underlying23 hi hz0 hz1 hz2 (by rfl) (by decide) rv k (cellsL k (fun j => 2 * Y j)) (by rfl) (HO.out.alloc _) ⟨_, 0, none⟩ 1 1 [.int .i64 (2 * Y k)] (by rfl) (by rfl) (news_one (by simp)) (by simp [Value.oneCell']) (by omega) (by unfold maxLen; omega) (by omega) (by first | omega | (simp; omega)) _ rfl ?_; intro g2 cap2 w5 hown2 hgrow2 hat2 hlt2; have N2 := Lib.hid hown2; have G2 := Lib.hid hgrow2; have hcY := hgrow2.cell (a := ⟨bb, ob + k, none⟩) (v := .int .i64 (Y k)) (HCA.out _) (fun e => by have h1 := (HO.out.lt bb e.symm).1; omega); clear hown2 hgrow2 hat2)
            go_roundw
            case rel =>
              refine ⟨k + 1, by omega, by go_num, by rw [HN.out], _, rfl, ?_, (Hb.out.alloc hsz _).grown G2.out (by simp; omega) (fun k hk => (HO.out.lt k hk).1)⟩
              have := N2.out
              rw [cellsL_snoc] at this
              rwa [cellsL_congr (Y := fun j => 2 * Y j) (fun j hj => by
                by_cases e : j < k
                · rw [if_pos e]
                · rw [if_neg e]; have : j = k := by omega
                  subst this; rfl)] at this
            case measure => simp [intOf]; omega
          · have hsB' : someB Y k = false := by simpa using hsB
            rw [hsB', Bool.false_or] at hN
            rw [hsB']
            clear hsB hsB'
            by_cases hy0 : 0 < Y k
            · have hd2 : decide (0 < Y k) = true := by simpa using hy0
              rw [hd2] at hN
              have HN := Lib.hid hN
              clear hN
              go_wp2_with (at_builtin; refine wpList_append_lies _ (by rfl) (.tmp 61) (.tmp 67) 23 (by rfl) w3.heap.size 3 i0 (.int .i64 0) 1 8 Try.underlying23 hi hz0 hz1 hz2 (by rfl) (by decide) rv k (cellsL k (fun j => 2 * Y j)) (by rfl) (HO.out.alloc _) ⟨_, 0, none⟩ 1 1 [.int .i64 (2 * Y k)] (by rfl) (by rfl) (news_one (by simp)) (by simp [Value.oneCell']) (by omega) (by unfold maxLen; omega) (by omega) (by first | omega | (simp; omega)) _ rfl ?_; intro g2 cap2 w5 hown2 hgrow2 hat2 hlt2; have N2 := Lib.hid hown2; have G2 := Lib.hid hgrow2; have hcY := hgrow2.cell (a := ⟨bb, ob + k, none⟩) (v := .int .i64 (Y k)) (HCA.out _) (fun e => by have h1 := (HO.out.lt bb e.symm).1; omega); clear hown2 hgrow2 hat2)
              go_roundw
              case rel =>
                refine ⟨k + 1, by omega, by go_num, by rw [HN.out], _, rfl, ?_, (Hb.out.alloc hsz _).grown G2.out (by simp; omega) (fun k hk => (HO.out.lt k hk).1)⟩
                have := N2.out
                rw [cellsL_snoc] at this
                rwa [cellsL_congr (Y := fun j => 2 * Y j) (fun j hj => by
                  by_cases e : j < k
                  · rw [if_pos e]
                  · rw [if_neg e]; have : j = k := by omega
                    subst this; rfl)] at this
              case measure => simp [intOf]; omega
            · have hd2 : decide (0 < Y k) = false := by simpa using hy0
              rw [hd2] at hN
              have HN := Lib.hid hN
              clear hN
              go_wp2_with (at_builtin; refine wpList_append_lies _ (by rfl) (.tmp 61) (.tmp 67) 23 (by rfl) w3.heap.size 3 i0 (.int .i64 0) 1 8 Try.underlying23 hi hz0 hz1 hz2 (by rfl) (by decide) rv k (cellsL k (fun j => 2 * Y j)) (by rfl) (HO.out.alloc _) ⟨_, 0, none⟩ 1 1 [.int .i64 (2 * Y k)] (by rfl) (by rfl) (news_one (by simp)) (by simp [Value.oneCell']) (by omega) (by unfold maxLen; omega) (by omega) (by first | omega | (simp; omega)) _ rfl ?_; intro g2 cap2 w5 hown2 hgrow2 hat2 hlt2; have N2 := Lib.hid hown2; have G2 := Lib.hid hgrow2; have hcY := hgrow2.cell (a := ⟨bb, ob + k, none⟩) (v := .int .i64 (Y k)) (HCA.out _) (fun e => by have h1 := (HO.out.lt bb e.symm).1; omega); clear hown2 hgrow2 hat2)
              go_roundw
              case rel =>
                refine ⟨k + 1, by omega, by go_num, by rw [HN.out], _, rfl, ?_, (Hb.out.alloc hsz _).grown G2.out (by simp; omega) (fun k hk => (HO.out.lt k hk).1)⟩
                have := N2.out
                rw [cellsL_snoc] at this
                rwa [cellsL_congr (Y := fun j => 2 * Y j) (fun j hj => by
                  by_cases e : j < k
                  · rw [if_pos e]
                  · rw [if_neg e]; have : j = k := by omega
                    subst this; rfl)] at this
              case measure => simp [intOf]; omega
        · obtain rfl : k = m' := by omega
          obtain ⟨gr, cr, rfl⟩ := owns_form HO.out (by omega)
          have hcap := owns_cap HO.out
          have hc1 := hcap.1
          have HRow := Lib.hid (owns_rd HO.out)
          clear hcap
          go_wp2_with fail
          refine (priceWorth_any k gc k cr ga _ X (fun j => 2 * Y j) _ (by omega) hmc (HX.out.below (Nat.le_refl _) (below_chain B3.out Hb.out)) (by omega) hc1 HRow.out).mono ?_
          rintro e w6 ⟨rfl, hb6⟩
          have B6 := Lib.hid hb6
          clear hb6
          rw [← hS2.out]
          by_cases hok2 : WorthOk k X k (fun j => 2 * Y j)
          · have W3 := Lib.hid (show worthAns k X k (fun j => 2 * Y j) = 2 * S by rw [worthAns_yes hok2, sum_twice, QS.out])
            have W4 := Lib.hid (tt_of hok2)
            rw [W3.out, W4.out]
            clear hok2
            go_wp2
            all_goals
              go_ret
              exact ⟨by simp, below_chain B1.out (below_chain (below_chain B3.out Hb.out) B6.out)⟩
          · have W3 := Lib.hid (worthAns_no hok2)
            have W4 := Lib.hid (tt_no hok2)
            rw [W3.out, W4.out]
            clear hok2
            go_wp2
            all_goals
              go_ret
              exact ⟨by simp, below_chain B1.out (below_chain (below_chain B3.out Hb.out) B6.out)⟩
    · have W1 := Lib.hid (worthAns_no hok)
      have W2 := Lib.hid (tt_no hok)
      rw [W1.out, W2.out]
      clear hok
      go_wp2_with fail
      refine (specPriceWorth_any m gc m' gc' ga gb X Y _ (by omega) (HX.out.below (Nat.le_refl _) B2.out) (by omega) (HY.out.below (Nat.le_refl _) B2.out)).mono ?_
      rintro e w3 ⟨rfl, hb3⟩
      have B3 := Lib.hid (below_chain B2.out hb3)
      clear hb3
      rw [W1.out, W2.out]
      go_wp2
      go_ret
      exact ⟨rfl, below_chain B1.out B3.out⟩
  · have hd : 1048576 < n := by omega
    clear hb hab
    go_enter Try.func3, Try.ntmps3
    go_wp2_with fail
    go_ret
    exact ⟨rfl, Below.refl _ _⟩
end Go.Proofs.Ytlidobacehbecaa
