/- The model's l2Found and PriceFind. -/
import Derived.Test.YtakipaehoeapcaaGainModel
import Derived.Test.YtakipaehoeapcaaL1Steps
import Derived.Test.YtakipaehoeapcaaL2Least
import Derived.Test.YtakipaehoeapcaaMem
namespace Go.Proofs.Ytakipaehoeapcaa
set_option linter.unusedVariables false
open Go.RowKit

/-- Is it a table without a round that gains? -/
def FindOk (n : Nat) (L : Nat → Nat) (Z : Nat → Nat → Int) : Prop := IsRates n L Z ∧ (gaining n Z).length = 0
/-- How many prices there are. -/
noncomputable def findN (n : Nat) (L : Nat → Nat) (Z : Nat → Nat → Int) : Nat := if tt (FindOk n L Z) = true then n else 0
theorem findN_yes {n : Nat} {L : Nat → Nat} {Z : Nat → Nat → Int} (h : FindOk n L Z) : findN n L Z = n := by unfold findN; rw [tt_of h]; rfl
theorem findN_no {n : Nat} {L : Nat → Nat} {Z : Nat → Nat → Int} (h : ¬ FindOk n L Z) : findN n L Z = 0 := by unfold findN; rw [tt_no h]; rfl
theorem findN_le {n : Nat} {L : Nat → Nat} {Z : Nat → Nat → Int} : findN n L Z ≤ 1048576 := by
  by_cases h : FindOk n L Z
  · rw [findN_yes h]; have := h.1.1; omega
  · rw [findN_no h]; omega

set_option maxHeartbeats 1600000 in
theorem l2Found_any (n c : Nat) (a : Option Addr) (A : Nat → Option Addr) (L C : Nat → Nat) (Z : Nat → Nat → Int) (w : World) (hr : IsRates n L Z) (ha : Tab w a n A L C Z) :
    Calls Try.prog 75 #[.slice a n c] w (RetList 3 n (leastF (foundF Z n) n) w) := by
  obtain ⟨i0, hi, hz0, hz1, hz2⟩ := info_parts Try.infoInt
  have hn2 := hr.1.1
  have hn5 := hr.1.2
  have HA := Lib.hid ha
  have HR := Lib.hid hr
  have HX := Lib.hid (fun k (hk : k < n) => foundF_range hr hk)
  clear ha hr
  go_enter Try.func75, Try.ntmps75
  go_wp2
  have R0 := Lib.hid (show (w.alloc (.cells #[] 3)).ownsRow w.heap.size 3 1 (.slice (some ⟨w.heap.size, 0, none⟩) 0 0) 0 (cellsL 0 (foundF Z n)) from World.ownsRow_made w #[] 0 (Nat.le_refl _) (Nat.zero_le _) (by simp))
  go_loopw [3, 4] (fun row s wi => ∃ j : Nat, j ≤ n ∧ s = .int .i64 j ∧ ∃ rv, rv = row ∧ wi.ownsRow w.heap.size 3 1 rv j (cellsL j (foundF Z n)) ∧ Below w.heap.size w wi) (fun _ s _ => n - (intOf s).toNat)
  case atStart => exact ⟨0, Nat.zero_le _, rfl, _, rfl, R0.out, below_alloc (Below.refl _ _) _⟩
  case round =>
    obtain ⟨j, hj, rfl, rv, rfl, hown, hb⟩ := hrel
    clear R0
    by_cases hjlt : j < n
    · have HO := Lib.hid hown
      have Hb := Lib.hid hb
      have hsz := hb.size
      have h0n : 0 < n := by omega
      clear hown hb
      go_wp2_with (first
        | (go_at_call 98; refine (l1Steps_any n c j a A L C Z _ HR.out hjlt (HA.out.below (Nat.le_refl _) Hb.out)).mono ?_; rintro e w1 ⟨g1, rfl, hg1, hrow1, hb1⟩; have hc1 : w1.cell? ⟨g1, 0, none⟩ = some (.int .i64 (foundF Z n j)) := hrow1.cell (show 0 < n by omega); have B1 := Lib.hid hb1; have O1 := Lib.hid (HO.out.kept (row := none) ⟨hb1.os, hb1.tape, hb1.output, hb1.size, fun k hk _ => hb1.block k hk⟩ (by by_cases e : rv.ownBlock = none; exact .inl e; exact .inr e)); have hs1 := hb1.size; clear hrow1 hb1)
        | (at_builtin; refine wpList_append_lies _ (by rfl) (.tmp 12) (.tmp 18) 31 (by rfl) w.heap.size 3 i0 (.int .i64 0) 1 8 Try.underlying31 hi hz0 hz1 hz2 (by rfl) (by decide) rv j (cellsL j (foundF Z n)) (by rfl) (O1.out.alloc _) ⟨_, 0, none⟩ 1 1 [.int .i64 (foundF Z n j)] (by rfl) (by rfl) (news_one (by simp)) (by simp [Value.oneCell']) (by omega) (by unfold maxLen; omega) (by omega) (by simp; omega) _ rfl ?_; intro g2 cap2 w2 hown2 hgrow2 hat2 hlt2; have N2 := Lib.hid hown2; have G2 := Lib.hid hgrow2; clear hown2 hgrow2 hat2))
      go_roundw
      case rel =>
        refine ⟨j + 1, by omega, by go_num, _, rfl, ?_, ((Hb.out.trans (B1.out.mono hsz)).alloc (by omega) _).grown G2.out (by simp; omega) (fun k hk => (HO.out.lt k hk).1)⟩
        have := N2.out
        rw [cellsL_snoc] at this
        rwa [cellsL_congr (Y := foundF Z n) (fun l hl => by
          by_cases e : l < j
          · rw [if_pos e]
          · rw [if_neg e]; have : l = j := by omega
            subst this; rfl)] at this
      case measure => simp [intOf]; omega
    · obtain rfl : j = n := by omega
      obtain ⟨gr, cr, rfl⟩ := owns_form hown (by omega)
      have HO := Lib.hid (owns_rd hown)
      have Hb := Lib.hid hb
      clear hown hb
      go_wp2_with (go_at_call 99; refine (l2Least_any j cr _ (foundF Z j) _ (by omega) hn5 HO.out HX.out).mono ?_; rintro e w4 ⟨g4, cap4, rfl, hown4, hb4⟩; have O4 := Lib.hid (owns_base hown4 Hb.out.size); have B4 := Lib.hid (below_chain Hb.out hb4); clear hown4 hb4)
      go_ret
      exact ⟨g4, cap4, rfl, O4.out, B4.out⟩

set_option maxHeartbeats 1600000 in
theorem specPriceFind_cap (n c : Nat) (a : Option Addr) (A : Nat → Option Addr) (L C : Nat → Nat) (Z : Nat → Nat → Int) (w : World) (hn0 : n ≤ 1048576) (hL0 : ∀ r, r < n → L r ≤ 1048576) (ha0 : Tab w a n A L C Z) :
    Calls Try.prog 34 #[.slice a n c] w (RetID (tt (FindOk n L Z)) (findN n L Z) (leastF (foundF Z n) n) w) := by
  have H1 := Lib.hid (specRateIn_any n c a A L C Z w hn0 hL0 ha0)
  by_cases hr : IsRates n L Z
  · have H2 := Lib.hid (l1Rounds_any n c a A L C Z w hr ha0)
    have H3 := Lib.hid (fun w' (hb : Below w.heap.size w w') => l2Found_any n c a A L C Z w' hr (ha0.below (Nat.le_refl _) hb))
    have T1 := Lib.hid (tt_of hr)
    have hn2 := hr.1.1
    obtain ⟨N, hN⟩ : ∃ N, N = (gaining n Z).length := ⟨_, rfl⟩
    have QN := Lib.hid hN
    by_cases h0 : N = 0
    · have hd : decide (0 < N) = false := by simp; omega
      have T2 := Lib.hid (tt_of (show FindOk n L Z from ⟨hr, by omega⟩))
      have T3 := Lib.hid (findN_yes (show FindOk n L Z from ⟨hr, by omega⟩))
      clear hL0 ha0 hr hN h0
      go_enter Try.func34, Try.ntmps34
      go_wp2_with (first
        | (go_at_call 48; refine H1.out.mono ?_; rintro e w' ⟨rfl, rfl⟩; rw [T1.out])
        | (go_at_call 49; refine H2.out.mono ?_; rintro e w1 ⟨v, G, Cp, rfl, hM, hb⟩; rw [← QN.out] at hM; obtain ⟨ga, gc, rfl⟩ := making_len hM; have B1 := Lib.hid hb; clear hM hb)
        | (go_at_call 75; refine (H3.out _ B1.out).mono ?_; rintro e w2 ⟨g2, c2, rfl, hown, hb⟩; have O2 := Lib.hid hown; have B2 := Lib.hid hb; clear hown hb))
      go_ret2
      refine ⟨_, _, by rw [T2.out, T3.out]; rfl, by rw [T3.out]; exact (owns_cap O2.out).1, ?_, below_chain B1.out B2.out⟩
      rw [T3.out]
      exact .inr ⟨g2, Nat.le_trans B1.out.size (owns_cap O2.out).2.1, (owns_cap O2.out).2.2, OwnR.of_owns O2.out⟩
    · have hd : decide (0 < N) = true := by simp; omega
      have T2 := Lib.hid (tt_no (show ¬ FindOk n L Z from fun h => h0 (by rw [hN]; exact h.2)))
      have T3 := Lib.hid (findN_no (show ¬ FindOk n L Z from fun h => h0 (by rw [hN]; exact h.2)))
      clear hL0 ha0 hr hN h0
      go_enter Try.func34, Try.ntmps34
      go_wp2_with (first
        | (go_at_call 48; refine H1.out.mono ?_; rintro e w' ⟨rfl, rfl⟩; rw [T1.out])
        | (go_at_call 49; refine H2.out.mono ?_; rintro e w1 ⟨v, G, Cp, rfl, hM, hb⟩; rw [← QN.out] at hM; obtain ⟨ga, gc, rfl⟩ := making_len hM; have B1 := Lib.hid hb; clear hM hb))
      go_ret2
      exact ⟨_, _, by rw [T2.out, T3.out]; rfl, by rw [T3.out]; exact Nat.zero_le _, .inl T3.out, B1.out.trans ((below_alloc (Below.refl _ _) _).mono B1.out.size)⟩
  · have T1 := Lib.hid (tt_no hr)
    have T2 := Lib.hid (tt_no (show ¬ FindOk n L Z from fun h => hr h.1))
    have T3 := Lib.hid (findN_no (show ¬ FindOk n L Z from fun h => hr h.1))
    clear hL0 ha0 hr
    go_enter Try.func34, Try.ntmps34
    go_wp2_with (go_at_call 48; refine H1.out.mono ?_; rintro e w' ⟨rfl, rfl⟩; rw [T1.out])
    go_ret2
    exact ⟨_, _, by rw [T2.out, T3.out]; rfl, by rw [T3.out]; exact Nat.zero_le _, .inl T3.out, below_alloc (Below.refl _ _) _⟩
theorem specPriceFind_any (n c : Nat) (a : Option Addr) (A : Nat → Option Addr) (L C : Nat → Nat) (Z : Nat → Nat → Int) (w : World) (hn0 : n ≤ 1048576) (hL0 : ∀ r, r < n → L r ≤ 1048576) (ha0 : Tab w a n A L C Z) :
    Calls Try.prog 34 #[.slice a n c] w (RetIB (tt (FindOk n L Z)) (findN n L Z) (leastF (foundF Z n) n) w) := by
  refine (specPriceFind_cap n c a A L C Z w hn0 hL0 ha0).mono ?_
  rintro e w' ⟨b, d, he, _, hO, hb⟩
  exact ⟨b, d, he, hO, hb⟩
end Go.Proofs.Ytakipaehoeapcaa
