/- The model's PriceOf. -/
import Derived.Test.YtbdbeeeffajbnaaSpecRateFair
import Derived.Test.YtbdbeeeffajbnaaL2Least
import Derived.Test.YtbdbeeeffajbnaaOfModel
namespace Go.Proofs.Ytbdbeeeffajbnaa
set_option linter.unusedVariables false
open Go.RowKit

/-- What a call hands back: a row of its own with its room, and whether. -/
def RetID (ok : Bool) (n : Nat) (X : Nat → Int) (w : World) (e : Ending) (w' : World) : Prop :=
  ∃ a c, e = .returned (.tuple #[.slice a n c, .bool ok]) ∧ n ≤ c ∧ OwnI w' w.heap.size w'.heap.size a n X ∧ Below w.heap.size w w'

set_option maxHeartbeats 3200000 in
theorem specPriceOf_cap (n c : Nat) (a : Option Addr) (A : Nat → Option Addr) (L C : Nat → Nat) (Z : Nat → Nat → Int) (w : World) (hn0 : n ≤ 1048576) (hL0 : ∀ r, r < n → L r ≤ 1048576) (ha0 : Tab w a n A L C Z) :
    Calls Try.prog 38 #[.slice a n c] w (RetID (tt (FairOk n L Z)) (ofN n L Z) (leastF (colF Z) n) w) := by
  obtain ⟨i0, hi, hz0, hz1, hz2⟩ := info_parts Try.infoInt
  have H1 := Lib.hid (specRateIn_any n c a A L C Z w hn0 hL0 ha0)
  have H2 := Lib.hid (specRateFair_any n c a A L C Z w hn0 hL0 ha0)
  have HA := Lib.hid ha0
  clear hL0 ha0
  by_cases hr : IsRates n L Z
  · have T1 := Lib.hid (tt_of hr)
    have HR := Lib.hid hr
    have HX := Lib.hid (show ∀ k, k < n → 1 ≤ colF Z k ∧ colF Z k ≤ 1000000000000000000 from fun k hk => by have := col_range hr k hk; omega)
    have hn2 := hr.1.1
    have hn5 := hr.1.2
    by_cases hm : FairOk n L Z
    · have TF := Lib.hid (tt_of hm)
      have T3 := Lib.hid (ofN_yes hm)
      clear hm hr
      go_enter Try.func38, Try.ntmps38
      go_wp2_with (first
        | (go_at_call 16; refine H1.out.mono ?_; rintro e w' ⟨rfl, rfl⟩; rw [T1.out])
        | (go_at_call 41; refine H2.out.mono ?_; rintro e w1 ⟨rfl, hb1⟩; rw [TF.out]; have B1 := Lib.hid hb1; clear hb1))
      have R0 := Lib.hid (show (w1.alloc (.cells #[] 3)).ownsRow w1.heap.size 3 1 (.slice (some ⟨w1.heap.size, 0, none⟩) 0 0) 0 (cellsL 0 (colF Z)) from World.ownsRow_made w1 #[] 0 (Nat.le_refl _) (Nat.zero_le _) (by simp))
      go_loopw [4, 5] (fun row s wi => ∃ j : Nat, j ≤ n ∧ s = .int .i64 j ∧ ∃ rv, rv = row ∧ wi.ownsRow w1.heap.size 3 1 rv j (cellsL j (colF Z)) ∧ Below w1.heap.size w1 wi) (fun _ s _ => n - (intOf s).toNat)
      case atStart => exact ⟨0, Nat.zero_le _, rfl, _, rfl, R0.out, below_alloc (Below.refl _ _) _⟩
      case round =>
        obtain ⟨j, hj, rfl, rv, rfl, hown, hb⟩ := hrel
        clear R0
        by_cases hjlt : j < n
        · obtain ⟨ba, oa, rfl, hca, hra⟩ := (HA.out.below (Nat.le_refl _) (below_chain B1.out hb)) j hjlt
          have hLj : 0 < L j := by have := (HR.out.2 j hjlt).1; omega
          obtain ⟨bc, oc, hAj, hcc⟩ := hra 0 hLj
          rw [hAj] at hca
          rw [Nat.add_zero] at hcc
          have HO := Lib.hid hown
          have Hb := Lib.hid hb
          have hsz := hb.size
          clear hown hb hra hAj
          go_wp2_with (at_builtin; refine wpList_append_lies _ (by rfl) (.tmp 22) (.tmp 29) 29 (by rfl) w1.heap.size 3 i0 (.int .i64 0) 1 8 Try.underlying29 hi hz0 hz1 hz2 (by rfl) (by decide) rv j (cellsL j (colF Z)) (by rfl) (HO.out.alloc _) ⟨_, 0, none⟩ 1 1 [.int .i64 (Z j 0)] (by rfl) (by rfl) (news_one (by simp)) (by simp [Value.oneCell']) (by omega) (by unfold maxLen; omega) (by omega) (by simp; omega) _ rfl ?_; intro g2 cap2 w2 hown2 hgrow2 hat2 hlt2; have N2 := Lib.hid hown2; have G2 := Lib.hid hgrow2; clear hown2 hgrow2 hat2)
          go_roundw
          case rel =>
            refine ⟨j + 1, by omega, by go_num, _, rfl, ?_, (Hb.out.alloc hsz _).grown G2.out (by simp; omega) (fun k hk => (HO.out.lt k hk).1)⟩
            have := N2.out
            rw [cellsL_snoc] at this
            rwa [cellsL_congr (Y := colF Z) (fun l hl => by
              by_cases e : l < j
              · rw [if_pos e]
              · rw [if_neg e]; have : l = j := by omega
                subst this; rfl)] at this
          case measure => simp [intOf]; omega
        · obtain rfl : j = n := by omega
          obtain ⟨gr, cr, rfl⟩ := owns_form hown (by omega)
          have HO := Lib.hid (owns_rd hown)
          have Hb := Lib.hid hb
          clear hown hb
          go_wp2_with (go_at_call 83; refine (l2Least_any j cr _ (colF Z) _ (by omega) hn5 HO.out HX.out).mono ?_; rintro e w4 ⟨g4, cap4, rfl, hown4, hb4⟩; have hlt4 := hown4.lt g4 rfl; have hcap4 := (owns_cap hown4).1; have HO4 := Lib.hid (OwnR.of_owns hown4); have B4 := Lib.hid (below_chain (below_chain B1.out Hb.out) hb4); clear hown4 hb4)
          go_ret2
          refine ⟨_, _, by rw [TF.out, T3.out]; rfl, by rw [T3.out]; exact hcap4, ?_, B4.out⟩
          rw [T3.out]
          exact .inr ⟨g4, Nat.le_trans (Nat.le_trans B1.out.size Hb.out.size) hlt4.1, hlt4.2, HO4.out⟩
    · have TF := Lib.hid (tt_no hm)
      have T3 := Lib.hid (ofN_no hm)
      clear hm hr
      go_enter Try.func38, Try.ntmps38
      go_wp2_with (first
        | (go_at_call 16; refine H1.out.mono ?_; rintro e w' ⟨rfl, rfl⟩; rw [T1.out])
        | (go_at_call 41; refine H2.out.mono ?_; rintro e w1 ⟨rfl, hb1⟩; rw [TF.out]; have B1 := Lib.hid hb1; clear hb1))
      go_ret2
      exact ⟨_, _, by rw [TF.out, T3.out]; rfl, Nat.le_of_eq T3.out, .inl T3.out, B1.out.trans ((below_alloc (Below.refl _ _) _).mono B1.out.size)⟩
  · have T1 := Lib.hid (tt_no hr)
    have T2 := Lib.hid (tt_no (show ¬ FairOk n L Z from fun h => hr h.1))
    have T3 := Lib.hid (ofN_no (show ¬ FairOk n L Z from fun h => hr h.1))
    clear hr
    go_enter Try.func38, Try.ntmps38
    go_wp2_with (go_at_call 16; refine H1.out.mono ?_; rintro e w' ⟨rfl, rfl⟩; rw [T1.out])
    go_ret2
    exact ⟨_, _, by rw [T2.out, T3.out]; rfl, Nat.le_of_eq T3.out, .inl T3.out, below_alloc (Below.refl _ _) _⟩

theorem specPriceOf_any (n c : Nat) (a : Option Addr) (A : Nat → Option Addr) (L C : Nat → Nat) (Z : Nat → Nat → Int) (w : World) (hn0 : n ≤ 1048576) (hL0 : ∀ r, r < n → L r ≤ 1048576) (ha0 : Tab w a n A L C Z) :
    Calls Try.prog 38 #[.slice a n c] w (RetIB (tt (FairOk n L Z)) (ofN n L Z) (leastF (colF Z) n) w) := by
  refine (specPriceOf_cap n c a A L C Z w hn0 hL0 ha0).mono ?_
  rintro e w' ⟨b, d, he, _, hO, hb⟩
  exact ⟨b, d, he, hO, hb⟩
end Go.Proofs.Ytbdbeeeffajbnaa
