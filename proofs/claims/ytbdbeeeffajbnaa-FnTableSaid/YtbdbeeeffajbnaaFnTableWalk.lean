/- The walk of the law FnTable: it answers true at every code that can be read. -/
import Derived.Test.YtbdbeeeffajbnaaDrawOne
import Derived.Test.YtbdbeeeffajbnaaSpecRateIn
import Derived.Test.YtbdbeeeffajbnaaRateIn
import Derived.Test.YtbdbeeeffajbnaaRateTurn
import Derived.Test.YtbdbeeeffajbnaaRateNamed
import Derived.Test.YtbdbeeeffajbnaaSameRows
import Derived.Test.YtbdbeeeffajbnaaGrow
namespace Go.Proofs.Ytbdbeeeffajbnaa
set_option linter.unusedVariables false
open Go.RowKit

set_option maxHeartbeats 1600000 in
theorem upTo_any (n : Nat) (w : World) (hn1 : 1 ≤ n) (hn : n ≤ 5) : Calls Try.prog 19 #[.int .i64 n] w (RetList 3 n (fun k => (k : Int)) w) := by
  obtain ⟨i0, hi, hz0, hz1, hz2⟩ := info_parts Try.infoInt
  go_enter Try.func19, Try.ntmps19
  go_wp2
  have R0 := Lib.hid (show (w.alloc (.cells #[] 3)).ownsRow w.heap.size 3 1 (.slice (some ⟨w.heap.size, 0, none⟩) 0 0) 0 (cellsL 0 (fun k => (k : Int))) from World.ownsRow_made w #[] 0 (Nat.le_refl _) (Nat.zero_le _) (by simp))
  have B0 := Lib.hid (below_alloc (Below.refl w.heap.size w) (.cells #[] 3))
  go_loopw [3, 4] (fun row s wi => ∃ k : Nat, k ≤ n ∧ s = .int .i64 k ∧ ∃ rv, rv = row ∧ wi.ownsRow w.heap.size 3 1 rv k (cellsL k (fun j => (j : Int))) ∧ Below w.heap.size w wi) (fun _ s _ => n - (intOf s).toNat)
  case atStart => exact ⟨0, Nat.zero_le _, rfl, _, rfl, R0.out, B0.out⟩
  case round =>
    obtain ⟨k, hk, rfl, rv, rfl, hown, hBu⟩ := hrel
    clear R0 B0
    have hsz := hBu.size
    by_cases hlt : k < n
    · have HO := Lib.hid hown
      have HU := Lib.hid hBu
      clear hown hBu
      go_wp2_with (at_builtin; refine wpList_append_lies _ (by rfl) (.tmp 11) (.tmp 13) 29 (by rfl) w.heap.size 3 i0 (.int .i64 0) 1 8 Try.underlying29 hi hz0 hz1 hz2 (by rfl) (by decide) rv k (cellsL k (fun j => (j : Int))) (by rfl) (HO.out.alloc _) ⟨_, 0, none⟩ 1 1 [.int .i64 k] (by rfl) (by rfl) (news_one (by simp)) (by simp [Value.oneCell']) (by omega) (by unfold maxLen; omega) (by omega) (by first | omega | (simp; omega)) _ rfl ?_; intro g2 cap2 w2 hown2 hgrow2 hat2 hlt2; have N2 := Lib.hid hown2; have G2 := Lib.hid hgrow2; clear hown2 hgrow2 hat2)
      go_roundw
      case rel =>
        refine ⟨k + 1, by omega, by go_num, _, rfl, ?_, (below_alloc HU.out _).grown G2.out (by simp; omega) (fun k hk => (HO.out.lt k hk).1)⟩
        have h := N2.out
        rw [cellsL_snoc, cellsL_congr (Y := fun j => (j : Int)) (fun j hj => by
          by_cases e : j < k
          · simp [e]
          · have : j = k := by omega
            subst this; simp)] at h
        exact h
      case measure => simp [intOf]; omega
    · obtain rfl : k = n := by omega
      obtain ⟨gr, cr, rfl⟩ := owns_form hown (by omega)
      have HO := Lib.hid hown
      have HU := Lib.hid hBu
      clear hown hBu
      go_wp2
      go_ret
      exact ⟨gr, cr, rfl, HO.out, HU.out⟩

theorem rates_diff (n : Nat) : IsDiff n n (fun k => (k : Int)) :=
  ⟨fun i hi => ⟨by show (0 : Int) ≤ (i : Int); omega, by show (i : Int) < (n : Int); omega⟩, fun i j hij hj h => by have : (i : Int) = (j : Int) := h; omega⟩
theorem named_same {n : Nat} {L : Nat → Nat} {Z : Nat → Nat → Int} (h : IsRates n L Z) : SameT n n (fun _ => n) L (namedX n Z (fun k => (k : Int))) Z :=
  ⟨rfl, fun r hr => ⟨((h.2 r hr).1).symm, fun s hs => by
    have h1 : ((invF (fun k => (k : Int)) n r : Nat) : Int) = r := ((rates_diff n).inv hr).2
    have h2 : ((invF (fun k => (k : Int)) n s : Nat) : Int) = s := ((rates_diff n).inv (show s < n from hs)).2
    have e1 : invF (fun k => (k : Int)) n r = r := by omega
    have e2 : invF (fun k => (k : Int)) n s = s := by omega
    unfold namedX
    rw [e1, e2]⟩⟩
theorem turned_rates {n : Nat} {L : Nat → Nat} {Z : Nat → Nat → Int} (h : IsRates n L Z) : IsRates n (fun _ => n) (turnX Z) :=
  ⟨h.1, fun i hi => ⟨rfl, fun k hk => ⟨((h.2 k hk).2 i hi).1, fun e => by subst e; exact ((h.2 i hi).2 i hi).2 rfl⟩⟩⟩

set_option maxHeartbeats 3200000 in
theorem fnTable_walk (n c : Nat) (a : Option Addr) (B : Nat → Nat) (w : World) (hc : n ≤ c) (hb : RdB w a n B) (hab : 0 < n → ∀ b o, a = some ⟨b, o, none⟩ → b < w.heap.size) :
    Calls Try.prog 3 #[.slice a n c] w fun e w' => e = .returned (.bool true) ∧ Below w.heap.size w w' := by
  by_cases hfit : n ≤ 1048576
  · have hd : ¬ (1048576 < n) := by omega
    have HD := Lib.hid (drawRateIn_any n c a B w hfit hc hb hab)
    clear hb hab
    go_enter Try.func3, Try.ntmps3
    go_wp2_with fail
    refine HD.out.mono ?_
    rintro e w1 ⟨ga, N, gc, A, L, C, Z, rfl, ⟨hN1, hN5⟩, hL, hT, hb1⟩
    have HT := Lib.hid hT
    have HL := Lib.hid (show ∀ r, r < N → L r ≤ 1048576 from fun r hr => by have := hL r hr; omega)
    have HM := Lib.hid (show ∀ r, r < N → L r ≤ 9223372036854775807 from fun r hr => by have := hL r hr; omega)
    have B1 := Lib.hid hb1
    clear hT hL hb1 HD
    go_wp2_with fail
    refine (rateIn_any N gc ga A L C Z _ (by omega) HL.out HT.out).mono ?_
    rintro e w2 ⟨rfl, hb2⟩
    have B2 := Lib.hid hb2
    clear hb2
    by_cases hr : IsRates N L Z
    · have K1 := Lib.hid (tt_of hr)
      have KT1 := Lib.hid (turnN_yes hr)
      have KR := Lib.hid (tt_of (turned_rates hr))
      have KO := Lib.hid (tt_of (show NamedOk N N L Z (fun k => (k : Int)) from ⟨hr, rfl, rates_diff N⟩))
      have KN := Lib.hid (namedN_yes (show NamedOk N N L Z (fun k => (k : Int)) from ⟨hr, rfl, rates_diff N⟩))
      have KS := Lib.hid (tt_of (named_same hr))
      rw [K1.out]
      clear hr
      go_wp2_with fail
      refine (specRateIn_any N gc ga A L C Z _ (by omega) HL.out (HT.out.below (Nat.le_refl _) B2.out)).mono ?_
      rintro e w3 ⟨rfl, rfl⟩
      rw [K1.out]
      go_wp2_with fail
      refine (rateTurn_any N gc ga A L C Z _ (by omega) HL.out (HT.out.below (Nat.le_refl _) B2.out)).mono ?_
      rintro e w4 ⟨ta, tc, tA, tC, rfl, hO4, hb4⟩
      rw [KT1.out] at hO4 ⊢
      rw [K1.out]
      have T4 := Lib.hid hO4.tab
      have B4 := Lib.hid (below_chain B2.out hb4)
      clear hO4 hb4
      go_wp2_with fail
      refine (upTo_any N _ hN1 hN5).mono ?_
      rintro e w5 ⟨g5, c5, rfl, hO5, hb5⟩
      have R5 := Lib.hid (owns_rd hO5)
      have hcap := (owns_cap hO5).1
      have T5 := Lib.hid (T4.out.below (Nat.le_refl _) hb5)
      have B5 := Lib.hid (below_chain B4.out hb5)
      clear hO5 hb5
      go_wp2_with fail
      refine (rateNamed_any N gc N c5 ga _ A L C Z _ _ (by omega) HL.out (HT.out.below (Nat.le_refl _) B5.out) (by omega) hcap R5.out).mono ?_
      rintro e w6 ⟨xa, xc, xA, xC, rfl, hO6, hb6⟩
      rw [KN.out] at hO6 ⊢
      rw [KO.out]
      have X6 := Lib.hid hO6.tab
      have T6 := Lib.hid (T5.out.below (Nat.le_refl _) hb6)
      have B6 := Lib.hid (below_chain B5.out hb6)
      clear hO6 hb6
      go_wp2_with fail
      refine (rateIn_any N tc ta _ _ _ _ _ (by omega) (fun _ _ => by show N ≤ _; omega) T6.out).mono ?_
      rintro e w7 ⟨rfl, hb7⟩
      rw [KR.out]
      have X7 := Lib.hid (X6.out.below (Nat.le_refl _) hb7)
      have B7 := Lib.hid (below_chain B6.out hb7)
      clear hb7
      go_wp2_with fail
      refine (sameRows_any N N xc gc xa ga _ _ _ _ _ _ _ _ _ (by omega) (by omega) (fun _ _ => by show N ≤ _; omega) HM.out X7.out (HT.out.below (Nat.le_refl _) B7.out)).mono ?_
      rintro e w8 ⟨rfl, q8, rfl⟩
      rw [KS.out]
      go_wp2
      go_ret
      exact ⟨rfl, below_chain B1.out (below_chain B7.out (below_drewN (Below.refl _ _) q8))⟩
    · have K1 := Lib.hid (tt_no hr)
      rw [K1.out]
      clear hr
      go_wp2_with fail
      refine (specRateIn_any N gc ga A L C Z _ (by omega) HL.out (HT.out.below (Nat.le_refl _) B2.out)).mono ?_
      rintro e w3 ⟨rfl, rfl⟩
      rw [K1.out]
      go_wp2
      go_ret
      exact ⟨rfl, below_chain B1.out B2.out⟩
  · have hd : 1048576 < n := by omega
    clear hb hab
    go_enter Try.func3, Try.ntmps3
    go_wp2_with fail
    go_ret
    exact ⟨rfl, Below.refl _ _⟩
end Go.Proofs.Ytbdbeeeffajbnaa
