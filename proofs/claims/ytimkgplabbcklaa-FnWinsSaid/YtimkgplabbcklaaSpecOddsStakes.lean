/- The model's OddsStakes. -/
import Derived.Test.YtimkgplabbcklaaL9Odds
import Derived.Test.YtimkgplabbcklaaL2Least
import Derived.Test.YtimkgplabbcklaaSeq
import Derived.Test.YtimkgplabbcklaaAppendRows
namespace Go.Proofs.Ytimkgplabbcklaa
set_option linter.unusedVariables false
set_option linter.unusedSimpArgs false
open Go.RowKit

set_option maxRecDepth 100000 in
set_option maxHeartbeats 3200000 in
theorem specOddsStakes_any (m c : Nat) (a : Option Addr) (X : Nat → Int) (w : World) (hm0 : m ≤ 1048576) (hb0 : Rd w a m X) :
    Calls Try.prog 15 #[.slice a m c] w (RetIB (tt (IsOdds m X)) (stakeN m X) (stakeF m X) w) := by
  obtain ⟨i0, hi, hz0, hz1, hz2⟩ := info_parts Try.infoInt
  have H := Lib.hid (fun W (hb : Below w.heap.size w W) => l9Odds_any m c a X W hm0 (hb0.below (Nat.le_refl _) hb))
  have O0 := Lib.hid (show (w.alloc (.cells #[] 3)).ownsRow w.heap.size 3 1 (.slice (some ⟨w.heap.size, 0, none⟩) 0 0) 0 (cellsL 0 (fun j => (lcT X m : Int) / X j)) from World.ownsRow_made w #[] 0 (Nat.le_refl _) (Nat.zero_le _) (by simp))
  have HA := Lib.hid hb0
  clear hb0
  by_cases h : IsOdds m X
  · have T1 := Lib.hid (tt_of h)
    have HX := Lib.hid h.2
    have hm6 := h.1.2
    have hm2 := h.1.1
    rw [T1.out, stakeN_yes h]
    have HR := Lib.hid (fun k (hk : k ≤ m) => lcT_range (X := X) (k := k) fun j hj => h.2 j (by omega))
    have HV := Lib.hid (fun j (hj : j < m) => show (lcT X m : Int) / X j * X j = lcT X m from share_mul (h.2 j hj).1 (lcT_dvd hj))
    clear h
    go_enter Try.func15, Try.ntmps15
    go_wp2_with (go_at_call 30; refine (H.out _ (below_alloc (Below.refl _ _) _)).mono ?_; rintro e' w1 ⟨rfl, rfl⟩; rw [T1.out])
    have B0 := Lib.hid (below_alloc (Below.refl w.heap.size w) (.cells #[] 3))
    go_loopw [5, 6] (fun l s wr => ∃ k : Nat, k ≤ m ∧ s = .int .i64 k ∧ l = .int .i64 (lcT X k : Nat) ∧ Below (w.alloc (.cells #[] 3)).heap.size (w.alloc (.cells #[] 3)) wr) (fun _ s _ => m - (intOf s).toNat)
    case atStart => exact ⟨0, Nat.zero_le _, rfl, rfl, Below.refl _ _⟩
    case round =>
      obtain ⟨k, hk, rfl, rfl, hB⟩ := hrel
      have BW := Lib.hid hB
      have BB := Lib.hid (B0.out.trans (hB.mono (by simp)))
      clear hB
      by_cases hlt : k < m
      · have hx := HX.out k hlt
        have hr := HR.out k hk
        have hr' := HR.out (k + 1) (by omega)
        have EL := Lib.hid (show lcT X (k + 1) = lcT X k / Nat.gcd (lcT X k) (X k).toNat * (X k).toNat from rfl)
        obtain ⟨ba, oa, rfl, hca⟩ := (HA.out.below (Nat.le_refl _) BB.out) k hlt
        obtain ⟨x, hxx⟩ := Int.eq_ofNat_of_zero_le (show 0 ≤ X k by omega)
        rw [hxx] at hca hx
        rw [hxx, Int.toNat_natCast] at EL
        obtain ⟨l, hl⟩ : ∃ l, l = lcT X k := ⟨_, rfl⟩
        rw [EL.out] at hr'
        rw [← hl] at EL hr hr' ⊢
        clear hl hxx
        obtain ⟨g, hg⟩ : ∃ g, g = Nat.gcd l x := ⟨_, rfl⟩
        have hgp : 0 < g := by rw [hg]; exact Nat.gcd_pos_of_pos_right _ (by omega)
        have QG := Lib.hid hg
        rw [← hg] at EL hr'
        clear hg
        have hlc : LC = 232792560 := rfl
        have hl6 : l ≤ 232792560 := by have := hr.2; omega
        have hx1 : 1 ≤ x := by omega
        have hx2 : x ≤ 20 := by omega
        have hq1 : 0 ≤ (l : Int) / (g : Int) := Int.ediv_nonneg (by omega) (by omega)
        have hq2 : (l : Int) / (g : Int) ≤ l := Int.ediv_le_self _ (by omega)
        have hp1 : 0 ≤ (l : Int) / (g : Int) * (x : Int) := Int.mul_nonneg hq1 (by omega)
        have hp2 : (l : Int) / (g : Int) * (x : Int) ≤ 232792560 * 20 := Int.mul_le_mul (by omega) (by omega) (by omega) (by omega)
        have LD := Lib.hid (fun W => (show Calls Try.prog 35 #[.int .i64 (l : Int), .int .i64 (x : Int)] W fun e w' => e = .returned (.int .i64 (g : Int)) ∧ Below W.heap.size W w' from (l2Divisor_any l x W (by omega) (by omega)).mono fun e w' ⟨h1, h2⟩ => ⟨by rw [h1, QG.out], by rw [← h2]; exact Below.refl _ _⟩))
        clear hr hr' hx
        go_wp2
        have LCE := later_cell hca
        refine wp_region_later (by kernel_rfl) (by kernel_rfl) ?_
        repeat go_big_quiet_step ((go_at_call 35; exact calls_later _ (LD.out _)))
        refine wpQuiet_nil ?_
        rintro _ ⟨r, rfl⟩
        have B2 := Lib.hid (BW.out.trans (r.h.mono BW.out.size))
        go_wp2
        go_roundw
        case rel => exact ⟨k + 1, by omega, by go_num, by rw [EL.out, Int.natCast_mul, Int.natCast_ediv], B2.out⟩
        case measure => simp [intOf]; omega
      · obtain rfl : k = m := by omega
        have O1 := Lib.hid (owns_at O0.out (BW.out.block _ (by simp)))
        have hA := HR.out k (Nat.le_refl _)
        obtain ⟨A, hAA⟩ : ∃ A, A = lcT X k := ⟨_, rfl⟩
        rw [← hAA] at hA HV O1 ⊢
        have hlc : LC = 232792560 := rfl
        have hA1 : 1 ≤ A := hA.1
        have hA2 : A ≤ 232792560 := by have := hA.2; omega
        clear hA hAA O0 HR BW
        go_wp2
        go_loopw [4, 7] (fun o s wr => ∃ (j : Nat) (v : Value), j ≤ k ∧ s = .int .i64 j ∧ v = o ∧ wr.ownsRow w.heap.size 3 1 v j (cellsL j (fun j => (A : Int) / X j)) ∧ Below w.heap.size w wr) (fun _ s _ => k - (intOf s).toNat)
        case atStart => exact ⟨0, _, Nat.zero_le _, rfl, rfl, O1.out, BB.out⟩
        case round =>
          obtain ⟨j, v, hj, rfl, rfl, hO, hB⟩ := hrel
          have HO := Lib.hid hO
          have HB := Lib.hid hB
          have hsz := hB.size
          clear hO hB O1
          by_cases hlt : j < k
          · obtain ⟨ba, oa, rfl, hca⟩ := (HA.out.below (Nat.le_refl _) HB.out) j hlt
            have hx := HX.out j hlt
            have EX := Lib.hid (cellsL_snocX (X := fun j => (A : Int) / X j) j (x := (A : Int) / X j) rfl)
            obtain ⟨x, hxx⟩ : ∃ x, x = X j := ⟨_, rfl⟩
            rw [← hxx] at hca hx EX
            have hx1 := hx.1
            have hx2 := hx.2
            clear hxx hx
            have hq1 : 0 ≤ (A : Int) / x := Int.ediv_nonneg (by omega) (by omega)
            have hq2 : (A : Int) / x ≤ A := Int.ediv_le_self _ (by omega)
            have hne1 : (x == 0) = false := by simp; omega
            have hne2 : ¬ x = 0 := by omega
            go_wp2_with (at_builtin; refine wpList_append_gen _ (by rfl) (.tmp 38) (.tmp 45) 23 (by rfl) w.heap.size 3 i0 (.int .i64 0) 8 Try.underlying23 hi hz0 hz1 hz2 (by rfl) v j _ (by rfl) (HO.out.alloc _) ⟨_, 0, none⟩ 1 1 [.int .i64 ((A : Int) / x)] (by rfl) (by rfl) (news_one (by simp)) (by simp [Value.oneCell']) (by unfold maxLen; omega) (by omega) (by simp; omega) ?_; intro v2 w5 hown2 hgrow2 hat2; have O5 := Lib.hid hown2; have B5 := Lib.hid ((below_alloc HB.out _).grown hgrow2 (by simp; omega) (fun x hx => (HO.out.lt x hx).1)); clear hown2 hgrow2 hat2)
            go_roundw
            case rel => exact ⟨j + 1, v2, by omega, by go_num, rfl, by rw [← EX.out]; exact O5.out, B5.out⟩
            case measure => simp [intOf]; omega
          · obtain rfl : j = k := by omega
            clear hj
            obtain ⟨g, cap, rfl⟩ := owns_form HO.out (by omega)
            have hgl := HO.out.lt g rfl
            have HL := Lib.hid (l2Least_any6 j cap (some ⟨g, 0, none⟩) (fun i => (A : Int) / X i) _ (by omega) hm6 (owns_rd HO.out) (fun i hi => by
              have h1 := HV.out i hi
              have h2 := HX.out i hi
              have h3 : 0 ≤ (A : Int) / X i := Int.ediv_nonneg (by omega) (by omega)
              have h4 : (A : Int) / X i ≤ A := Int.ediv_le_self _ (by omega)
              refine ⟨?_, by omega⟩
              rcases Int.lt_or_le 0 ((A : Int) / X i) with h5 | h5
              · omega
              · have h6 : (A : Int) / X i = 0 := by omega
                rw [h6, Int.zero_mul] at h1; omega))
            have EF := Lib.hid (fun i (hi : i < j) => stake_of (F := fun i => (A : Int) / X i) (A := A) (by omega) hi HX.out HV.out)
            go_wp2_with (go_at_call 36; refine HL.out.mono ?_; rintro e' w6 ⟨g6, cap6, rfl, hO6, hb6⟩; have O6 := Lib.hid hO6; have B6 := Lib.hid (HB.out.trans (hb6.mono HB.out.size)); clear hO6 hb6)
            go_ret2
            have hg6 := O6.out.lt g6 rfl
            have hB := HB.out.size
            exact ⟨_, _, rfl, .inr ⟨g6, by omega, hg6.2, (OwnR.of_owns O6.out).congr fun i hi => EF.out i hi⟩, B6.out⟩
  · have T1 := Lib.hid (tt_no h)
    rw [T1.out, stakeN_no h]
    clear h
    go_enter Try.func15, Try.ntmps15
    go_wp2_with (go_at_call 30; refine (H.out _ (below_alloc (Below.refl _ _) _)).mono ?_; rintro e' w1 ⟨rfl, rfl⟩; rw [T1.out])
    go_ret2
    exact ⟨_, _, rfl, .inl rfl, below_alloc (Below.refl _ _) _⟩
end Go.Proofs.Ytimkgplabbcklaa
