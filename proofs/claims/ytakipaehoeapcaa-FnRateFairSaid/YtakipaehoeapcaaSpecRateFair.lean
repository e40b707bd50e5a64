/- The model's RateFair. -/
import Derived.Test.YtakipaehoeapcaaSpecRateIn
import Derived.Test.YtakipaehoeapcaaL1Rounds
import Derived.Test.YtakipaehoeapcaaFairModel
namespace Go.Proofs.Ytakipaehoeapcaa
set_option linter.unusedVariables false
open Go.RowKit

theorem fairAll_at {n : Nat} {Z : Nat → Nat → Int} {LL : List (List Int)} (h : ∀ D, D ∈ LL → IsRing n D.length (nth D) → roundV n Z D.length (nth D) = p12 n) {k : Nat} (hk : k < LL.length) (hr : IsRing n (lenL LL k) (nthL LL k)) : roundV n Z (lenL LL k) (nthL LL k) = p12 n :=
  h (LL.getD k []) (by rw [List.getD_eq_getElem?_getD, List.getElem?_eq_getElem hk]; exact List.getElem_mem hk) hr
theorem fairAll_of {n : Nat} {Z : Nat → Nat → Int} {LL : List (List Int)} (h : ∀ k, k < LL.length → IsRing n (lenL LL k) (nthL LL k) → roundV n Z (lenL LL k) (nthL LL k) = p12 n) : ∀ D, D ∈ LL → IsRing n D.length (nth D) → roundV n Z D.length (nth D) = p12 n := by
  intro D hD hr
  obtain ⟨k, hk, e⟩ := List.mem_iff_getElem.1 hD
  have e2 : LL.getD k [] = D := by rw [List.getD_eq_getElem?_getD, List.getElem?_eq_getElem hk]; simpa using e
  have h3 := h k hk
  unfold lenL nthL at h3
  rw [e2] at h3
  exact h3 hr

set_option maxHeartbeats 1600000 in
theorem specRateFair_yes (n c : Nat) (a : Option Addr) (A : Nat → Option Addr) (L C : Nat → Nat) (Z : Nat → Nat → Int) (w : World) (hn0 : n ≤ 1048576) (hL0 : ∀ r, r < n → L r ≤ 1048576) (ha : Tab w a n A L C Z) (hr : IsRates n L Z) :
    Calls Try.prog 28 #[.slice a n c] w fun e w' => e = .returned (.bool (tt (FairOk n L Z))) ∧ Below w.heap.size w w' := by
  have hn2 := hr.1.1
  have hn5 := hr.1.2
  have H1 := Lib.hid (specRateIn_any n c a A L C Z w hn0 hL0 ha)
  have T1 := Lib.hid (tt_of hr)
  have HR := Lib.hid hr
  have HA := Lib.hid ha
  have hpos := longerAll_pos hn2
  have hM6 := Nat.le_trans (longer_le hn5 n []) (Nat.pow_le_pow_right (show 0 < 6 by omega) hn5)
  obtain ⟨LL, hLL⟩ : ∃ LL, LL = longer n n [] := ⟨_, rfl⟩
  have HLL := Lib.hid hLL
  have HT := Lib.hid (show FairOk n L Z ↔ ∀ D, D ∈ LL → IsRing n D.length (nth D) → roundV n Z D.length (nth D) = p12 n from by
    rw [hLL]; exact ⟨fun h => (fair_iff hr).2 h.2, fun h => ⟨hr, (fair_iff hr).1 h⟩⟩)
  have HAT := Lib.hid (show ∀ k, k < LL.length → Diff n (LL.getD k []) ∧ 2 ≤ (LL.getD k []).length ∧ (LL.getD k []).length ≤ n by rw [hLL]; exact fun k hk => longerAll_at hk)
  rw [← hLL] at hpos hM6
  obtain ⟨M, hM⟩ : ∃ M, M = LL.length := ⟨_, rfl⟩
  rw [← hM] at hpos hM6
  have hM7 : M ≤ 7776 := hM6
  have QM := Lib.hid hM
  clear hr ha hLL hM hM6 hL0
  go_enter Try.func28, Try.ntmps28
  go_wp2_with (first
    | (go_at_call 48; refine H1.out.mono ?_; rintro e w' ⟨rfl, rfl⟩; rw [T1.out])
    | (go_at_call 60; refine (l1LongerAll_any n hn2 hn5 _ _ _ (by simp)).mono ?_; rw [← HLL.out]; rintro e w1 ⟨va, GA, CA, rfl, hM, hb⟩; rw [← QM.out] at hM; obtain ⟨gA, capA, rfl⟩ := owns_form hM.1 hpos; have MA := Lib.hid hM; have B1 := Lib.hid ((below_alloc (Below.refl w.heap.size w) (.cells #[] 3)).trans (hb.mono (by simp))); clear hM hb))
  obtain ⟨lo, hlo⟩ : ∃ lo, lo = (w.alloc (.cells #[] 3)).heap.size := ⟨_, rfl⟩
  rw [← hlo] at MA
  clear hlo
  go_loopw [2, 4] (fun r s wr => ∃ k : Nat, k ≤ M ∧ s = .int .i64 k ∧ r = .bool false ∧ (∀ j, j < k → IsRing n (lenL LL j) (nthL LL j) → roundV n Z (lenL LL j) (nthL LL j) = p12 n) ∧
      Making 31 lo wr (.slice (some ⟨gA, 0, none⟩) M capA) M GA CA (lenL LL) (nthL LL) ∧ Below w.heap.size w wr) (fun _ s _ => M - (intOf s).toNat)
  case atStart => exact ⟨0, Nat.zero_le _, rfl, rfl, fun j hj => absurd hj (Nat.not_lt_zero _), MA.out, B1.out⟩
  case round =>
    obtain ⟨k, hk, rfl, rfl, hall, hMA, hB⟩ := hrel
    clear MA B1
    have G1 := Lib.hid hall
    clear hall
    by_cases hlt : k < M
    · have hLk : k < LL.length := by rw [← QM.out]; exact hlt
      obtain ⟨hdk, hm2, hmn⟩ := HAT.out k hLk
      have hm2' : 2 ≤ lenL LL k := hm2
      have hmn' : lenL LL k ≤ n := hmn
      have hcA := hMA.1.cells (g := gA) rfl k (.slice (some ⟨GA k, 0, none⟩) (lenL LL k) (CA k)) (by simp [hlt])
      rw [Go.WideShapes.add_plain, Nat.zero_add] at hcA
      have hgl := (hMA.1.lt gA rfl).2
      have HRd := Lib.hid (hMA.2.1 k hlt).2.2.2.rd
      have hsz := hB.size
      have HB := Lib.hid hB
      have HMA := Lib.hid hMA
      have HLk := Lib.hid hLk
      obtain ⟨P, hP⟩ : ∃ P, P = p12 n := ⟨_, rfl⟩
      obtain ⟨V, hV⟩ : ∃ V, V = roundV n Z (lenL LL k) (nthL LL k) := ⟨_, rfl⟩
      have QP := Lib.hid hP
      have QV := Lib.hid hV
      clear hB hMA hdk hm2 hmn hLk hP hV
      by_cases hw : IsRing n (lenL LL k) (nthL LL k)
      · have TR := Lib.hid (tt_of hw)
        have HW := Lib.hid hw
        clear hw
        by_cases hg : V = P
        · have hd : (V != P) = false := by simpa using hg
          have HGa := Lib.hid (show roundV n Z (lenL LL k) (nthL LL k) = p12 n by rw [← QP.out, ← QV.out]; exact hg)
          clear hg
          go_wp2_with (first
            | (go_at_call 61; refine (l1Ring_any n (lenL LL k) (CA k) _ (nthL LL k) _ (by omega) (by omega) HRd.out).mono ?_; rintro e w' ⟨rfl, q, rfl⟩; rw [TR.out])
            | (go_at_call 63; refine (l1Closed_any (lenL LL k) (CA k) _ (nthL LL k) _ (by omega) (by omega) (HRd.out.drewN q)).mono ?_; rintro e w3 ⟨g3, cap3, rfl, hown3, hb3⟩; have HO := Lib.hid (owns_rd hown3); have B3 := Lib.hid ((below_drewN (Below.refl wr.heap.size wr) q).trans hb3); clear hown3 hb3)
            | (go_at_call 62; refine (l1Value_any n c (lenL LL k + 1) cap3 a _ A L C Z (closeF (lenL LL k) (nthL LL k)) (n : Int) _ HR.out (HA.out.below (Nat.le_refl _) (HB.out.trans (B3.out.mono hsz))) HO.out (by omega) (by omega) (by omega) (by omega) (fun i _ => closeF_in HW.out.1 i)).mono ?_; rintro e w4 ⟨rfl, q2, rfl⟩; rw [show valF Z (closeF (lenL LL k) (nthL LL k)) (p12 ((n : Int) - ((lenL LL k + 1 : Nat) : Int) + 1).toNat) (lenL LL k + 1 - 1) = V from QV.out.symm])
            | (go_at_call 64; refine (l1Power_any (n : Int) _ (by omega) (by omega)).mono ?_; rintro e w5 ⟨rfl, rfl⟩; rw [Int.toNat_natCast, ← QP.out]))
          go_roundw
          case rel =>
            exact ⟨k + 1, by omega, by go_num, rfl, fun j hj => by
              by_cases e : j = k
              · subst e; exact fun _ => HGa.out
              · exact G1.out j (by omega), HMA.out.below (below_drewN B3.out q2), HB.out.trans ((below_drewN B3.out q2).mono hsz)⟩
          case measure => simp [intOf]; omega
        · have hd : (V != P) = true := by simpa using hg
          have HGa := Lib.hid (tt_no (show ¬ FairOk n L Z from fun h => hg (by rw [QP.out, QV.out]; exact fairAll_at (HT.out.1 h) HLk.out HW.out)))
          clear hg
          go_wp2_with (first
            | (go_at_call 61; refine (l1Ring_any n (lenL LL k) (CA k) _ (nthL LL k) _ (by omega) (by omega) HRd.out).mono ?_; rintro e w' ⟨rfl, q, rfl⟩; rw [TR.out])
            | (go_at_call 63; refine (l1Closed_any (lenL LL k) (CA k) _ (nthL LL k) _ (by omega) (by omega) (HRd.out.drewN q)).mono ?_; rintro e w3 ⟨g3, cap3, rfl, hown3, hb3⟩; have HO := Lib.hid (owns_rd hown3); have B3 := Lib.hid ((below_drewN (Below.refl wr.heap.size wr) q).trans hb3); clear hown3 hb3)
            | (go_at_call 62; refine (l1Value_any n c (lenL LL k + 1) cap3 a _ A L C Z (closeF (lenL LL k) (nthL LL k)) (n : Int) _ HR.out (HA.out.below (Nat.le_refl _) (HB.out.trans (B3.out.mono hsz))) HO.out (by omega) (by omega) (by omega) (by omega) (fun i _ => closeF_in HW.out.1 i)).mono ?_; rintro e w4 ⟨rfl, q2, rfl⟩; rw [show valF Z (closeF (lenL LL k) (nthL LL k)) (p12 ((n : Int) - ((lenL LL k + 1 : Nat) : Int) + 1).toNat) (lenL LL k + 1 - 1) = V from QV.out.symm])
            | (go_at_call 64; refine (l1Power_any (n : Int) _ (by omega) (by omega)).mono ?_; rintro e w5 ⟨rfl, rfl⟩; rw [Int.toNat_natCast, ← QP.out]))
          go_ret
          exact ⟨by rw [HGa.out]; rfl, HB.out.trans ((below_drewN B3.out q2).mono hsz)⟩
      · have TR := Lib.hid (tt_no hw)
        have HW := Lib.hid hw
        clear hw
        go_wp2_with (go_at_call 61; refine (l1Ring_any n (lenL LL k) (CA k) _ (nthL LL k) _ (by omega) (by omega) HRd.out).mono ?_; rintro e w' ⟨rfl, q, rfl⟩; rw [TR.out])
        go_roundw
        case rel =>
          exact ⟨k + 1, by omega, by go_num, rfl, fun j hj => by
            by_cases e : j = k
            · subst e; exact fun h => absurd h HW.out
            · exact G1.out j (by omega), HMA.out.below (below_drewN (Below.refl wr.heap.size wr) q), HB.out.trans ((below_drewN (Below.refl wr.heap.size wr) q).mono hsz)⟩
        case measure => simp [intOf]; omega
    · obtain rfl : k = M := by omega
      have HB := Lib.hid hB
      have HGa := Lib.hid (tt_of (HT.out.2 (fairAll_of (by rw [← QM.out]; exact G1.out))))
      clear hMA hB
      go_wp2
      go_ret
      exact ⟨by rw [HGa.out]; rfl, HB.out⟩

set_option maxHeartbeats 800000 in
theorem specRateFair_any (n c : Nat) (a : Option Addr) (A : Nat → Option Addr) (L C : Nat → Nat) (Z : Nat → Nat → Int) (w : World) (hn0 : n ≤ 1048576) (hL0 : ∀ r, r < n → L r ≤ 1048576) (ha0 : Tab w a n A L C Z) :
    Calls Try.prog 28 #[.slice a n c] w fun e w' => e = .returned (.bool (tt (FairOk n L Z))) ∧ Below w.heap.size w w' := by
  by_cases hr : IsRates n L Z
  · exact specRateFair_yes n c a A L C Z w hn0 hL0 ha0 hr
  · have H1 := Lib.hid (specRateIn_any n c a A L C Z w hn0 hL0 ha0)
    have T1 := Lib.hid (tt_no hr)
    have T2 := Lib.hid (tt_no (show ¬ FairOk n L Z from fun h => hr h.1))
    clear hr ha0 hL0
    go_enter Try.func28, Try.ntmps28
    go_wp2_with (go_at_call 48; refine H1.out.mono ?_; rintro e w' ⟨rfl, rfl⟩; rw [T1.out])
    go_ret
    exact ⟨by rw [T2.out]; rfl, Below.refl _ _⟩
end Go.Proofs.Ytakipaehoeapcaa
