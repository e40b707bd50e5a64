/- The model's RateBest. -/
import Derived.Test.YtmjbocgoinfamaaL1Two
import Derived.Test.YtmjbocgoinfamaaL1Rounds
import Derived.Test.YtmjbocgoinfamaaBestModel
import Derived.Lib.MinMax
namespace Go.Proofs.Ytmjbocgoinfamaa
set_option linter.unusedVariables false
open Go.RowKit

theorem longer_at {n i : Nat} (hi : i < n) {x : Nat} (h : x < (longer n (n - 1) [(i : Int)]).length) : (longer n (n - 1) [(i : Int)]).getD x [] ∈ longer n (n - 1) [(i : Int)] := by
  rw [List.getD_eq_getElem?_getD, List.getElem?_eq_getElem h]
  exact List.getElem_mem h

set_option maxHeartbeats 3200000 in
theorem specRateBest_any (n c : Nat) (a : Option Addr) (A : Nat → Option Addr) (L C : Nat → Nat) (Z : Nat → Nat → Int) (i k : Int) (w : World) (hn0 : n ≤ 1048576) (hL0 : ∀ r, r < n → L r ≤ 1048576) (ha0 : Tab w a n A L C Z) (hx1 : I64 i) (hx2 : I64 k) :
    Calls Try.prog 29 #[.slice a n c, .int .i64 i, .int .i64 k] w fun e w' => e = .returned (.tuple #[.int .i64 (bestAns n L Z i k), .bool (tt (TwoOk n L Z i k))]) ∧ Below w.heap.size w w' := by
  have H1 := Lib.hid (l1Two_any n c a A L C Z i k w hn0 hL0 ha0)
  have HA := Lib.hid ha0
  clear hL0 ha0 hx1 hx2
  by_cases hr : TwoOk n L Z i k
  · have T1 := Lib.hid (tt_of hr)
    have T2 := Lib.hid (bestAns_yes hr)
    obtain ⟨x, hx⟩ := Int.eq_ofNat_of_zero_le hr.2.1.1
    obtain ⟨y, hy⟩ := Int.eq_ofNat_of_zero_le hr.2.2.1
    subst hx hy
    have hxn : x < n := by have := hr.2.1.2; omega
    have hyn : y < n := by have := hr.2.2.2; omega
    have hn2 := hr.1.1.1
    have hn5 := hr.1.1.2
    have HR := Lib.hid hr.1
    have hpos : 0 < (longer n (n - 1) [(x : Int)]).length := longer_pos hn2 (by have := (Diff.nil n).snoc_iff (x := x) hxn; simp at this; exact this) (by simp) (by simp; omega)
    have hM6 := Nat.le_trans (longer_le hn5 (n - 1) [(x : Int)]) (Nat.pow_le_pow_right (show 0 < 6 by omega) (show n - 1 ≤ 5 by omega))
    obtain ⟨LL, hLL⟩ : ∃ LL, LL = longer n (n - 1) [(x : Int)] := ⟨_, rfl⟩
    have HLL := Lib.hid hLL
    have HAT := Lib.hid (show ∀ j, j < LL.length → IsWay n (lenL LL j) (nthL LL j) by rw [hLL]; exact fun j hj => (ways_of hxn (longer_at hxn hj)).1)
    rw [← hLL] at hpos hM6
    obtain ⟨M, hM⟩ : ∃ M, M = LL.length := ⟨_, rfl⟩
    rw [← hM] at hpos hM6
    have hM7 : M ≤ 7776 := hM6
    have QM := Lib.hid hM
    have hd1 : Diff n [(x : Int)] := by
      have := (Diff.nil n).snoc_iff (x := x) hxn
      simp at this
      exact this
    have HL1 := Lib.hid (fun (w1 : World) (g : Nat) (hc : w1.cell? ⟨g, 0, none⟩ = some (.int .i64 x)) => l1Longer_any n hn2 hn5 (n - 1) [(x : Int)] 1 1 (some ⟨g, 0, none⟩) w1 hd1 rfl (Nat.le_refl _) (by omega) (fun j hj => ⟨g, 0, rfl, by
      have : j = 0 := by omega
      subst this
      exact hc⟩))
    rw [← hLL] at HL1
    obtain ⟨B, hB⟩ : ∃ B : Int, B = if (x : Int) = (y : Int) then p12 (n - 1) else 0 := ⟨_, rfl⟩
    have QB := Lib.hid hB
    have HP := Lib.hid (show p12 ((n : Int) - 1).toNat = p12 (n - 1) by rw [show ((n : Int) - 1).toNat = n - 1 by omega])
    clear hr hLL hM hM6 hd1 hB
    have hxy : (((x : Int) == (y : Int)) = true ∧ B = p12 (n - 1)) ∨ (((x : Int) == (y : Int)) = false ∧ B = 0) := by
      by_cases e : (x : Int) = (y : Int)
      · exact .inl ⟨by simpa using e, by rw [QB.out, if_pos e]⟩
      · exact .inr ⟨by simpa using e, by rw [QB.out, if_neg e]⟩
    rcases hxy with ⟨hq, hb0⟩ | ⟨hq, hb0⟩
    · have QB0 := Lib.hid hb0
      clear hb0
      go_enter Try.func29, Try.ntmps29
      go_wp2_with (first
        | (go_at_call 75; refine H1.out.mono ?_; rintro e w' ⟨rfl, rfl⟩; rw [T1.out])
        | (go_at_call 76; refine (l1Power_any _ _ (by omega) (by omega)).mono ?_; rintro e w' ⟨rfl, rfl⟩; rw [HP.out, ← QB0.out])
        | (go_at_call 77; refine (HL1.out _ _ (by simp)).mono ?_; rintro e w1 ⟨va, GA, CA, rfl, hM, hb⟩; rw [← QM.out] at hM; obtain ⟨gA, capA, rfl⟩ := owns_form hM.1 hpos; have MA := Lib.hid hM; have B1 := Lib.hid ((below_alloc (Below.refl w.heap.size w) (.cells #[.int .i64 x] 3)).trans (hb.mono (by simp))); clear hM hb))
      obtain ⟨lo, hlo⟩ : ∃ lo, lo = (w.alloc (.cells #[.int .i64 x] 3)).heap.size := ⟨_, rfl⟩
      rw [← hlo] at MA
      clear hlo
      go_loopw [8, 10] (fun b s wr => ∃ j : Nat, j ≤ M ∧ s = .int .i64 j ∧ b = .int .i64 (bestL n Z y B (LL.take j)) ∧ Making 24 lo wr (.slice (some ⟨gA, 0, none⟩) M capA) M GA CA (lenL LL) (nthL LL) ∧ Below w.heap.size w wr) (fun _ s _ => M - (intOf s).toNat)
      case atStart => exact ⟨0, Nat.zero_le _, rfl, rfl, MA.out, B1.out⟩
      case round =>
        obtain ⟨j, hj, rfl, rfl, hM, hB⟩ := hrel
        clear MA B1
        by_cases hlt : j < M
        · have hlt' : j < LL.length := by rw [← QM.out]; exact hlt
          have hway := HAT.out j hlt'
          have hm2 := hway.2.1
          have hmn := hway.2.2
          have hcA := hM.1.cells (g := gA) rfl j (.slice (some ⟨GA j, 0, none⟩) (lenL LL j) (CA j)) (by simp [hlt])
          rw [Go.WideShapes.add_plain, Nat.zero_add] at hcA
          have HRd := Lib.hid (hM.2.1 j hlt).2.2.2.rd
          have HW := Lib.hid (show ∀ l, l < lenL LL j → 0 ≤ nthL LL j l ∧ nthL LL j l < n from hway.1.1)
          have TK := Lib.hid (take_snoc hlt')
          obtain ⟨m, hm⟩ : ∃ m, lenL LL j = m + 1 := ⟨lenL LL j - 1, by omega⟩
          have QL := Lib.hid hm
          rw [hm] at hcA HRd HW hm2 hmn
          obtain ⟨bg, og, hbg, hcl⟩ := HRd.out m (by omega)
          simp only [Option.some.injEq, Addr.mk.injEq] at hbg
          obtain ⟨rfl, rfl, -⟩ := hbg
          rw [Nat.zero_add] at hcl
          have HM := Lib.hid hM
          have HB := Lib.hid hB
          have hsz := hB.size
          obtain ⟨BV, hBV⟩ : ∃ BV, BV = bestL n Z y B (LL.take j) := ⟨_, rfl⟩
          rw [← hBV]
          have QBV := Lib.hid hBV
          obtain ⟨ls, hls⟩ : ∃ ls, ls = nthL LL j m := ⟨_, rfl⟩
          rw [← hls] at hcl
          have QLS := Lib.hid (show nth (LL.getD j []) ((LL.getD j []).length - 1) = ls by rw [hls, show (LL.getD j []).length = m + 1 from hm]; rfl)
          clear hM hB hway hlt' hm hBV hls
          by_cases he : ls = y
          · have hq2 : (ls == (y : Int)) = true := by simpa using he
            have BY := Lib.hid (bestL_yes (n := n) (Z := Z) (b := B) (LL := LL.take j) (QLS.out.trans he))
            obtain ⟨V, hV⟩ : ∃ V, V = wayV n Z (LL.getD j []) := ⟨_, rfl⟩
            have QV := Lib.hid (show valF Z (nthL LL j) (p12 ((n : Int) - 1 - ((m + 1 : Nat) : Int) + 1).toNat) (m + 1 - 1) = V by rw [hV, ← QL.out]; rfl)
            have QV2 := Lib.hid hV
            clear he hV
            go_wp2
            go_quiet (fail)
            go_wp2_with (go_at_call 57; refine (l1Value_any n c (m + 1) (CA j) a _ A L C Z (nthL LL j) ((n : Int) - 1) _ HR.out ((HA.out.below (Nat.le_refl _) HB.out).drewN _) (HRd.out.drewN _) (by omega) (by omega) (by omega) (by omega) HW.out).mono ?_; rintro e w4 ⟨rfl, q2, rfl⟩; rw [QV.out])
            go_roundw
            case rel =>
              refine ⟨j + 1, by omega, by go_num, ?_, HM.out.below (below_drewN (Below.refl _ _) _), HB.out.trans ((below_drewN (Below.refl _ _) _).mono hsz)⟩
              rw [TK.out, BY.out, ← QBV.out, ← QV2.out]
            case measure => simp [intOf]; omega
          · have hq2 : (ls == (y : Int)) = false := by simpa using he
            have BY := Lib.hid (bestL_no (n := n) (Z := Z) (b := B) (LL := LL.take j) (fun e => he (QLS.out.symm.trans e)))
            clear he
            go_wp2
            go_quiet (fail)
            go_wp2
            go_roundw
            case rel =>
              refine ⟨j + 1, by omega, by go_num, ?_, HM.out.below (below_drewN (Below.refl _ _) _), HB.out.trans ((below_drewN (Below.refl _ _) _).mono hsz)⟩
              rw [TK.out, BY.out, ← QBV.out]
            case measure => simp [intOf]; omega
        · obtain rfl : j = M := by omega
          have HB := Lib.hid hB
          have E1 := Lib.hid (show bestL n Z y B (LL.take j) = bestAns n L Z x y by rw [T2.out, QM.out, List.take_length, ← QB.out, ← HLL.out])
          clear hM hB
          go_wp2
          go_ret2
          exact ⟨by rw [T1.out, ← E1.out]; rfl, HB.out⟩
    · have QB0 := Lib.hid hb0
      clear hb0
      go_enter Try.func29, Try.ntmps29
      go_wp2_with (first
        | (go_at_call 75; refine H1.out.mono ?_; rintro e w' ⟨rfl, rfl⟩; rw [T1.out])
        | (go_at_call 77; refine (HL1.out _ _ (by simp)).mono ?_; rintro e w1 ⟨va, GA, CA, rfl, hM, hb⟩; rw [← QM.out] at hM; obtain ⟨gA, capA, rfl⟩ := owns_form hM.1 hpos; have MA := Lib.hid hM; have B1 := Lib.hid ((below_alloc (Below.refl w.heap.size w) (.cells #[.int .i64 x] 3)).trans (hb.mono (by simp))); clear hM hb))
      obtain ⟨lo, hlo⟩ : ∃ lo, lo = (w.alloc (.cells #[.int .i64 x] 3)).heap.size := ⟨_, rfl⟩
      rw [← hlo] at MA
      clear hlo
      go_loopw [8, 10] (fun b s wr => ∃ j : Nat, j ≤ M ∧ s = .int .i64 j ∧ b = .int .i64 (bestL n Z y B (LL.take j)) ∧ Making 24 lo wr (.slice (some ⟨gA, 0, none⟩) M capA) M GA CA (lenL LL) (nthL LL) ∧ Below w.heap.size w wr) (fun _ s _ => M - (intOf s).toNat)
      case atStart => exact ⟨0, Nat.zero_le _, rfl, by rw [QB0.out]; rfl, MA.out, B1.out⟩
      case round =>
        obtain ⟨j, hj, rfl, rfl, hM, hB⟩ := hrel
        clear MA B1
        by_cases hlt : j < M
        · have hlt' : j < LL.length := by rw [← QM.out]; exact hlt
          have hway := HAT.out j hlt'
          have hm2 := hway.2.1
          have hmn := hway.2.2
          have hcA := hM.1.cells (g := gA) rfl j (.slice (some ⟨GA j, 0, none⟩) (lenL LL j) (CA j)) (by simp [hlt])
          rw [Go.WideShapes.add_plain, Nat.zero_add] at hcA
          have HRd := Lib.hid (hM.2.1 j hlt).2.2.2.rd
          have HW := Lib.hid (show ∀ l, l < lenL LL j → 0 ≤ nthL LL j l ∧ nthL LL j l < n from hway.1.1)
          have TK := Lib.hid (take_snoc hlt')
          obtain ⟨m, hm⟩ : ∃ m, lenL LL j = m + 1 := ⟨lenL LL j - 1, by omega⟩
          have QL := Lib.hid hm
          rw [hm] at hcA HRd HW hm2 hmn
          obtain ⟨bg, og, hbg, hcl⟩ := HRd.out m (by omega)
          simp only [Option.some.injEq, Addr.mk.injEq] at hbg
          obtain ⟨rfl, rfl, -⟩ := hbg
          rw [Nat.zero_add] at hcl
          have HM := Lib.hid hM
          have HB := Lib.hid hB
          have hsz := hB.size
          obtain ⟨BV, hBV⟩ : ∃ BV, BV = bestL n Z y B (LL.take j) := ⟨_, rfl⟩
          rw [← hBV]
          have QBV := Lib.hid hBV
          obtain ⟨ls, hls⟩ : ∃ ls, ls = nthL LL j m := ⟨_, rfl⟩
          rw [← hls] at hcl
          have QLS := Lib.hid (show nth (LL.getD j []) ((LL.getD j []).length - 1) = ls by rw [hls, show (LL.getD j []).length = m + 1 from hm]; rfl)
          clear hM hB hway hlt' hm hBV hls
          by_cases he : ls = y
          · have hq2 : (ls == (y : Int)) = true := by simpa using he
            have BY := Lib.hid (bestL_yes (n := n) (Z := Z) (b := B) (LL := LL.take j) (QLS.out.trans he))
            obtain ⟨V, hV⟩ : ∃ V, V = wayV n Z (LL.getD j []) := ⟨_, rfl⟩
            have QV := Lib.hid (show valF Z (nthL LL j) (p12 ((n : Int) - 1 - ((m + 1 : Nat) : Int) + 1).toNat) (m + 1 - 1) = V by rw [hV, ← QL.out]; rfl)
            have QV2 := Lib.hid hV
            clear he hV
            go_wp2
            go_quiet (fail)
            go_wp2_with (go_at_call 57; refine (l1Value_any n c (m + 1) (CA j) a _ A L C Z (nthL LL j) ((n : Int) - 1) _ HR.out ((HA.out.below (Nat.le_refl _) HB.out).drewN _) (HRd.out.drewN _) (by omega) (by omega) (by omega) (by omega) HW.out).mono ?_; rintro e w4 ⟨rfl, q2, rfl⟩; rw [QV.out])
            go_roundw
            case rel =>
              refine ⟨j + 1, by omega, by go_num, ?_, HM.out.below (below_drewN (Below.refl _ _) _), HB.out.trans ((below_drewN (Below.refl _ _) _).mono hsz)⟩
              rw [TK.out, BY.out, ← QBV.out, ← QV2.out]
            case measure => simp [intOf]; omega
          · have hq2 : (ls == (y : Int)) = false := by simpa using he
            have BY := Lib.hid (bestL_no (n := n) (Z := Z) (b := B) (LL := LL.take j) (fun e => he (QLS.out.symm.trans e)))
            clear he
            go_wp2
            go_quiet (fail)
            go_wp2
            go_roundw
            case rel =>
              refine ⟨j + 1, by omega, by go_num, ?_, HM.out.below (below_drewN (Below.refl _ _) _), HB.out.trans ((below_drewN (Below.refl _ _) _).mono hsz)⟩
              rw [TK.out, BY.out, ← QBV.out]
            case measure => simp [intOf]; omega
        · obtain rfl : j = M := by omega
          have HB := Lib.hid hB
          have E1 := Lib.hid (show bestL n Z y B (LL.take j) = bestAns n L Z x y by rw [T2.out, QM.out, List.take_length, ← QB.out, ← HLL.out])
          clear hM hB
          go_wp2
          go_ret2
          exact ⟨by rw [T1.out, ← E1.out]; rfl, HB.out⟩
  · have T1 := Lib.hid (tt_no hr)
    have T2 := Lib.hid (bestAns_no hr)
    clear hr
    go_enter Try.func29, Try.ntmps29
    go_wp2_with (go_at_call 75; refine H1.out.mono ?_; rintro e w' ⟨rfl, rfl⟩; rw [T1.out])
    go_ret2
    exact ⟨by rw [T1.out, T2.out]; rfl, Below.refl _ _⟩
end Go.Proofs.Ytmjbocgoinfamaa
