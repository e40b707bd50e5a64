/- The model's SwapStills. -/
import Derived.Test.YtgjegpponchdaaaDoorStillN
import Derived.Test.YtgjegpponchdaaaDoorL4All
import Derived.Test.YtgjegpponchdaaaDoorL3Givings
import Derived.Test.YtgjegpponchdaaaDoorSpecHouseIn
namespace Go.Proofs.YtgjegpponchdaaaDoor
set_option linter.unusedVariables false
set_option linter.unusedSimpArgs false
open Go.RowKit

theorem int_none (N : Nat) : ((N : Int) == 0) = decide (N = 0) := by
  by_cases h2 : N = 0
  · subst h2; rfl
  · rw [decide_eq_false h2]; simp; exact h2

set_option maxHeartbeats 1600000 in
theorem specSwapStills_any (n c : Nat) (a : Option Addr) (A : Nat → Option Addr) (L C : Nat → Nat) (Z : Nat → Nat → Int) (w : World) (hn0 : n ≤ 1048576) (hL0 : ∀ r, r < n → L r ≤ 1048576) (ha0 : Tab w a n A L C Z) :
    Calls Tryd.prog 26 #[.slice a n c] w fun e w' => e = .returned (.tuple #[.int .i64 (stillN n L Z : Nat), .bool (tt (IsWishes n L Z))]) ∧ Below w.heap.size w w' := by
  have H := Lib.hid (specHouseIn_any n c a A L C Z w hn0 hL0 ha0)
  by_cases h1 : IsWishes n L Z
  · have T1 := Lib.hid (tt_of h1)
    have TN := Lib.hid (stillN_yes h1)
    have HW := Lib.hid h1
    have HA := Lib.hid ha0
    have hn2 := h1.1.1
    have hn5 := h1.1.2
    obtain ⟨LL, hLL⟩ : ∃ LL, LL = givs n n [] := ⟨_, rfl⟩
    have QL := Lib.hid hLL
    have hM := givsAll_le hn5
    rw [← hLL] at hM
    obtain ⟨M, hM2⟩ : ∃ M, M = LL.length := ⟨_, rfl⟩
    rw [← hM2] at hM
    have QM := Lib.hid hM2
    have AT := Lib.hid (show ∀ x, x < M → LL.getD x [] ∈ givs n n [] ∧ lenL LL x = n from fun x hx => by
      rw [hM2] at hx
      have hm : LL.getD x [] ∈ LL := by
        rw [List.getD_eq_getElem?_getD, List.getElem?_eq_getElem hx]
        exact List.getElem_mem hx
      rw [hLL] at hm ⊢
      exact ⟨hm, ((mem_givs n [] (Diff.nil n) (by simp) _).1 hm).2.1⟩)
    have CN := Lib.hid (show ∀ x, (stillL n Z (LL.take x)).length ≤ x from fun x => Nat.le_trans (stillL_le _ _ _) (by rw [List.length_take]; exact Nat.min_le_left _ _))
    clear h1 ha0 hL0 hLL hM2
    go_enter Tryd.func26, Tryd.ntmps26
    go_wp2_with (first
      | (go_at_call 38; refine H.out.mono ?_; rintro e w' ⟨rfl, rfl⟩; rw [T1.out])
      | (go_at_call 35; refine (l3GivingsAll_any n hn2 hn5 _ 0 _ (by simp)).mono ?_; rintro e w1 ⟨v, G', Cp, rfl, hMk, hb⟩; rw [← QL.out, ← QM.out] at hMk; obtain ⟨a1, c1, rfl, hO⟩ := hMk.slice; have HO := Lib.hid hO.tab; have HB := Lib.hid ((below_alloc (Below.refl w.heap.size w) _).trans (hb.mono (by simp))); clear hb hO hMk))
    go_loopw [4, 6] (fun s i wr => ∃ x : Nat, x ≤ M ∧ i = .int .i64 x ∧ s = .int .i64 ((stillL n Z (LL.take x)).length : Nat) ∧ Below w1.heap.size w1 wr) (fun _ i _ => M - (intOf i).toNat)
    case atStart => exact ⟨0, Nat.zero_le _, rfl, rfl, Below.refl _ _⟩
    case round =>
      obtain ⟨x, hx, rfl, rfl, hB⟩ := hrel
      have BR := Lib.hid hB
      obtain ⟨N, hN⟩ : ∃ N, N = (stillL n Z (LL.take x)).length := ⟨_, rfl⟩
      have hNx : N ≤ x := by rw [hN]; exact CN.out x
      rw [← hN]
      have QN := Lib.hid hN
      clear hB hN
      by_cases hlt : x < M
      · obtain ⟨hmem, hlen⟩ := AT.out x hlt
        obtain ⟨bt, ot, rfl, hct, hrow⟩ := (HO.out.below (Nat.le_refl _) BR.out) x hlt
        rw [hlen] at hct hrow
        have hrow2 : Rd wr _ n (nth (LL.getD x [])) := hrow
        have hBW := HB.out.trans (BR.out.mono HB.out.size)
        have HC := Lib.hid (fun d b => l4All_any n c a A L C Z d b (nth (LL.getD x [])) wr (givs_given HW.out hmem) (HA.out.below (Nat.le_refl _) hBW))
        have HR2 := Lib.hid hrow2
        obtain ⟨P, hP⟩ : ∃ P, P = (mayL n Z (nth (LL.getD x []))).length := ⟨_, rfl⟩
        have QP := Lib.hid hP
        have hTK := take_snoc (LL := LL) (k := x) (by rw [← QM.out]; exact hlt)
        have TK := Lib.hid hTK
        have i1 : (0 : Int) ≤ (x : Int) := by omega
        have i2 : (x : Int) < (M : Int) := by omega
        clear hmem hlen hrow hrow2 hBW hP hTK
        by_cases h0 : P = 0
        · have S1 := Lib.hid (show (stillL n Z (LL.take (x + 1))).length = N + 1 by
            rw [TK.out, stillL_yes (mayL_nil.1 (List.length_eq_zero_iff.1 (by rw [← QP.out]; exact h0))), List.length_append, ← QN.out]; rfl)
          have d1 : ((P : Int) == 0) = true := by rw [int_none]; exact decide_eq_true h0
          clear h0
          go_wp2_with (go_at_call 49; refine (HC.out _ _ HR2.out).mono ?_; rintro e w2 ⟨v, G2, Cp2, rfl, hMk, hb2⟩; rw [pairsL_length, ← QP.out] at hMk; obtain ⟨a2, c2, rfl, hO2⟩ := hMk.slice; have B2 := Lib.hid (BR.out.trans (hb2.mono BR.out.size)); clear hb2 hO2 hMk hct)
          go_roundw
          case rel => exact ⟨x + 1, by omega, by go_num, by rw [S1.out]; go_num, B2.out⟩
          case measure => simp [intOf]; omega
        · have S1 := Lib.hid (show (stillL n Z (LL.take (x + 1))).length = N by
            rw [TK.out, stillL_no (fun h => h0 (by rw [QP.out, mayL_nil.2 h]; rfl)), ← QN.out])
          have d1 : ((P : Int) == 0) = false := by rw [int_none]; exact decide_eq_false h0
          clear h0
          go_wp2_with (go_at_call 49; refine (HC.out _ _ HR2.out).mono ?_; rintro e w2 ⟨v, G2, Cp2, rfl, hMk, hb2⟩; rw [pairsL_length, ← QP.out] at hMk; obtain ⟨a2, c2, rfl, hO2⟩ := hMk.slice; have B2 := Lib.hid (BR.out.trans (hb2.mono BR.out.size)); clear hb2 hO2 hMk hct)
          go_roundw
          case rel => exact ⟨x + 1, by omega, by go_num, by rw [S1.out], B2.out⟩
          case measure => simp [intOf]; omega
      · obtain rfl : x = M := by omega
        have E1 := Lib.hid (show N = stillN n L Z by rw [TN.out, QN.out, QM.out, List.take_length, QL.out])
        go_wp2
        go_ret2
        exact ⟨by rw [T1.out, ← E1.out]; rfl, HB.out.trans (BR.out.mono HB.out.size)⟩
  · have T1 := Lib.hid (tt_no h1)
    have TN := Lib.hid (stillN_no h1)
    clear h1 ha0 hL0
    go_enter Tryd.func26, Tryd.ntmps26
    go_wp2_with (go_at_call 38; refine H.out.mono ?_; rintro e w' ⟨rfl, rfl⟩; rw [T1.out])
    go_ret2
    exact ⟨by rw [T1.out, TN.out]; rfl, Below.refl _ _⟩
end Go.Proofs.YtgjegpponchdaaaDoor
