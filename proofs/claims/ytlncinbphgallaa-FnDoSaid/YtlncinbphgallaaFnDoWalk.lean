/- The walk of the law FnDo: it answers true at every code that can be read. -/
import Derived.Test.YtlncinbphgallaaDrawSwapDo
import Derived.Test.YtlncinbphgallaaSwapDo
import Derived.Test.YtlncinbphgallaaSpecSwapDo
import Derived.Test.YtlncinbphgallaaSwapBack
import Derived.Test.YtlncinbphgallaaSameInts
namespace Go.Proofs.Ytlncinbphgallaa
set_option linter.unusedVariables false
set_option linter.unusedSimpArgs false
open Go.RowKit

set_option maxHeartbeats 3200000 in
theorem fnDo_walk (n c : Nat) (a : Option Addr) (B : Nat → Nat) (w : World) (hc : n ≤ c) (hb : RdB w a n B) (hab : 0 < n → ∀ b o, a = some ⟨b, o, none⟩ → b < w.heap.size) :
    Calls Try.prog 12 #[.slice a n c] w fun e w' => e = .returned (.bool true) ∧ Below w.heap.size w w' := by
  by_cases hfit : n ≤ 1048576
  · have hd : ¬ (1048576 < n) := by omega
    have HD := Lib.hid (drawSwapDo_any n c a B w hfit hc hb hab)
    clear hb hab
    go_enter Try.func12, Try.ntmps12
    go_wp2_with fail
    refine HD.out.mono ?_
    rintro e w1 ⟨ga, N, gc, A, L, C, Z, b, m, d, X, x, y, rfl, ⟨⟨hN1, hN5⟩, hmd, hm6, ⟨hx1, hx2⟩, hy1, hy2⟩, hL, hT, hX, hb1⟩
    have HT := Lib.hid hT
    have HX := Lib.hid hX
    have HL := Lib.hid (show ∀ r, r < N → L r ≤ 1048576 from fun r hr => by have := hL r hr; omega)
    have B1 := Lib.hid hb1
    clear hT hX hL hb1 HD
    by_cases hok : TwoPpl N L Z m X x y
    · have K1 := Lib.hid (tt_of hok)
      have KN := Lib.hid (swapN_yes hok)
      obtain rfl : m = N := hok.1.1.2.1
      obtain ⟨i, rfl⟩ := Int.eq_ofNat_of_zero_le hok.1.2.1.1
      obtain ⟨k, rfl⟩ := Int.eq_ofNat_of_zero_le hok.1.2.2.1
      have hi : i < m := by have := hok.1.2.1.2; omega
      have hk : k < m := by have := hok.1.2.2.2; omega
      have hik : i ≠ k := fun e => hok.2 (by rw [e])
      have HG := Lib.hid hok.1.1
      have hok2 : TwoPpl m L Z m (swapF X i k) i k := ⟨⟨swap_given hok.1.1 hi hk, hok.1.2⟩, hok.2⟩
      have K2 := Lib.hid (tt_of hok2)
      have KN2 := Lib.hid (swapN_yes hok2)
      clear hok hok2
      go_wp2_with fail
      refine (swapDo_any m gc ga A L C Z m d b X i k _ (by omega) HL.out HT.out (by omega) hmd HX.out ⟨by omega, by omega⟩ ⟨by omega, by omega⟩).mono ?_
      rintro e w2 ⟨a2, c2, rfl, hO2, hb2⟩
      rw [K1.out, KN.out]
      rw [KN.out] at hO2
      have O2 := Lib.hid hO2
      have B2 := Lib.hid hb2
      clear hO2 hb2
      go_wp2_with fail
      refine (specSwapDo_any m gc ga A L C Z m d b X i k _ (by omega) HL.out (HT.out.below (Nat.le_refl _) B2.out) (by omega) (HX.out.below (Nat.le_refl _) B2.out) ⟨by omega, by omega⟩ ⟨by omega, by omega⟩).mono ?_
      rintro e w3 ⟨a3, c3, rfl, hO3, hb3⟩
      rw [K1.out, KN.out]
      rw [KN.out] at hO3
      have O3 := Lib.hid hO3
      have R2 := Lib.hid (O2.out.below (Nat.le_refl _) hb3).rd
      have B3 := Lib.hid (below_chain B2.out hb3)
      clear hO3 hb3
      go_wp2_with (go_at_call 43; refine (sameInts_any m m c2 c3 a2 a3 _ _ _ (by omega) (by omega) R2.out O3.out.rd).mono ?_; rintro e w4 ⟨rfl, q4, rfl⟩; rw [tt_of (show SameB m m (swapF X (i : Int).toNat (k : Int).toNat) (swapF X (i : Int).toNat (k : Int).toNat) from ⟨rfl, fun _ _ => rfl⟩)])
      have hi2 : (i : Int).toNat = i := rfl
      have hk2 : (k : Int).toNat = k := rfl
      have B4 := Lib.hid (B3.out.trans ((below_drewN (Below.refl w3.heap.size w3) q4).mono B3.out.size))
      have R4 := Lib.hid (show Rd (w3.drewN q4) a2 m (swapF X i k) from R2.out.drewN q4)
      go_wp2_with fail
      refine (swapDo_anyc m gc ga A L C Z m c2 a2 (swapF X i k) i k _ (by omega) HL.out (HT.out.below (Nat.le_refl _) B4.out) (by omega) R4.out ⟨by omega, by omega⟩ ⟨by omega, by omega⟩).mono ?_
      rintro e w5 ⟨a5, c5, rfl, hO5, hb5⟩
      rw [K2.out, KN2.out]
      rw [KN2.out] at hO5
      have O5 := Lib.hid hO5
      have B5 := Lib.hid (B4.out.trans (hb5.mono B4.out.size))
      have RO := Lib.hid (R4.out.below (Nat.le_refl _) hb5)
      have RG := Lib.hid (HX.out.below (Nat.le_refl _) B5.out)
      clear hO5 hb5 R2 R4 O3
      go_wp2_with fail
      go_loopw [13] (fun s wr => ∃ j : Nat, j ≤ m ∧ s = .int .i64 j ∧ ∃ q, wr = w5.drewN q) (fun s _ => m - (intOf s).toNat)
      case atStart => exact ⟨0, Nat.zero_le _, rfl, 0, rfl⟩
      case round =>
        obtain ⟨j, hj, rfl, q, rfl⟩ := hrel
        by_cases hlt : j < m
        · obtain ⟨bo, oo, rfl, hco⟩ := RO.out j hlt
          obtain ⟨bg, og, rfl, hcg⟩ := RG.out j hlt
          obtain ⟨u, hu⟩ : ∃ u, u = swapF X i k j := ⟨_, rfl⟩
          obtain ⟨v, hv⟩ : ∃ v, v = X j := ⟨_, rfl⟩
          rw [← hu] at hco
          rw [← hv] at hcg
          have i1 : (0 : Int) ≤ (j : Int) := by omega
          have i2 : (j : Int) < (m : Int) := by omega
          by_cases e1 : j = i
          · have d1 : (u != v) = true := by
              rw [hu, hv, e1, swapF_i]
              simpa using given_ne HG.out hk hi (fun e => hik e.symm)
            have d2 : ((j : Int) == (i : Int)) = true := by simp [e1]
            clear hu hv e1
            go_wp2
            go_quiet (fail)
            go_wp2
            go_roundw
            case rel => exact ⟨j + 1, by omega, by go_num, _, by first | rfl | rw [World.drewN_drewN]⟩
            case measure => simp [intOf]; omega
          · have d2 : ((j : Int) == (i : Int)) = false := by simp; omega
            by_cases e2 : j = k
            · have d1 : (u != v) = true := by
                rw [hu, hv, e2, swapF_k]
                simpa using given_ne HG.out hi hk hik
              have d3 : ((j : Int) == (k : Int)) = true := by simp [e2]
              clear hu hv e1 e2
              go_wp2
              go_quiet (fail)
              go_wp2
              go_roundw
              case rel => exact ⟨j + 1, by omega, by go_num, _, by first | rfl | rw [World.drewN_drewN]⟩
              case measure => simp [intOf]; omega
            · have d3 : ((j : Int) == (k : Int)) = false := by simp; omega
              have d1 : (u != v) = false := by
                rw [hu, hv, swapF_o X e1 e2]
                simp
              clear hu hv e1 e2
              go_wp2
              go_quiet (fail)
              go_wp2
              go_roundw
              case rel => exact ⟨j + 1, by omega, by go_num, _, by first | rfl | rw [World.drewN_drewN]⟩
              case measure => simp [intOf]; omega
        · obtain rfl : j = m := by omega
          have RG2 := Lib.hid (RG.out.drewN q)
          have R52 := Lib.hid (O5.out.rd.drewN q)
          have B6 := Lib.hid (B5.out.trans ((below_drewN (Below.refl w5.heap.size w5) q).mono B5.out.size))
          go_wp2_with (go_at_call 43; refine (sameInts_any j j c5 d a5 b _ _ _ (by omega) (by omega) R52.out RG2.out).mono ?_; rintro e w6 ⟨rfl, q6, rfl⟩; rw [tt_of (show SameB j j (swapF (swapF X i k) (i : Int).toNat (k : Int).toNat) X from ⟨rfl, fun l _ => swap_back X i k l⟩)])
          go_ret
          exact ⟨by first | rfl | simp, by first | exact below_drewN (below_chain B1.out B5.out) _ | exact below_drewN (below_drewN (below_chain B1.out B5.out) _) _⟩
    · have K1 := Lib.hid (tt_no hok)
      have KN := Lib.hid (swapN_no hok)
      clear hok
      go_wp2_with fail
      refine (swapDo_any N gc ga A L C Z m d b X x y _ (by omega) HL.out HT.out (by omega) hmd HX.out ⟨by omega, by omega⟩ ⟨by omega, by omega⟩).mono ?_
      rintro e w2 ⟨a2, c2, rfl, hO2, hb2⟩
      rw [K1.out, KN.out]
      rw [KN.out] at hO2
      have O2 := Lib.hid hO2
      have B2 := Lib.hid hb2
      clear hO2 hb2
      go_wp2_with fail
      refine (specSwapDo_any N gc ga A L C Z m d b X x y _ (by omega) HL.out (HT.out.below (Nat.le_refl _) B2.out) (by omega) (HX.out.below (Nat.le_refl _) B2.out) ⟨by omega, by omega⟩ ⟨by omega, by omega⟩).mono ?_
      rintro e w3 ⟨a3, c3, rfl, hO3, hb3⟩
      rw [K1.out, KN.out]
      rw [KN.out] at hO3
      have B3 := Lib.hid (below_chain B2.out hb3)
      have S := Lib.hid (show ∀ W, Calls Try.prog 43 #[.slice a2 0 c2, .slice a3 0 c3] W fun e w' => e = .returned (.bool true) ∧ ∃ q, w' = W.drewN q from fun W => by
        refine (sameInts_any 0 0 c2 c3 a2 a3 (fun _ => 0) (fun _ => 0) W (by omega) (by omega) (fun k hk => absurd hk (Nat.not_lt_zero _)) (fun k hk => absurd hk (Nat.not_lt_zero _))).mono ?_
        rintro e w' ⟨rfl, h⟩
        exact ⟨by rw [tt_of (show SameB 0 0 (fun _ => (0 : Int)) (fun _ => 0) from ⟨rfl, fun _ _ => rfl⟩)], h⟩)
      clear hO3 hb3
      go_wp2_with (go_at_call 43; refine (S.out _).mono ?_; rintro e w4 ⟨rfl, q4, rfl⟩)
      go_ret
      exact ⟨by first | rfl | simp, (below_chain B1.out B3.out).trans (by first | exact below_drewN (below_drewN (Below.refl _ _) _) _ | exact below_drewN (Below.refl _ _) _)⟩
  · have hd : 1048576 < n := by omega
    clear hb hab
    go_enter Try.func12, Try.ntmps12
    go_wp2_with fail
    go_ret
    exact ⟨rfl, Below.refl _ _⟩
end Go.Proofs.Ytlncinbphgallaa
