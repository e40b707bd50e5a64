/- The walk of the law FnMay: it answers true at every code that can be read. -/
import Derived.Test.YtlncinbphgallaaDrawSwapMay
import Derived.Test.YtlncinbphgallaaSwapMay
import Derived.Test.YtlncinbphgallaaSpecSwapMay
import Derived.Test.YtlncinbphgallaaSwapDo
import Derived.Test.YtlncinbphgallaaSwapBack
import Derived.Test.YtlncinbphgallaaHouseLikes
import Derived.Test.YtlncinbphgallaaLater
namespace Go.Proofs.Ytlncinbphgallaa
set_option linter.unusedVariables false
set_option linter.unusedSimpArgs false
open Go.RowKit

set_option maxRecDepth 100000 in
set_option maxHeartbeats 3200000 in
theorem fnMay_walk (n c : Nat) (a : Option Addr) (B : Nat → Nat) (w : World) (hc : n ≤ c) (hb : RdB w a n B) (hab : 0 < n → ∀ b o, a = some ⟨b, o, none⟩ → b < w.heap.size) :
    Calls Try.prog 10 #[.slice a n c] w fun e w' => e = .returned (.bool true) ∧ Below w.heap.size w w' := by
  by_cases hfit : n ≤ 1048576
  · have hd : ¬ (1048576 < n) := by omega
    have HD := Lib.hid (drawSwapMay_any n c a B w hfit hc hb hab)
    clear hb hab
    go_enter Try.func10, Try.ntmps10
    go_wp2_with fail
    refine HD.out.mono ?_
    rintro e w1 ⟨ga, N, gc, A, L, C, Z, b, m, d, X, x, y, rfl, ⟨⟨hN1, hN5⟩, hmd, hm6, ⟨hx1, hx2⟩, hy1, hy2⟩, hL, hT, hX, hb1⟩
    have HT := Lib.hid hT
    have HX := Lib.hid hX
    have HL := Lib.hid (show ∀ r, r < N → L r ≤ 1048576 from fun r hr => by have := hL r hr; omega)
    have B1 := Lib.hid hb1
    clear hT hX hL hb1 HD
    by_cases hok : SwapMayOk N L Z m X x y
    · have K1 := Lib.hid (tt_of hok)
      have hne := may_ne hok.2
      obtain rfl : m = N := hok.1.1.2.1
      obtain ⟨i, rfl⟩ := Int.eq_ofNat_of_zero_le hok.1.2.1.1
      obtain ⟨k, rfl⟩ := Int.eq_ofNat_of_zero_le hok.1.2.2.1
      have hi : i < m := by have := hok.1.2.1.2; omega
      have hk : k < m := by have := hok.1.2.2.2; omega
      have hik : i ≠ k := hne
      have hG := hok.1.1
      have hP : TwoPpl m L Z m X i k := ⟨hok.1, fun e => hik (by omega)⟩
      have K2 := Lib.hid (tt_of hP)
      have KN := Lib.hid (swapN_yes hP)
      have hm1 : MayP m Z X i k := hok.2
      have K3 := Lib.hid (tt_of (show SwapMayOk m L Z m X k i from ⟨⟨hG, hok.1.2.2, hok.1.2.1⟩, may_symm.1 hm1⟩))
      have K4 := Lib.hid (tt_no (show ¬ SwapMayOk m L Z m (swapF X i k) i k from fun h => by
        have h2 : MayP m Z (swapF X i k) i k := h.2
        unfold MayP at h2 hm1
        rw [swapF_i, swapF_k] at h2
        omega))
      obtain ⟨u, hu⟩ : ∃ u, u = X i := ⟨_, rfl⟩
      obtain ⟨v, hv⟩ : ∃ v, v = X k := ⟨_, rfl⟩
      have hui := hG.at hi
      have hvk := hG.at hk
      have K5 := Lib.hid (tt_of (show LikesOk m L Z i v u from ⟨hG.1, hok.1.2.1, by rw [hv]; exact hvk, by rw [hu]; exact hui, by rw [hu, hv]; exact hm1.1⟩))
      have K6 := Lib.hid (tt_of (show LikesOk m L Z k u v from ⟨hG.1, hok.1.2.2, by rw [hu]; exact hui, by rw [hv]; exact hvk, by rw [hu, hv]; exact hm1.2⟩))
      have hu6 : I64 u := by rw [hu]; exact ⟨by have := hui.1; omega, by have := hui.2; omega⟩
      have hv6 : I64 v := by rw [hv]; exact ⟨by have := hvk.1; omega, by have := hvk.2; omega⟩
      have EI := Lib.hid (show swapF X i k i = v by rw [swapF_i, hv])
      have EK := Lib.hid (show swapF X i k k = u by rw [swapF_k, hu])
      have QU := Lib.hid hu
      have QV := Lib.hid hv
      clear hok hne hG hP hm1 hui hvk hu hv
      go_wp2_with fail
      refine (swapMay_any m gc ga A L C Z m d b X i k _ (by omega) HL.out HT.out (by omega) hmd HX.out ⟨by omega, by omega⟩ ⟨by omega, by omega⟩).mono ?_
      rintro e w2 ⟨rfl, hb2⟩
      rw [K1.out]
      have B2 := Lib.hid hb2
      clear hb2
      go_wp2_with fail
      refine (specSwapMay_any m gc ga A L C Z m d b X i k _ (by omega) HL.out (HT.out.below (Nat.le_refl _) B2.out) (by omega) (HX.out.below (Nat.le_refl _) B2.out) ⟨by omega, by omega⟩ ⟨by omega, by omega⟩).mono ?_
      rintro e w3 ⟨rfl, hb3⟩
      rw [K1.out]
      have B3 := Lib.hid (below_chain B2.out hb3)
      clear hb3
      go_wp2_with fail
      refine (swapDo_any m gc ga A L C Z m d b X i k _ (by omega) HL.out (HT.out.below (Nat.le_refl _) B3.out) (by omega) hmd (HX.out.below (Nat.le_refl _) B3.out) ⟨by omega, by omega⟩ ⟨by omega, by omega⟩).mono ?_
      rintro e w4 ⟨a4, c4, rfl, hO4, hb4⟩
      rw [K2.out, KN.out]
      rw [KN.out] at hO4
      have B4 := Lib.hid (below_chain B3.out hb4)
      have R4 := Lib.hid (show Rd w4 a4 m (swapF X i k) from hO4.rd)
      have RX := Lib.hid (HX.out.below (Nat.le_refl _) B4.out)
      have RT := Lib.hid (HT.out.below (Nat.le_refl _) B4.out)
      clear hO4 hb4
      obtain ⟨bh, oh, rfl, hhi⟩ := R4.out i hi
      obtain ⟨bh', oh', he, hhk⟩ := R4.out k hk
      simp only [Option.some.injEq, Addr.mk.injEq, and_true] at he
      obtain ⟨rfl, rfl⟩ := he
      obtain ⟨bg, og, rfl, hgi⟩ := RX.out i hi
      obtain ⟨bg', og', he, hgk⟩ := RX.out k hk
      simp only [Option.some.injEq, Addr.mk.injEq, and_true] at he
      obtain ⟨rfl, rfl⟩ := he
      rw [EI.out] at hhi
      rw [EK.out] at hhk
      rw [← QU.out] at hgi
      rw [← QV.out] at hgk
      have c1 : ∀ r : Later w4, r.W.cell? ⟨bh, oh + i, none⟩ = some (.int .i64 v) := fun r => later_cell hhi r
      have c2 : ∀ r : Later w4, r.W.cell? ⟨bh, oh + k, none⟩ = some (.int .i64 u) := fun r => later_cell hhk r
      have c3 : ∀ r : Later w4, r.W.cell? ⟨bg, og + i, none⟩ = some (.int .i64 u) := fun r => later_cell hgi r
      have c5 : ∀ r : Later w4, r.W.cell? ⟨bg, og + k, none⟩ = some (.int .i64 v) := fun r => later_cell hgk r
      have i1 : (0 : Int) ≤ (i : Int) := by omega
      have i2 : (i : Int) < (m : Int) := by omega
      have k1 : (0 : Int) ≤ (k : Int) := by omega
      have k2 : (k : Int) < (m : Int) := by omega
      have I1 := Lib.hid (fun r : Later w4 => (show Calls Try.prog 19 #[.slice ga m gc, .slice (some ⟨bg, og, none⟩) m d, .int .i64 k, .int .i64 i] r.W fun e w' => e = .returned (.bool true) ∧ Below r.W.heap.size r.W w' from by
        refine (swapMay_any m gc ga A L C Z m d _ X k i _ (by omega) HL.out (RT.out.below (Nat.le_refl _) r.h) (by omega) hmd (RX.out.below (Nat.le_refl _) r.h) ⟨by omega, by omega⟩ ⟨by omega, by omega⟩).mono ?_
        rintro e w' ⟨rfl, hb⟩
        exact ⟨by rw [K3.out], hb⟩))
      have I2 := Lib.hid (fun r : Later w4 => (show Calls Try.prog 39 #[.slice ga m gc, .int .i64 i, .int .i64 v, .int .i64 u] r.W fun e w' => e = .returned (.bool true) ∧ Below r.W.heap.size r.W w' from by
        refine (houseLikes_any m gc ga A L C Z i v u _ (by omega) HL.out (RT.out.below (Nat.le_refl _) r.h) ⟨by omega, by omega⟩ hv6 hu6).mono ?_
        rintro e w' ⟨rfl, hb⟩
        exact ⟨by rw [K5.out], hb⟩))
      have I3 := Lib.hid (fun r : Later w4 => (show Calls Try.prog 39 #[.slice ga m gc, .int .i64 k, .int .i64 u, .int .i64 v] r.W fun e w' => e = .returned (.bool true) ∧ Below r.W.heap.size r.W w' from by
        refine (houseLikes_any m gc ga A L C Z k u v _ (by omega) HL.out (RT.out.below (Nat.le_refl _) r.h) ⟨by omega, by omega⟩ hu6 hv6).mono ?_
        rintro e w' ⟨rfl, hb⟩
        exact ⟨by rw [K6.out], hb⟩))
      have I4 := Lib.hid (fun r : Later w4 => (show Calls Try.prog 19 #[.slice ga m gc, .slice (some ⟨bh, oh, none⟩) m c4, .int .i64 i, .int .i64 k] r.W fun e w' => e = .returned (.bool false) ∧ Below r.W.heap.size r.W w' from by
        refine (swapMay_anyc m gc ga A L C Z m c4 _ (swapF X i k) i k _ (by omega) HL.out (RT.out.below (Nat.le_refl _) r.h) (by omega) (R4.out.below (Nat.le_refl _) r.h) ⟨by omega, by omega⟩ ⟨by omega, by omega⟩).mono ?_
        rintro e w' ⟨rfl, hb⟩
        exact ⟨by rw [K4.out], hb⟩))
      clear hhi hhk hgi hgk
      go_wp2
      refine wp_region_later (by kernel_rfl) (by kernel_rfl) ?_
      iterate 7 go_big_quiet_step ((go_at_call 19; exact calls_later _ (I1.out _)))
      clear I1
      iterate 13 go_big_quiet_step ((go_at_call 39; exact calls_later _ (I2.out _)))
      clear I2
      iterate 13 go_big_quiet_step ((go_at_call 39; exact calls_later _ (I3.out _)))
      clear I3
      repeat go_big_quiet_step ((go_at_call 19; exact calls_later _ (I4.out _)))
      refine wpQuiet_nil ?_
      rintro _ ⟨r, rfl⟩
      have BL := Lib.hid (B4.out.trans (r.h.mono B4.out.size))
      clear c1 c2 c3 c5 I4
      go_wp2
      go_ret
      exact ⟨by first | rfl | simp, below_chain B1.out BL.out⟩
    · have K1 := Lib.hid (tt_no hok)
      clear hok
      go_wp2_with fail
      refine (swapMay_any N gc ga A L C Z m d b X x y _ (by omega) HL.out HT.out (by omega) hmd HX.out ⟨by omega, by omega⟩ ⟨by omega, by omega⟩).mono ?_
      rintro e w2 ⟨rfl, hb2⟩
      rw [K1.out]
      have B2 := Lib.hid hb2
      clear hb2
      go_wp2_with fail
      refine (specSwapMay_any N gc ga A L C Z m d b X x y _ (by omega) HL.out (HT.out.below (Nat.le_refl _) B2.out) (by omega) (HX.out.below (Nat.le_refl _) B2.out) ⟨by omega, by omega⟩ ⟨by omega, by omega⟩).mono ?_
      rintro e w3 ⟨rfl, hb3⟩
      rw [K1.out]
      have B3 := Lib.hid (below_chain B2.out hb3)
      clear hb3
      go_wp2
      go_ret
      exact ⟨by first | rfl | simp, below_chain B1.out B3.out⟩
  · have hd : 1048576 < n := by omega
    clear hb hab
    go_enter Try.func10, Try.ntmps10
    go_wp2_with fail
    go_ret
    exact ⟨rfl, Below.refl _ _⟩
end Go.Proofs.Ytlncinbphgallaa
