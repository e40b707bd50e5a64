/- The walk of the law FnCircles: it answers true at every code that can be read. -/
import Derived.Test.YteigenmagifplaaDrawWantCircles
import Derived.Test.YteigenmagifplaaWantCircs
import Derived.Test.YteigenmagifplaaSpecWantCircs
import Derived.Test.YteigenmagifplaaWantTurn
import Derived.Test.YteigenmagifplaaWantCircle
import Derived.Test.YteigenmagifplaaSameRows
import Derived.BigQuiet
namespace Go.Proofs.Yteigenmagifplaa
set_option linter.unusedVariables false
open Go.RowKit

section
variable {n : Nat} {W : Nat → Int} {k : Int}
theorem same_row (LL : List (List Int)) {i j : Nat} (h : SameB (lenL LL i) (lenL LL j) (nthL LL i) (nthL LL j)) : LL.getD i [] = LL.getD j [] := list_ext h.1 h.2
theorem circs_apart (f : Nat) {i j : Nat} (hi : i < (circs n W f []).length) (hj : j < (circs n W f []).length) (hne : i ≠ j) : ¬ SameB (lenL (circs n W f []) i) (lenL (circs n W f []) j) (nthL (circs n W f []) i) (nthL (circs n W f []) j) := by
  intro h
  have e := same_row _ h
  rw [List.getD_eq_getElem?_getD, List.getD_eq_getElem?_getD, List.getElem?_eq_getElem hi, List.getElem?_eq_getElem hj] at e
  exact hne ((List.getElem_inj (circs_nodup f [])).1 e)
theorem same_all (l : Nat) (L : Nat → Nat) (Z : Nat → Nat → Int) : SameT l l L L Z Z := ⟨rfl, fun r hr => ⟨rfl, fun s hs => rfl⟩⟩
end

set_option maxHeartbeats 3200000 in
theorem fnCircles_walk (n c : Nat) (a : Option Addr) (B : Nat → Nat) (w : World) (hc : n ≤ c) (hb : RdB w a n B) (hab : 0 < n → ∀ b o, a = some ⟨b, o, none⟩ → b < w.heap.size) :
    Calls Try.prog 3 #[.slice a n c] w fun e w' => e = .returned (.bool true) ∧ Below w.heap.size w w' := by
  by_cases hfit : n ≤ 1048576
  · have hd : ¬ (1048576 < n) := by omega
    have HD := Lib.hid (drawWantCircles_any n c a B w hfit hc hb hab)
    clear hb hab
    go_enter Try.func3, Try.ntmps3
    go_wp2_with fail
    refine HD.out.mono ?_
    rintro e w1 ⟨ga, m, gc, X, k, rfl, ⟨hm2, hm6, hmc⟩, ⟨hk0, hk1⟩, hX, hb1⟩
    have X1 := Lib.hid hX
    have B1 := Lib.hid hb1
    have hik : I64 k := by unfold I64; omega
    have hik1 : I64 (k + 1) := by unfold I64; omega
    clear hX hb1 HD
    go_wp2_with fail
    refine (wantCircles_any m gc _ X k _ (by omega) hmc X1.out hik).mono ?_
    rintro e w2 ⟨Ca, Cc, CA, CC, rfl, hO2, hb2⟩
    have C2 := Lib.hid hO2.tab
    have X2 := Lib.hid (X1.out.below (Nat.le_refl _) hb2)
    have B2 := Lib.hid (below_chain B1.out hb2)
    clear hb2 B1 X1
    clear hO2
    go_wp2_with fail
    refine (specWantCircles_any m gc _ X k _ (by omega) X2.out hik).mono ?_
    rintro e w3 ⟨Sa, Sc, SA, SC, rfl, hO3, hb3⟩
    have S3 := Lib.hid hO3.tab
    have X3 := Lib.hid (X2.out.below (Nat.le_refl _) hb3)
    have C3 := Lib.hid (C2.out.below (Nat.le_refl _) hb3)
    have B3 := Lib.hid (below_chain B2.out hb3)
    clear hb3 B2 X2 C2
    clear hO3
    by_cases h : WantK m X k
    · have K1 := Lib.hid (tt_of h)
      have K2 := Lib.hid (wantN_yes h.1)
      have K3 := Lib.hid (tt_of h.1)
      have hT : WantK m (turnW m X) k := ⟨turn_is h.1, h.2⟩
      have K4 := Lib.hid (tt_of hT)
      have hk2 : 2 ≤ k ∧ k ≤ m := by have := h.2; unfold InR at this; omega
      have hcs := circsA_small m X k
      have K5 := Lib.hid (show (circsA m (turnW m X) k).length = (circsA m X k).length by rw [circsA_yes hT, circsA_yes h, turn_many h.1])
      obtain ⟨LL, hLL⟩ : ∃ LL, LL = circsA m X k := ⟨_, rfl⟩
      have hLL2 : LL = circs m X k.toNat [] := by rw [hLL]; exact circsA_yes h
      have KC := Lib.hid (fun i (hi : i < LL.length) => show tt (IsWants m X ∧ IsCirc m X (lenL LL i) (nthL LL i)) = true from tt_of ⟨h.1, by subst hLL2; exact (circs_at hi).1⟩)
      have KL := Lib.hid (fun i (hi : i < LL.length) => show (lenL LL i : Int) ≤ k from by have h2 : lenL LL i ≤ k.toNat := by { subst hLL2; exact (circs_at hi).2 }; omega)
      have KS := Lib.hid (fun i j (hi : i < LL.length) (hj : j < LL.length) (hne : i ≠ j) => show tt (SameB (lenL LL i) (lenL LL j) (nthL LL i) (nthL LL j)) = false from tt_no (by subst hLL2; exact circs_apart _ hi hj hne))
      have SM := Lib.hid (tt_of (same_all LL.length (lenL LL) (nthL LL)))
      rw [← hLL] at C3 S3 hcs K5 ⊢
      obtain ⟨l, hl⟩ : ∃ l, l = LL.length := ⟨_, rfl⟩
      rw [← hl] at C3 S3 hcs K5 KC KL KS SM ⊢
      have hl1 := hcs.1
      have HM := Lib.hid (fun r (hr : r < l) => show lenL LL r ≤ 9223372036854775807 from by have := KL.out r hr; omega)
      rw [K1.out]
      clear h hT hLL hLL2 hl hcs
      go_wp2_with fail
      refine (sameRows_any l l Cc Sc _ _ _ _ _ _ _ _ _ _ _ (by omega) (by omega) HM.out HM.out C3.out S3.out).mono ?_
      rintro e w4 ⟨rfl, q4, rfl⟩
      rw [SM.out]
      have X4 := Lib.hid (X3.out.drewN q4)
      have C4 := Lib.hid (C3.out.drewN q4)
      have S4 := Lib.hid (S3.out.drewN q4)
      have B4 := Lib.hid (below_chain B3.out (below_drewN (Below.refl _ _) q4))
      clear B3 X3 C3 S3
      clear S4
      go_wp2_with fail
      refine (wantTurn_all m gc _ X _ (by omega) X4.out).mono ?_
      rintro e w5 ⟨ta, tc, rfl, hO5, hb5⟩
      rw [K2.out] at hO5 ⊢
      rw [K3.out]
      have T5 := Lib.hid hO5.rd
      have X5 := Lib.hid (X4.out.below (Nat.le_refl _) hb5)
      have C5 := Lib.hid (C4.out.below (Nat.le_refl _) hb5)
      have B5 := Lib.hid (below_chain B4.out hb5)
      clear hb5 B4 X4 C4
      clear hO5
      go_wp2_with fail
      refine (wantCircles_all m tc _ (turnW m X) k _ (by omega) T5.out hik).mono ?_
      rintro e w6 ⟨Da, Dc, DA, DC, rfl, hO6, hb6⟩
      rw [K5.out] at hO6 ⊢
      rw [K4.out]
      have D6 := Lib.hid hO6.tab
      have X6 := Lib.hid (X5.out.below (Nat.le_refl _) hb6)
      have C6 := Lib.hid (C5.out.below (Nat.le_refl _) hb6)
      have T6 := Lib.hid (T5.out.below (Nat.le_refl _) hb6)
      have B6 := Lib.hid (below_chain B5.out hb6)
      clear hb6 B5 X5 C5 T5
      clear hO6
      clear D6
      clear T6
      go_wp2_with fail
      go_loopw [13] (fun s wi => ∃ i : Nat, i ≤ l ∧ s = .int .i64 i ∧ Below w6.heap.size w6 wi) (fun s _ => l - (intOf s).toNat)
      case atStart => exact ⟨0, Nat.zero_le _, rfl, Below.refl _ _⟩
      case round =>
        rename World => wi
        obtain ⟨i, hi, rfl, hbi⟩ := hrel
        have BI := Lib.hid hbi
        have XI := Lib.hid (X6.out.below (Nat.le_refl _) hbi)
        have CI := Lib.hid (C6.out.below (Nat.le_refl _) hbi)
        have hszi := hbi.size
        clear hbi
        by_cases hlt : i < l
        · obtain ⟨ba, oa, rfl, hca, hra⟩ := CI.out i hlt
          have RA := Lib.hid hra
          have T1 := Lib.hid (KC.out i hlt)
          have hL1 := KL.out i hlt
          obtain ⟨p, hp⟩ : ∃ p, p = lenL LL i := ⟨_, rfl⟩
          obtain ⟨aA, haA⟩ : ∃ aA, aA = CA i := ⟨_, rfl⟩
          obtain ⟨cA, hcA⟩ : ∃ cA, cA = CC i := ⟨_, rfl⟩
          rw [← hp, ← haA, ← hcA] at hca
          rw [← hp, ← haA] at RA
          rw [← hp] at T1 hL1
          have d1 : decide (k < (p : Int)) = false := by simp; omega
          have i1 : (0 : Int) ≤ (i : Int) := by omega
          have i2 : (i : Int) < (l : Int) := by omega
          have HC := Lib.hid (fun w (h1 : Rd w (some ⟨ga, 0, none⟩) m X) (h2 : Rd w aA p (nthL LL i)) => wantCircle_all m gc (some ⟨ga, 0, none⟩) X p cA aA (nthL LL i) w (by omega) h1 (by omega) h2)
          have hcr : ∀ r : Later wi, r.W.cell? ⟨ba, oa + i, none⟩ = some (.slice aA p cA) := fun r => later_cell hca r
          clear hra hca
          by_cases h0 : i = 0
          · have d2 : decide ((0 : Int) < (i : Int)) = false := by simp; omega
            have d3 : decide (0 < i) = false := by simp; omega
            clear h0 hp haA hcA
            go_wp2
            refine wp_region_later (by kernel_rfl) (by kernel_rfl) ?_
            repeat go_big_quiet_step ((go_at_call 15; exact calls_later _ ((HC.out _ (XI.out.below (Nat.le_refl _) (Later.h _)) (RA.out.below (Nat.le_refl _) (Later.h _))).mono fun e w' ⟨he, hw⟩ => ⟨he.trans (by rw [T1.out]), hw⟩)))
            refine wpQuiet_nil ?_
            rintro _ ⟨r, rfl⟩
            have B9 := Lib.hid r.h
            clear d1 d2 d3 i1 i2
            go_wp2_with fail
            go_roundw
            case rel => exact ⟨i + 1, by omega, by go_num, BI.out.trans (B9.out.mono hszi)⟩
            case measure => simp [intOf]; omega
          · obtain ⟨j, hj⟩ : ∃ j, i = j + 1 := ⟨i - 1, by omega⟩
            have hjl : j < l := by omega
            have T2 := Lib.hid (KS.out i j hlt hjl (by omega))
            have hL2 := KL.out j hjl
            obtain ⟨bb, ob, hbe, hcb, hrb⟩ := CI.out j hjl
            simp only [Option.some.injEq, Addr.mk.injEq, and_true] at hbe
            obtain ⟨rfl, rfl⟩ := hbe
            have RB := Lib.hid hrb
            obtain ⟨q, hq⟩ : ∃ q, q = lenL LL j := ⟨_, rfl⟩
            obtain ⟨aB, haB⟩ : ∃ aB, aB = CA j := ⟨_, rfl⟩
            obtain ⟨cB, hcB⟩ : ∃ cB, cB = CC j := ⟨_, rfl⟩
            rw [← hq, ← haB, ← hcB] at hcb
            rw [← hq, ← haB] at RB
            rw [← hp, ← hq] at T2
            rw [← hq] at hL2
            have hp1 : p ≤ 9223372036854775807 := by omega
            have hq1 : q ≤ 9223372036854775807 := by omega
            have d2 : decide ((0 : Int) < (i : Int)) = true := by simp; omega
            have d3 : decide (0 < i) = true := by simp; omega
            have j1 : (0 : Int) ≤ (j : Int) := by omega
            have j2 : (j : Int) < (l : Int) := by omega
            have hwj : IntKind.i64.wrap ((i : Int) - 1) = (j : Int) := by rw [show (i : Int) - 1 = (j : Int) by omega]; exact IntWalk.i64_in _ (by omega)
            have HS := Lib.hid (fun w (h1 : Rd w aA p (nthL LL i)) (h2 : Rd w aB q (nthL LL j)) => sameInts_any p q cA cB aA aB (nthL LL i) (nthL LL j) w hp1 hq1 h1 h2)
            have hcs : ∀ r : Later wi, r.W.cell? ⟨ba, oa + j, none⟩ = some (.slice aB q cB) := fun r => later_cell hcb r
            clear h0 hp haA hcA hq haB hcB hrb hj hcb
            go_wp2
            refine wp_region_later (by kernel_rfl) (by kernel_rfl) ?_
            repeat go_big_quiet_step ((first | (go_at_call 15; exact calls_later _ ((HC.out _ (XI.out.below (Nat.le_refl _) (Later.h _)) (RA.out.below (Nat.le_refl _) (Later.h _))).mono fun e w' ⟨he, hw⟩ => ⟨he.trans (by rw [T1.out]), hw⟩)) | (go_at_call 16; exact calls_later _ ((HS.out _ (RA.out.below (Nat.le_refl _) (Later.h _)) (RB.out.below (Nat.le_refl _) (Later.h _))).mono fun e w' ⟨he, q, hw⟩ => ⟨he.trans (by rw [T2.out]), hw ▸ below_drewN (Below.refl _ _) q⟩))))
            refine wpQuiet_nil ?_
            rintro _ ⟨r, rfl⟩
            have B9 := Lib.hid r.h
            clear d1 d2 d3 i1 i2 j1 j2 hwj
            go_wp2_with fail
            go_roundw
            case rel => exact ⟨i + 1, by omega, by go_num, BI.out.trans (B9.out.mono hszi)⟩
            case measure => simp [intOf]; omega
        · obtain rfl : l = i := by omega
          go_wp2_with fail
          go_ret
          exact ⟨rfl, below_chain B6.out BI.out⟩
    · have K1 := Lib.hid (tt_no h)
      have SM := Lib.hid (tt_of (same_all 0 (lenL []) (nthL [])))
      rw [circsA_no h] at C3 S3 ⊢
      rw [K1.out]
      clear h
      go_wp2_with fail
      refine (sameRows_any 0 0 Cc Sc _ _ _ _ _ _ _ _ _ _ _ (by omega) (by omega) (fun r hr => absurd hr (Nat.not_lt_zero r)) (fun r hr => absurd hr (Nat.not_lt_zero r)) C3.out S3.out).mono ?_
      rintro e w4 ⟨rfl, q4, rfl⟩
      rw [SM.out]
      have C4 := Lib.hid (C3.out.drewN q4)
      have S4 := Lib.hid (S3.out.drewN q4)
      clear C3 S3 X3
      go_wp2_with fail
      refine (sameRows_any 0 0 Cc Sc _ _ _ _ _ _ _ _ _ _ _ (by omega) (by omega) (fun r hr => absurd hr (Nat.not_lt_zero r)) (fun r hr => absurd hr (Nat.not_lt_zero r)) C4.out S4.out).mono ?_
      rintro e w5 ⟨rfl, q5, rfl⟩
      rw [SM.out]
      clear C4 S4
      go_wp2_with fail
      go_ret
      exact ⟨rfl, below_chain B3.out (below_drewN (Below.refl _ _) (q4 + q5))⟩
  · have hd : 1048576 < n := by omega
    clear hb hab
    go_enter Try.func3, Try.ntmps3
    go_wp2
    go_ret
    exact ⟨rfl, Below.refl _ _⟩
end Go.Proofs.Yteigenmagifplaa
